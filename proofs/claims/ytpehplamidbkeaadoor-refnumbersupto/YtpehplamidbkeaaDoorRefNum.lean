/-
  THE WALKS of stoleref1.number, named and reference: each returns what the plain function of the bytes gives, and turns nothing that was there.
-/
import Derived.Test.YtpehplamidbkeaaDoorRefTok
import Derived.Test.YtpehplamidbkeaaDoorRDec
namespace Go.Proofs.YtpehplamidbkeaaDoor
open Go.RowKit

def Pl.numP (s : List UInt8) : Nat × Bool := match Pl.numR s with | some v => (v, true) | none => (0, false)
def Pl.allP (base : Nat) (s : List UInt8) (x : Nat) : Nat × Bool := match Pl.numAll base s x with | some v => (v, true) | none => (0, false)
theorem Rt.ret_pair {p q : Nat × Bool} (h : p = q) : Ending.returned (.tuple #[.int .i64 (p.1 : Nat), .bool p.2]) = .returned (.tuple #[.int .i64 (q.1 : Nat), .bool q.2]) := by rw [h]
theorem Rt.all_end (base : Nat) (s : ByteArray) (k x : Nat) (h : s.size ≤ k) : Pl.allP base (s.data.toList.drop k) x = (x, true) := by
  rw [List.drop_of_length_le (by rw [Array.length_toList]; exact h)]; rfl
theorem Rt.all_bad (base : Nat) (s : ByteArray) (k x d : Nat) (h : k < s.size) (hd : Pl.dig s[k] = d) (hb : base ≤ d) : Pl.allP base (s.data.toList.drop k) x = (0, false) := by
  rw [Rd.drop_cons s k h, Pl.allP, Pl.numAll, if_neg (by omega)]
theorem Rt.all_go (base : Nat) (s : ByteArray) (k x d : Nat) (h : k < s.size) (hd : Pl.dig s[k] = d) (hb : d < base) : Pl.allP base (s.data.toList.drop k) x = Pl.allP base (s.data.toList.drop (k + 1)) (x * base + d) := by
  rw [Rd.drop_cons s k h, Pl.allP, Pl.numAll, if_pos (by omega), hd]; rfl
theorem Rt.hex_at (c : UInt8) (d : Nat) (hd : Pl.dig c = d) (z : Int) (hz : z = if d = 16 then -1 else (d : Int)) (w : World) :
    Calls Tryd.prog 42 #[.int .u8 c.toNat] w fun e w' => e = .returned (.int .i64 z) ∧ w' = w := by
  have h := Rt.hex c w
  have e : Pl.hexI c = z := by rw [hz, Pl.hexI, hd]
  rwa [e] at h
theorem Rt.nonempty (s : ByteArray) (h : 0 < s.size) : ¬ s.toList = [] := by
  rw [Lib.toList_data]
  intro e
  have := congrArg List.length e
  rw [Wk.len_data, List.length_nil] at this
  omega
theorem Rt.empty (s : ByteArray) (h : s.size = 0) : s.toList = [] := by
  rw [Lib.toList_data]
  exact List.eq_nil_of_length_eq_zero (by rw [Wk.len_data]; exact h)
theorem Rt.numR_empty (s : ByteArray) (h : s.size = 0) : Pl.numP s.data.toList = (0, false) := by
  have : s.data.toList = [] := List.eq_nil_of_length_eq_zero (by rw [Wk.len_data]; exact h)
  rw [this]; rfl
theorem Rt.numR_hex (s p : ByteArray) (h : 0 < s.size) (hc : (Pl.lowB s[0]).toNat = 120) (hp : p.data.toList = s.data.toList.drop 1) : Pl.numP s.data.toList = if p.size = 0 ∨ 6 < p.size then (0, false) else Pl.allP 16 p.data.toList 0 := by
  have hd := Rd.drop_cons s 0 h
  rw [List.drop_zero, Nat.zero_add, ← hp] at hd
  have hx : s[0] = 120 ∨ s[0] = 88 := by
    rw [Pl.lowB_toNat] at hc
    split at hc
    · right; exact UInt8.toNat_inj.1 (by show _ = 88; omega)
    · left; exact UInt8.toNat_inj.1 (by show _ = 120; omega)
  rw [hd, Pl.numP, Pl.numR, if_pos (by simpa using hx), List.tail_cons]
  have e : (p.data.toList = [] ∨ 6 < p.data.toList.length) ↔ (p.size = 0 ∨ 6 < p.size) := by
    rw [Wk.len_data]
    constructor
    · rintro (h | h)
      · left; rw [← Wk.len_data, h]; rfl
      · exact .inr h
    · rintro (h | h)
      · left; exact List.eq_nil_of_length_eq_zero (by rw [Wk.len_data]; exact h)
      · exact .inr h
  by_cases g : p.size = 0 ∨ 6 < p.size
  · rw [if_pos (e.2 g), if_pos g]
  · rw [if_neg (fun x => g (e.1 x)), if_neg g]; rfl
theorem Rt.numR_ten (s : ByteArray) (h : 0 < s.size) (hc : (Pl.lowB s[0]).toNat ≠ 120) : Pl.numP s.data.toList = if 7 < s.size then (0, false) else Pl.allP 10 s.data.toList 0 := by
  have hd := Rd.drop_cons s 0 h
  rw [List.drop_zero, Nat.zero_add] at hd
  have hx : ¬ (s.data.toList.head? = some 120 ∨ s.data.toList.head? = some 88) := by
    rw [hd]
    rintro (e | e)
    · simp at e; rw [e] at hc; exact hc rfl
    · simp at e; rw [e] at hc; exact hc rfl
  have e : (s.data.toList = [] ∨ 7 < s.data.toList.length) ↔ 7 < s.size := by
    rw [Wk.len_data]
    refine ⟨?_, .inr⟩
    rintro (e | e)
    · rw [hd] at e; cases e
    · exact e
  rw [Pl.numP, Pl.numR, if_neg hx]
  by_cases g : 7 < s.size
  · rw [if_pos (e.2 g), if_pos g]
  · rw [if_neg (fun x => g (e.1 x)), if_neg g]; rfl

set_option maxRecDepth 100000 in
set_option maxHeartbeats 2000000 in
theorem Rt.num0 (s : ByteArray) (w : World) (h : s.size = 0) :
    Calls Tryd.prog 34 #[.string s] w fun e w' => e = .returned (.tuple #[.int .i64 ((Pl.numP s.data.toList).1 : Nat), .bool (Pl.numP s.data.toList).2]) ∧ w' = w := by
  have hs := Rt.empty s h
  have hs' : s.toList.isEmpty = true := by rw [hs]; rfl
  have HR : Hid (Pl.numP s.data.toList = (0, false)) := Rt.numR_empty s h
  clear h
  go_enter Tryd.func34, Tryd.ntmps34
  go_wp2
  go_ret2
  exact ⟨Rt.ret_pair HR.out.symm, rfl⟩

set_option maxRecDepth 100000 in
set_option maxHeartbeats 2000000 in
theorem Rt.numHex (s : ByteArray) (w : World) (h : 0 < s.size) (hc : (Pl.lowB s[0]).toNat = 120) :
    Calls Tryd.prog 34 #[.string s] w fun e w' => e = .returned (.tuple #[.int .i64 ((Pl.numP s.data.toList).1 : Nat), .bool (Pl.numP s.data.toList).2]) ∧ w' = w := by
  obtain ⟨p, hp⟩ : ∃ p, s.extract 1 s.size = p := ⟨_, rfl⟩
  have hpd : p.data.toList = s.data.toList.drop 1 := by rw [← hp]; exact Wk.rest_data s 1
  have hpz : p.size + 1 = s.size := by
    rw [← Wk.len_data p, hpd, List.length_drop, Wk.len_data]; omega
  have hs := Rt.nonempty s h
  have hs' : s.toList.isEmpty = false := by rw [List.isEmpty_eq_false_iff]; exact hs
  have HR0 : Hid (Pl.numP s.data.toList = if p.size = 0 ∨ 6 < p.size then (0, false) else Pl.allP 16 p.data.toList 0) := Rt.numR_hex s p h hc hpd
  have cl := Sz.low s[0] w
  have hc' : ((Pl.lowB s[0]).toNat : Int) = 120 := by rw [hc]; rfl
  rw [hc'] at cl
  clear hc'
  have hcut : ∀ u : World, (Instr.slice 9 (.string s) (some (.int .i64 1)) none none).run Tryd.prog u = .ok (.string p) u := fun u => by
    have h := Rr.run_from u s 1 (by omega) (by omega)
    rw [← hp]; exact h
  clear hp hpd hc
  by_cases h0 : p.size = 0
  · have hpe := Rt.empty p h0
    have hpe' : p.toList.isEmpty = true := by rw [hpe]; rfl
    have HR : Hid (Pl.numP s.data.toList = (0, false)) := by show _ = _; rw [HR0.out, if_pos (.inl h0)]
    clear HR0 h0 hpz
    go_enter Tryd.func34, Tryd.ntmps34
    go_wp2_with (go_at_call 33; refine cl.mono ?_; rintro e w1 ⟨rfl, rfl⟩)
    go_ret2
    exact ⟨Rt.ret_pair HR.out.symm, rfl⟩
  · have hpe := Rt.nonempty p (by omega)
    have hpe' : p.toList.isEmpty = false := by rw [List.isEmpty_eq_false_iff]; exact hpe
    by_cases h6 : 6 < p.size
    · have HR : Hid (Pl.numP s.data.toList = (0, false)) := by show _ = _; rw [HR0.out, if_pos (.inr h6)]
      clear HR0 hpz
      go_enter Tryd.func34, Tryd.ntmps34
      go_wp2_with (go_at_call 33; refine cl.mono ?_; rintro e w1 ⟨rfl, rfl⟩)
      go_ret2
      exact ⟨Rt.ret_pair HR.out.symm, rfl⟩
    · have HR : Hid (Pl.numP s.data.toList = Pl.allP 16 p.data.toList 0) := by show _ = _; rw [HR0.out, if_neg (by omega)]
      clear HR0 hpz
      go_enter Tryd.func34, Tryd.ntmps34
      go_wp2_with (go_at_call 33; refine cl.mono ?_; rintro e w1 ⟨rfl, rfl⟩)
      go_loop [6, 7] (fun v i => ∃ x k : Nat, k ≤ p.size ∧ v = .int .i64 x ∧ i = .int .i64 k ∧ x < 16 ^ k ∧ Hid (Pl.allP 16 (p.data.toList.drop k) x = Pl.allP 16 p.data.toList 0)) (fun _ i => p.size - (intOf i).toNat)
      case atStart => exact ⟨0, 0, Nat.zero_le _, rfl, rfl, by decide, rfl⟩
      case round =>
        obtain ⟨x, k, hk1, rfl, rfl, hx0, HE⟩ := hrel
        have hx : x < 16777216 := Rd.pow_le 16 x k 6 hx0 (by decide) (by omega)
        have HX : Hid (x < 16 ^ k) := hx0
        clear hx0
        by_cases hlt : k < p.size
        · obtain ⟨d, hd⟩ : ∃ d, Pl.dig p[k] = d := ⟨_, rfl⟩
          obtain ⟨n, hn⟩ : ∃ n, p[k].toNat = n := ⟨_, rfl⟩
          have hd16 : d ≤ 16 := by rw [← hd]; exact Pl.dig_le _
          by_cases hb : d < 16
          · have cd := Rt.hex_at p[k] d hd (d : Int) (by rw [if_neg (by omega)]) w1
            rw [hn] at cd
            have hb0 : decide ((d : Int) < 0) = false := decide_eq_false (by omega)
            have hb1 : decide ((16 : Int) ≤ (d : Int)) = false := decide_eq_false (by omega)
            have HP := Rd.pow 16 x k d HX.out hb
            have HG := Rt.all_go 16 p k x d hlt hd hb
            have HN : Hid (Pl.allP 16 (p.data.toList.drop (k + 1)) (x * 16 + d) = Pl.allP 16 p.data.toList 0 ∧ x * 16 + d < 16 ^ (k + 1)) := ⟨by rw [← HG]; exact HE.out, HP⟩
            clear HP HG HX HE hd
            go_wp2_with (go_at_call 42; refine cd.mono ?_; rintro e w2 ⟨rfl, rfl⟩)
            go_round
            case rel => exact ⟨x * 16 + d, k + 1, by omega, by go_num, by go_num, HN.out.2, HN.out.1⟩
            case measure => simp [intOf]; omega
          · have HB : Hid (Pl.numP s.data.toList = (0, false)) := by
              show _ = _
              rw [HR.out, ← HE.out]
              exact Rt.all_bad _ p k x d hlt hd (by omega)
            by_cases h16 : d = 16
            · have cd := Rt.hex_at p[k] d hd (-1) (by rw [if_pos h16]) w1
              rw [hn] at cd
              clear HX HE hd h16 hb
              go_wp2_with (go_at_call 42; refine cd.mono ?_; rintro e w2 ⟨rfl, rfl⟩)
              go_ret2
              exact ⟨Rt.ret_pair HB.out.symm, rfl⟩
            · have cd := Rt.hex_at p[k] d hd (d : Int) (by rw [if_neg h16]) w1
              rw [hn] at cd
              have hb0 : decide ((d : Int) < 0) = false := decide_eq_false (by omega)
              have hb1 : decide ((16 : Int) ≤ (d : Int)) = true := decide_eq_true (by omega)
              clear HX HE hd
              go_wp2_with (go_at_call 42; refine cd.mono ?_; rintro e w2 ⟨rfl, rfl⟩)
              go_ret2
              exact ⟨Rt.ret_pair HB.out.symm, rfl⟩
        · have HB : Hid (Pl.numP s.data.toList = (x, true)) := by
            show _ = _
            rw [HR.out, ← HE.out]
            exact Rt.all_end _ p k x (by omega)
          clear HX HE
          go_wp2
          go_ret2
          exact ⟨Rt.ret_pair HB.out.symm, rfl⟩

set_option maxRecDepth 100000 in
set_option maxHeartbeats 2000000 in
theorem Rt.numTen (s : ByteArray) (w : World) (h : 0 < s.size) (hc : (Pl.lowB s[0]).toNat ≠ 120) :
    Calls Tryd.prog 34 #[.string s] w fun e w' => e = .returned (.tuple #[.int .i64 ((Pl.numP s.data.toList).1 : Nat), .bool (Pl.numP s.data.toList).2]) ∧ w' = w := by
  have hs := Rt.nonempty s h
  have hs' : s.toList.isEmpty = false := by rw [List.isEmpty_eq_false_iff]; exact hs
  have HR0 : Hid (Pl.numP s.data.toList = if 7 < s.size then (0, false) else Pl.allP 10 s.data.toList 0) := Rt.numR_ten s h hc
  have cl := Sz.low s[0] w
  obtain ⟨m, hm⟩ : ∃ m, (Pl.lowB s[0]).toNat = m := ⟨_, rfl⟩
  rw [hm] at cl hc
  have hb : ((m : Int) == 120) = false := beq_eq_false_iff_ne.2 (by omega)
  clear hm hc
  by_cases h7 : 7 < s.size
  · have HR : Hid (Pl.numP s.data.toList = (0, false)) := by show _ = _; rw [HR0.out, if_pos h7]
    clear HR0
    go_enter Tryd.func34, Tryd.ntmps34
    go_wp2_with (go_at_call 33; refine cl.mono ?_; rintro e w1 ⟨rfl, rfl⟩)
    go_ret2
    exact ⟨Rt.ret_pair HR.out.symm, rfl⟩
  · have HR : Hid (Pl.numP s.data.toList = Pl.allP 10 s.data.toList 0) := by show _ = _; rw [HR0.out, if_neg h7]
    clear HR0
    go_enter Tryd.func34, Tryd.ntmps34
    go_wp2_with (go_at_call 33; refine cl.mono ?_; rintro e w1 ⟨rfl, rfl⟩)
    go_loop [6, 7] (fun v i => ∃ x k : Nat, k ≤ s.size ∧ v = .int .i64 x ∧ i = .int .i64 k ∧ x < 10 ^ k ∧ Hid (Pl.allP 10 (s.data.toList.drop k) x = Pl.allP 10 s.data.toList 0)) (fun _ i => s.size - (intOf i).toNat)
    case atStart => exact ⟨0, 0, Nat.zero_le _, rfl, rfl, by decide, rfl⟩
    case round =>
      obtain ⟨x, k, hk1, rfl, rfl, hx0, HE⟩ := hrel
      have hx : x < 10000000 := Rd.pow_le 10 x k 7 hx0 (by decide) (by omega)
      have HX : Hid (x < 10 ^ k) := hx0
      clear hx0
      by_cases hlt : k < s.size
      · obtain ⟨d, hd⟩ : ∃ d, Pl.dig s[k] = d := ⟨_, rfl⟩
        obtain ⟨n, hn⟩ : ∃ n, s[k].toNat = n := ⟨_, rfl⟩
        have hd16 : d ≤ 16 := by rw [← hd]; exact Pl.dig_le _
        by_cases hb : d < 10
        · have cd := Rt.hex_at s[k] d hd (d : Int) (by rw [if_neg (by omega)]) w1
          rw [hn] at cd
          have hb0 : decide ((d : Int) < 0) = false := decide_eq_false (by omega)
          have hb1 : decide ((10 : Int) ≤ (d : Int)) = false := decide_eq_false (by omega)
          have HP := Rd.pow 10 x k d HX.out hb
          have HG := Rt.all_go 10 s k x d hlt hd hb
          have HN : Hid (Pl.allP 10 (s.data.toList.drop (k + 1)) (x * 10 + d) = Pl.allP 10 s.data.toList 0 ∧ x * 10 + d < 10 ^ (k + 1)) := ⟨by rw [← HG]; exact HE.out, HP⟩
          clear HP HG HX HE hd
          go_wp2_with (go_at_call 42; refine cd.mono ?_; rintro e w2 ⟨rfl, rfl⟩)
          go_round
          case rel => exact ⟨x * 10 + d, k + 1, by omega, by go_num, by go_num, HN.out.2, HN.out.1⟩
          case measure => simp [intOf]; omega
        · have HB : Hid (Pl.numP s.data.toList = (0, false)) := by
            show _ = _
            rw [HR.out, ← HE.out]
            exact Rt.all_bad _ s k x d hlt hd (by omega)
          by_cases h16 : d = 16
          · have cd := Rt.hex_at s[k] d hd (-1) (by rw [if_pos h16]) w1
            rw [hn] at cd
            clear HX HE hd h16 hb
            go_wp2_with (go_at_call 42; refine cd.mono ?_; rintro e w2 ⟨rfl, rfl⟩)
            go_ret2
            exact ⟨Rt.ret_pair HB.out.symm, rfl⟩
          · have cd := Rt.hex_at s[k] d hd (d : Int) (by rw [if_neg h16]) w1
            rw [hn] at cd
            have hb0 : decide ((d : Int) < 0) = false := decide_eq_false (by omega)
            have hb1 : decide ((10 : Int) ≤ (d : Int)) = true := decide_eq_true (by omega)
            clear HX HE hd
            go_wp2_with (go_at_call 42; refine cd.mono ?_; rintro e w2 ⟨rfl, rfl⟩)
            go_ret2
            exact ⟨Rt.ret_pair HB.out.symm, rfl⟩
      · have HB : Hid (Pl.numP s.data.toList = (x, true)) := by
          show _ = _
          rw [HR.out, ← HE.out]
          exact Rt.all_end _ s k x (by omega)
        clear HX HE
        go_wp2
        go_ret2
        exact ⟨Rt.ret_pair HB.out.symm, rfl⟩

theorem Rt.number (s : ByteArray) (w : World) :
    Calls Tryd.prog 34 #[.string s] w fun e w' => e = .returned (.tuple #[.int .i64 ((Pl.numP s.data.toList).1 : Nat), .bool (Pl.numP s.data.toList).2]) ∧ w' = w := by
  by_cases h : s.size = 0
  · exact Rt.num0 s w h
  · by_cases hc : (Pl.lowB (s[0]'(by omega))).toNat = 120
    · exact Rt.numHex s w (by omega) hc
    · exact Rt.numTen s w (by omega) hc

def Pl.nameS (b : List UInt8) : List UInt8 := (Pl.nameR Pl.names0 b).getD []
theorem Rt.ret_str {a b : List UInt8} (h : a = b) : Ending.returned (.string ⟨a.toArray⟩) = .returned (.string ⟨b.toArray⟩) := by rw [h]
set_option maxRecDepth 100000 in
theorem Rt.named (s : ByteArray) (w : World) :
    Calls Tryd.prog 35 #[.string s] w fun e w' => e = .returned (.string ⟨(Pl.nameS s.data.toList).toArray⟩) ∧ w' = w := by
  by_cases e0 : s.data.toList = [97, 109, 112]
  · have b0 : (s.toList == [97, 109, 112]) = true := by rw [Lib.toList_data]; exact beq_iff_eq.2 e0
    have HR : Hid ([38] = Pl.nameS s.data.toList) := by show _ = _; rw [e0]; rfl
    clear e0
    go_enter Tryd.func35, Tryd.ntmps35
    go_wp2
    go_ret
    exact ⟨Rt.ret_str HR.out, rfl⟩
  have b0 : (s.toList == [97, 109, 112]) = false := by rw [Lib.toList_data]; exact beq_eq_false_iff_ne.2 e0
  by_cases e1 : s.data.toList = [108, 116]
  · have b1 : (s.toList == [108, 116]) = true := by rw [Lib.toList_data]; exact beq_iff_eq.2 e1
    have HR : Hid ([60] = Pl.nameS s.data.toList) := by show _ = _; rw [e1]; rfl
    clear e1
    go_enter Tryd.func35, Tryd.ntmps35
    go_wp2
    go_ret
    exact ⟨Rt.ret_str HR.out, rfl⟩
  have b1 : (s.toList == [108, 116]) = false := by rw [Lib.toList_data]; exact beq_eq_false_iff_ne.2 e1
  by_cases e2 : s.data.toList = [103, 116]
  · have b2 : (s.toList == [103, 116]) = true := by rw [Lib.toList_data]; exact beq_iff_eq.2 e2
    have HR : Hid ([62] = Pl.nameS s.data.toList) := by show _ = _; rw [e2]; rfl
    clear e2
    go_enter Tryd.func35, Tryd.ntmps35
    go_wp2
    go_ret
    exact ⟨Rt.ret_str HR.out, rfl⟩
  have b2 : (s.toList == [103, 116]) = false := by rw [Lib.toList_data]; exact beq_eq_false_iff_ne.2 e2
  by_cases e3 : s.data.toList = [113, 117, 111, 116]
  · have b3 : (s.toList == [113, 117, 111, 116]) = true := by rw [Lib.toList_data]; exact beq_iff_eq.2 e3
    have HR : Hid ([34] = Pl.nameS s.data.toList) := by show _ = _; rw [e3]; rfl
    clear e3
    go_enter Tryd.func35, Tryd.ntmps35
    go_wp2
    go_ret
    exact ⟨Rt.ret_str HR.out, rfl⟩
  have b3 : (s.toList == [113, 117, 111, 116]) = false := by rw [Lib.toList_data]; exact beq_eq_false_iff_ne.2 e3
  by_cases e4 : s.data.toList = [97, 112, 111, 115]
  · have b4 : (s.toList == [97, 112, 111, 115]) = true := by rw [Lib.toList_data]; exact beq_iff_eq.2 e4
    have HR : Hid ([39] = Pl.nameS s.data.toList) := by show _ = _; rw [e4]; rfl
    clear e4
    go_enter Tryd.func35, Tryd.ntmps35
    go_wp2
    go_ret
    exact ⟨Rt.ret_str HR.out, rfl⟩
  have b4 : (s.toList == [97, 112, 111, 115]) = false := by rw [Lib.toList_data]; exact beq_eq_false_iff_ne.2 e4
  by_cases e5 : s.data.toList = [110, 98, 115, 112]
  · have b5 : (s.toList == [110, 98, 115, 112]) = true := by rw [Lib.toList_data]; exact beq_iff_eq.2 e5
    have HR : Hid ([194, 160] = Pl.nameS s.data.toList) := by show _ = _; rw [e5]; rfl
    clear e5
    go_enter Tryd.func35, Tryd.ntmps35
    go_wp2
    go_ret
    exact ⟨Rt.ret_str HR.out, rfl⟩
  have b5 : (s.toList == [110, 98, 115, 112]) = false := by rw [Lib.toList_data]; exact beq_eq_false_iff_ne.2 e5
  by_cases e6 : s.data.toList = [99, 111, 112, 121]
  · have b6 : (s.toList == [99, 111, 112, 121]) = true := by rw [Lib.toList_data]; exact beq_iff_eq.2 e6
    have HR : Hid ([194, 169] = Pl.nameS s.data.toList) := by show _ = _; rw [e6]; rfl
    clear e6
    go_enter Tryd.func35, Tryd.ntmps35
    go_wp2
    go_ret
    exact ⟨Rt.ret_str HR.out, rfl⟩
  have b6 : (s.toList == [99, 111, 112, 121]) = false := by rw [Lib.toList_data]; exact beq_eq_false_iff_ne.2 e6
  have HR : Hid ([] = Pl.nameS s.data.toList) := by
    show _ = _
    simp [Pl.nameS, Pl.nameR, Pl.names0, e0, e1, e2, e3, e4, e5, e6]
  clear e0 e1 e2 e3 e4 e5 e6
  go_enter Tryd.func35, Tryd.ntmps35
  go_wp2
  go_ret
  exact ⟨Rt.ret_str HR.out, rfl⟩
end Go.Proofs.YtpehplamidbkeaaDoor

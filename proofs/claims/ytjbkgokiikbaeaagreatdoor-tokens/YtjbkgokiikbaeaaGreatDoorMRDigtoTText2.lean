/-
  THE WALKS of refs.digit, refs.signOf and refs.numbered: each call returns what the plain function of the bytes gives, and turns nothing.
-/
import Derived.Test.YtjbkgokiikbaeaaGreatDoorMRToktoNorm
import Derived.Test.YtjbkgokiikbaeaaGreatDoorProg
import Derived.WalkKit
import Derived.BigCall
import Derived.Laws.Runes
import Derived.Deep.QuietTactic
import Derived.BigQuiet
import Derived.Deep.RegionWith
import Derived.Deep.Cut
import Derived.Deep.CutRange
import Derived.Test.YtjbkgokiikbaeaaGreatDoorMTBoxtoShelf5
import Derived.Lib.SplitLaws
namespace Go.Proofs.YtjbkgokiikbaeaaGreatDoor
open Go.RowKit

theorem Pl.dig_eq (c : UInt8) (k : Nat) (hk : c.toNat = k) : Pl.dig c = if 48 ≤ k ∧ k ≤ 57 then k - 48 else if 97 ≤ k ∧ k ≤ 102 then k - 87 else if 65 ≤ k ∧ k ≤ 70 then k - 55 else 16 := by
  subst hk; rfl

set_option maxHeartbeats 1000000 in
theorem Rd.digit (c : UInt8) (w : World) :
    Calls Tryz.prog 131 #[.int .u8 c.toNat] w fun e w' => e = .returned (.int .i64 (Pl.dig c : Nat)) ∧ w' = w := by
  have hc := c.toNat_lt
  obtain ⟨k, hk⟩ : ∃ k, c.toNat = k := ⟨_, rfl⟩
  have hl := Pl.dig_eq c k hk
  rw [hk] at hc ⊢
  generalize Pl.dig c = m at *
  clear hk
  by_cases h0 : 48 ≤ k
  · by_cases h1 : k ≤ 57
    · rw [if_pos ⟨h0, h1⟩] at hl
      subst hl
      go_enter Tryz.func131, Tryz.ntmps131
      go_wp2
      go_ret
      exact ⟨by simp; omega, rfl⟩
    · rw [if_neg (by omega)] at hl
      by_cases h2 : 97 ≤ k
      · by_cases h3 : k ≤ 102
        · rw [if_pos ⟨h2, h3⟩] at hl
          subst hl
          go_enter Tryz.func131, Tryz.ntmps131
          go_wp2
          go_ret
          exact ⟨by simp; omega, rfl⟩
        · rw [if_neg (by omega), if_neg (by omega)] at hl
          subst hl
          go_enter Tryz.func131, Tryz.ntmps131
          go_wp2
          go_ret
          exact ⟨rfl, rfl⟩
      · rw [if_neg (by omega)] at hl
        by_cases h4 : 65 ≤ k
        · by_cases h5 : k ≤ 70
          · rw [if_pos ⟨h4, h5⟩] at hl
            subst hl
            go_enter Tryz.func131, Tryz.ntmps131
            go_wp2
            go_ret
            exact ⟨by simp; omega, rfl⟩
          · rw [if_neg (by omega)] at hl
            subst hl
            go_enter Tryz.func131, Tryz.ntmps131
            go_wp2
            go_ret
            exact ⟨rfl, rfl⟩
        · rw [if_neg (by omega)] at hl
          subst hl
          go_enter Tryz.func131, Tryz.ntmps131
          go_wp2
          go_ret
          exact ⟨rfl, rfl⟩
  · rw [if_neg (by omega), if_neg (by omega), if_neg (by omega)] at hl
    subst hl
    go_enter Tryz.func131, Tryz.ntmps131
    go_wp2
    go_ret
    exact ⟨rfl, rfl⟩

/-- the model's text of a rune is the plain one -/
theorem Rd.encode (x : Nat) (h0 : x ≠ 0) : Utf8.encode (x : Int) = ⟨(Pl.runeL x).toArray⟩ := by
  by_cases hv : Utf8.valid (x : Int) = true
  · have hb : ¬ (x = 0 ∨ (55296 ≤ x ∧ x ≤ 57343) ∨ 1114111 < x) := by
      simp only [Utf8.valid, Bool.or_eq_true, Bool.and_eq_true, decide_eq_true_eq] at hv
      omega
    unfold Utf8.encode Pl.runeL
    rw [if_neg hb]
    simp only [hv, if_true, Int.toNat_natCast]
    repeat' split
    all_goals rfl
  · have hb : x = 0 ∨ (55296 ≤ x ∧ x ≤ 57343) ∨ 1114111 < x := by
      simp only [Utf8.valid, Bool.or_eq_true, Bool.and_eq_true, decide_eq_true_eq] at hv
      omega
    unfold Utf8.encode Pl.runeL
    rw [if_pos hb]
    have hv' : Utf8.valid (x : Int) = false := by simpa using hv
    simp only [hv', Bool.false_eq_true, if_false]
    rfl

set_option maxHeartbeats 1000000 in
theorem Rd.signOf (x : Nat) (hx : x < 2147483648) (w : World) :
    Calls Tryz.prog 132 #[.int .i64 (x : Int)] w fun e w' => e = .returned (.string ⟨(Pl.runeL x).toArray⟩) ∧ w' = w := by
  by_cases h0 : x = 0
  · subst h0
    go_enter Tryz.func132, Tryz.ntmps132
    go_wp2
    go_ret
    exact ⟨rfl, rfl⟩
  · have hz : ((x : Int) == 0) = false := beq_eq_false_iff_ne.2 (by omega)
    have he := Rd.encode x h0
    generalize (⟨(Pl.runeL x).toArray⟩ : ByteArray) = r at *
    go_enter Tryz.func132, Tryz.ntmps132
    go_wp2
    go_ret
    exact ⟨rfl, rfl⟩

theorem Rd.drop_cons (s : ByteArray) (k : Nat) (h : k < s.size) : s.data.toList.drop k = s[k] :: s.data.toList.drop (k + 1) := by
  have h' : k < s.data.toList.length := by rw [Array.length_toList]; exact h
  rw [List.drop_eq_getElem_cons h']
  rfl
theorem Rd.get_at (s : ByteArray) (k : Nat) (h : k < s.size) : s.data.toList[k]? = some s[k] := by
  have h' : k < s.data.toList.length := by rw [Array.length_toList]; exact h
  rw [List.getElem?_eq_getElem h']
  rfl
theorem Rd.get_end (s : ByteArray) (k : Nat) (h : s.size ≤ k) : s.data.toList[k]? = none := by
  rw [List.getElem?_eq_none]
  rw [Array.length_toList]; exact h
theorem Rd.scan_end (base m : Nat) (s : ByteArray) (k x : Nat) (h : s.size ≤ k) : Pl.scan base m (s.data.toList.drop k) x k = (x, k) := by
  rw [List.drop_of_length_le (by rw [Array.length_toList]; exact h)]
  cases m <;> rfl
theorem Rd.scan_zero (base m : Nat) (l : List UInt8) (k x : Nat) (h : m = 0) : Pl.scan base m l x k = (x, k) := by
  subst h; rfl
theorem Rd.scan_stop (base m : Nat) (s : ByteArray) (k x d : Nat) (h : k < s.size) (hd : Pl.dig s[k] = d) (hb : base ≤ d) : Pl.scan base m (s.data.toList.drop k) x k = (x, k) := by
  rw [Rd.drop_cons s k h]
  cases m with
  | zero => rfl
  | succ m => rw [Pl.scan, if_neg (by omega)]
theorem Rd.scan_go (base m m' : Nat) (s : ByteArray) (k x d : Nat) (h : k < s.size) (hd : Pl.dig s[k] = d) (hb : d < base) (hm : m = m' + 1) : Pl.scan base m (s.data.toList.drop k) x k = Pl.scan base m' (s.data.toList.drop (k + 1)) (x * base + d) (k + 1) := by
  subst hm
  rw [Rd.drop_cons s k h, Pl.scan, if_pos (by omega), hd]
theorem Rd.num_none (l : List UInt8) (start base most x k : Nat) (h : Pl.scan base most (l.drop start) 0 start = (x, k)) (hn : k = start ∨ l[k]? ≠ some 59) : Pl.numL l start base most = ([], 0) := by
  unfold Pl.numL
  rw [h]
  exact if_pos hn
theorem Rd.num_some (l : List UInt8) (start base most x k : Nat) (h : Pl.scan base most (l.drop start) 0 start = (x, k)) (h0 : k ≠ start) (hn : l[k]? = some 59) : Pl.numL l start base most = (Pl.runeL x, k + 1) := by
  unfold Pl.numL
  rw [h]
  exact if_neg (by rintro (e | e); exact h0 e; exact e hn)
theorem Rd.ret_pair {p q : List UInt8 × Nat} (h : p = q) : Ending.returned (.tuple #[.string ⟨p.1.toArray⟩, .int .i64 (p.2 : Nat)]) = .returned (.tuple #[.string ⟨q.1.toArray⟩, .int .i64 (q.2 : Nat)]) := by rw [h]
theorem Rd.pow (b x j d : Nat) (h : x < b ^ j) (hd : d < b) : x * b + d < b ^ (j + 1) := by
  have : (x + 1) * b ≤ b ^ j * b := Nat.mul_le_mul_right b h
  rw [Nat.pow_succ]
  rw [Nat.add_mul] at this
  omega
theorem Rd.pow_le (b x j m : Nat) (h : x < b ^ j) (hb : 0 < b) (hm : j ≤ m) : x < b ^ m := Nat.lt_of_lt_of_le h (Nat.pow_le_pow_right hb hm)
theorem Rd.ne59 (c : UInt8) (n : Nat) (hc : c.toNat = n) (h : n ≠ 59) : some c ≠ some 59 := by
  intro e
  simp only [Option.some.injEq] at e
  subst e
  exact h hc.symm
theorem Rd.is59 (c : UInt8) (n : Nat) (hc : c.toNat = n) (h : n = 59) : some c = some 59 := by
  have : c = 59 := UInt8.toNat_inj.1 (by rw [hc, h]; rfl)
  rw [this]

set_option maxRecDepth 100000 in
set_option maxHeartbeats 4000000 in
theorem Rd.hexed (s : ByteArray) (w : World) (h0 : 2 ≤ s.size) :
    Calls Tryz.prog 118 #[.string s, .int .i64 2, .int .i64 16, .int .i64 6] w fun e w' => e = .returned (.tuple #[.string ⟨(Pl.numL s.data.toList 2 16 6).1.toArray⟩, .int .i64 ((Pl.numL s.data.toList 2 16 6).2 : Nat)]) ∧ w' = w := by
  go_enter Tryz.func118, Tryz.ntmps118
  go_wp2
  go_loop [10, 11] (fun v i => ∃ x k : Nat, 2 ≤ k ∧ k ≤ s.size ∧ k ≤ 8 ∧ v = .int .i64 x ∧ i = .int .i64 k ∧ x < 16 ^ (k - 2) ∧ Hid (Pl.scan 16 (8 - k) (s.data.toList.drop k) x k = Pl.scan 16 6 (s.data.toList.drop 2) 0 2)) (fun _ i => 8 - (intOf i).toNat)
  case atStart => exact ⟨0, 2, by omega, h0, by omega, rfl, rfl, by decide, rfl⟩
  case round =>
    obtain ⟨x, k, hk0, hk1, hk2, rfl, rfl, hx0, HE⟩ := hrel
    have hx : x < 16777216 := Rd.pow_le 16 x (k - 2) 6 hx0 (by decide) (by omega)
    have HX : Hid (x < 16 ^ (k - 2)) := hx0
    clear hx0
    by_cases hlt : k < s.size
    · obtain ⟨d, hd⟩ : ∃ d, Pl.dig s[k] = d := ⟨_, rfl⟩
      obtain ⟨n, hn⟩ : ∃ n, s[k].toNat = n := ⟨_, rfl⟩
      have hd16 : d ≤ 16 := by rw [← hd]; exact Pl.dig_le _
      have cd := Rd.digit s[k] w
      rw [hd, hn] at cd
      have HD : Hid (Pl.dig s[k] = d) := hd
      clear hd
      by_cases hm : k < 8
      · by_cases hb : d < 16
        · have hb1 : decide ((16 : Int) ≤ (d : Int)) = false := decide_eq_false (by omega)
          have HP := Rd.pow 16 x (k - 2) d HX.out hb
          have HG := Rd.scan_go 16 (8 - k) (8 - (k + 1)) s k x d hlt HD.out hb (by omega)
          have HN : Hid (Pl.scan 16 (8 - (k + 1)) (s.data.toList.drop (k + 1)) (x * 16 + d) (k + 1) = Pl.scan 16 6 (s.data.toList.drop 2) 0 2 ∧ x * 16 + d < 16 ^ (k + 1 - 2)) := by
            refine ⟨by rw [← HG]; exact HE.out, ?_⟩
            rwa [show k + 1 - 2 = k - 2 + 1 by omega]
          clear HP HG HX HE HD
          go_wp2_with (go_at_call 131; refine cd.mono ?_; rintro e w1 ⟨rfl, rfl⟩)
          go_round
          case rel => exact ⟨x * 16 + d, k + 1, by omega, by omega, by omega, by go_num, by go_num, HN.out.2, HN.out.1⟩
          case measure => simp [intOf]; omega
        · have hb1 : decide ((16 : Int) ≤ (d : Int)) = true := decide_eq_true (by omega)
          have HS : Hid (Pl.scan 16 (8 - k) (s.data.toList.drop k) x k = (x, k)) := Rd.scan_stop _ _ s k x d hlt HD.out (by omega)
          clear HX HD
          by_cases e0 : k = 2
          · have b0 : ((k : Int) == 2) = true := beq_iff_eq.2 (by omega)
            have E0 : Hid (k = 2) := e0
            clear e0
            go_wp2_with (go_at_call 131; refine cd.mono ?_; rintro e w1 ⟨rfl, rfl⟩)
            go_ret2
            exact ⟨Rd.ret_pair (Rd.num_none _ _ _ _ _ _ (HE.out.symm.trans HS.out) (by exact .inl E0.out)).symm, rfl⟩
          · have b0 : ((k : Int) == 2) = false := beq_eq_false_iff_ne.2 (by omega)
            have b1 : ((k : Int) == (s.size : Int)) = false := beq_eq_false_iff_ne.2 (by omega)
            have hg := Rd.get_at s k hlt
            have HG : Hid (s.data.toList[k]? = some s[k]) := hg
            clear hg
            by_cases e1 : n = 59
            · have b2 : ((n : Int) == 59) = true := beq_iff_eq.2 (by omega)
              have E1 : Hid (n = 59) := e1
              clear e1
              go_wp2_with (first | (go_at_call 131; refine cd.mono ?_; rintro e w1 ⟨rfl, rfl⟩) | (go_at_call 132; refine (Rd.signOf x (by omega) _).mono ?_; rintro e w1 ⟨rfl, rfl⟩))
              go_ret2
              refine ⟨Eq.trans ?_ (Rd.ret_pair (Rd.num_some _ _ _ _ _ _ (HE.out.symm.trans HS.out) e0 (by rw [HG.out]; exact Rd.is59 _ n hn E1.out)).symm), rfl⟩
              simp
            · have b2 : ((n : Int) == 59) = false := beq_eq_false_iff_ne.2 (by omega)
              go_wp2_with (go_at_call 131; refine cd.mono ?_; rintro e w1 ⟨rfl, rfl⟩)
              go_ret2
              exact ⟨Rd.ret_pair (Rd.num_none _ _ _ _ _ _ (HE.out.symm.trans HS.out) (by right; rw [HG.out]; exact Rd.ne59 _ n hn e1)).symm, rfl⟩
      · have HS : Hid (Pl.scan 16 (8 - k) (s.data.toList.drop k) x k = (x, k)) := Rd.scan_zero _ _ _ k x (by omega)
        clear HX HD
        by_cases e0 : k = 2
        · have b0 : ((k : Int) == 2) = true := beq_iff_eq.2 (by omega)
          have E0 : Hid (k = 2) := e0
          clear e0
          go_wp2
          go_ret2
          exact ⟨Rd.ret_pair (Rd.num_none _ _ _ _ _ _ (HE.out.symm.trans HS.out) (by exact .inl E0.out)).symm, rfl⟩
        · have b0 : ((k : Int) == 2) = false := beq_eq_false_iff_ne.2 (by omega)
          have b1 : ((k : Int) == (s.size : Int)) = false := beq_eq_false_iff_ne.2 (by omega)
          have hg := Rd.get_at s k hlt
          have HG : Hid (s.data.toList[k]? = some s[k]) := hg
          clear hg
          by_cases e1 : n = 59
          · have b2 : ((n : Int) == 59) = true := beq_iff_eq.2 (by omega)
            have E1 : Hid (n = 59) := e1
            clear e1
            go_wp2_with (first | (go_at_call 131; refine cd.mono ?_; rintro e w1 ⟨rfl, rfl⟩) | (go_at_call 132; refine (Rd.signOf x (by omega) _).mono ?_; rintro e w1 ⟨rfl, rfl⟩))
            go_ret2
            refine ⟨Eq.trans ?_ (Rd.ret_pair (Rd.num_some _ _ _ _ _ _ (HE.out.symm.trans HS.out) e0 (by rw [HG.out]; exact Rd.is59 _ n hn E1.out)).symm), rfl⟩
            simp
          · have b2 : ((n : Int) == 59) = false := beq_eq_false_iff_ne.2 (by omega)
            go_wp2
            go_ret2
            exact ⟨Rd.ret_pair (Rd.num_none _ _ _ _ _ _ (HE.out.symm.trans HS.out) (by right; rw [HG.out]; exact Rd.ne59 _ n hn e1)).symm, rfl⟩
    · have HS : Hid (Pl.scan 16 (8 - k) (s.data.toList.drop k) x k = (x, k)) := Rd.scan_end _ _ s k x (by omega)
      clear HX
      by_cases e0 : k = 2
      · have b0 : ((k : Int) == 2) = true := beq_iff_eq.2 (by omega)
        have E0 : Hid (k = 2) := e0
        clear e0
        go_wp2
        go_ret2
        exact ⟨Rd.ret_pair (Rd.num_none _ _ _ _ _ _ (HE.out.symm.trans HS.out) (by exact .inl E0.out)).symm, rfl⟩
      · have b0 : ((k : Int) == 2) = false := beq_eq_false_iff_ne.2 (by omega)
        have b1 : ((k : Int) == (s.size : Int)) = true := beq_iff_eq.2 (by omega)
        go_wp2
        go_ret2
        exact ⟨Rd.ret_pair (Rd.num_none _ _ _ _ _ _ (HE.out.symm.trans HS.out) (by right; rw [Rd.get_end s k (by omega)]; exact fun h => by cases h)).symm, rfl⟩

set_option maxRecDepth 100000 in
set_option maxHeartbeats 4000000 in
theorem Rd.tens (s : ByteArray) (w : World) (h0 : 1 ≤ s.size) :
    Calls Tryz.prog 118 #[.string s, .int .i64 1, .int .i64 10, .int .i64 7] w fun e w' => e = .returned (.tuple #[.string ⟨(Pl.numL s.data.toList 1 10 7).1.toArray⟩, .int .i64 ((Pl.numL s.data.toList 1 10 7).2 : Nat)]) ∧ w' = w := by
  go_enter Tryz.func118, Tryz.ntmps118
  go_wp2
  go_loop [10, 11] (fun v i => ∃ x k : Nat, 1 ≤ k ∧ k ≤ s.size ∧ k ≤ 8 ∧ v = .int .i64 x ∧ i = .int .i64 k ∧ x < 10 ^ (k - 1) ∧ Hid (Pl.scan 10 (8 - k) (s.data.toList.drop k) x k = Pl.scan 10 7 (s.data.toList.drop 1) 0 1)) (fun _ i => 8 - (intOf i).toNat)
  case atStart => exact ⟨0, 1, by omega, h0, by omega, rfl, rfl, by decide, rfl⟩
  case round =>
    obtain ⟨x, k, hk0, hk1, hk2, rfl, rfl, hx0, HE⟩ := hrel
    have hx : x < 10000000 := Rd.pow_le 10 x (k - 1) 7 hx0 (by decide) (by omega)
    have HX : Hid (x < 10 ^ (k - 1)) := hx0
    clear hx0
    by_cases hlt : k < s.size
    · obtain ⟨d, hd⟩ : ∃ d, Pl.dig s[k] = d := ⟨_, rfl⟩
      obtain ⟨n, hn⟩ : ∃ n, s[k].toNat = n := ⟨_, rfl⟩
      have hd16 : d ≤ 16 := by rw [← hd]; exact Pl.dig_le _
      have cd := Rd.digit s[k] w
      rw [hd, hn] at cd
      have HD : Hid (Pl.dig s[k] = d) := hd
      clear hd
      by_cases hm : k < 8
      · by_cases hb : d < 10
        · have hb1 : decide ((10 : Int) ≤ (d : Int)) = false := decide_eq_false (by omega)
          have HP := Rd.pow 10 x (k - 1) d HX.out hb
          have HG := Rd.scan_go 10 (8 - k) (8 - (k + 1)) s k x d hlt HD.out hb (by omega)
          have HN : Hid (Pl.scan 10 (8 - (k + 1)) (s.data.toList.drop (k + 1)) (x * 10 + d) (k + 1) = Pl.scan 10 7 (s.data.toList.drop 1) 0 1 ∧ x * 10 + d < 10 ^ (k + 1 - 1)) := by
            refine ⟨by rw [← HG]; exact HE.out, ?_⟩
            rwa [show k + 1 - 1 = k - 1 + 1 by omega]
          clear HP HG HX HE HD
          go_wp2_with (go_at_call 131; refine cd.mono ?_; rintro e w1 ⟨rfl, rfl⟩)
          go_round
          case rel => exact ⟨x * 10 + d, k + 1, by omega, by omega, by omega, by go_num, by go_num, HN.out.2, HN.out.1⟩
          case measure => simp [intOf]; omega
        · have hb1 : decide ((10 : Int) ≤ (d : Int)) = true := decide_eq_true (by omega)
          have HS : Hid (Pl.scan 10 (8 - k) (s.data.toList.drop k) x k = (x, k)) := Rd.scan_stop _ _ s k x d hlt HD.out (by omega)
          clear HX HD
          by_cases e0 : k = 1
          · have b0 : ((k : Int) == 1) = true := beq_iff_eq.2 (by omega)
            have E0 : Hid (k = 1) := e0
            clear e0
            go_wp2_with (go_at_call 131; refine cd.mono ?_; rintro e w1 ⟨rfl, rfl⟩)
            go_ret2
            exact ⟨Rd.ret_pair (Rd.num_none _ _ _ _ _ _ (HE.out.symm.trans HS.out) (by exact .inl E0.out)).symm, rfl⟩
          · have b0 : ((k : Int) == 1) = false := beq_eq_false_iff_ne.2 (by omega)
            have b1 : ((k : Int) == (s.size : Int)) = false := beq_eq_false_iff_ne.2 (by omega)
            have hg := Rd.get_at s k hlt
            have HG : Hid (s.data.toList[k]? = some s[k]) := hg
            clear hg
            by_cases e1 : n = 59
            · have b2 : ((n : Int) == 59) = true := beq_iff_eq.2 (by omega)
              have E1 : Hid (n = 59) := e1
              clear e1
              go_wp2_with (first | (go_at_call 131; refine cd.mono ?_; rintro e w1 ⟨rfl, rfl⟩) | (go_at_call 132; refine (Rd.signOf x (by omega) _).mono ?_; rintro e w1 ⟨rfl, rfl⟩))
              go_ret2
              refine ⟨Eq.trans ?_ (Rd.ret_pair (Rd.num_some _ _ _ _ _ _ (HE.out.symm.trans HS.out) e0 (by rw [HG.out]; exact Rd.is59 _ n hn E1.out)).symm), rfl⟩
              simp
            · have b2 : ((n : Int) == 59) = false := beq_eq_false_iff_ne.2 (by omega)
              go_wp2_with (go_at_call 131; refine cd.mono ?_; rintro e w1 ⟨rfl, rfl⟩)
              go_ret2
              exact ⟨Rd.ret_pair (Rd.num_none _ _ _ _ _ _ (HE.out.symm.trans HS.out) (by right; rw [HG.out]; exact Rd.ne59 _ n hn e1)).symm, rfl⟩
      · have HS : Hid (Pl.scan 10 (8 - k) (s.data.toList.drop k) x k = (x, k)) := Rd.scan_zero _ _ _ k x (by omega)
        clear HX HD
        by_cases e0 : k = 1
        · have b0 : ((k : Int) == 1) = true := beq_iff_eq.2 (by omega)
          have E0 : Hid (k = 1) := e0
          clear e0
          go_wp2
          go_ret2
          exact ⟨Rd.ret_pair (Rd.num_none _ _ _ _ _ _ (HE.out.symm.trans HS.out) (by exact .inl E0.out)).symm, rfl⟩
        · have b0 : ((k : Int) == 1) = false := beq_eq_false_iff_ne.2 (by omega)
          have b1 : ((k : Int) == (s.size : Int)) = false := beq_eq_false_iff_ne.2 (by omega)
          have hg := Rd.get_at s k hlt
          have HG : Hid (s.data.toList[k]? = some s[k]) := hg
          clear hg
          by_cases e1 : n = 59
          · have b2 : ((n : Int) == 59) = true := beq_iff_eq.2 (by omega)
            have E1 : Hid (n = 59) := e1
            clear e1
            go_wp2_with (first | (go_at_call 131; refine cd.mono ?_; rintro e w1 ⟨rfl, rfl⟩) | (go_at_call 132; refine (Rd.signOf x (by omega) _).mono ?_; rintro e w1 ⟨rfl, rfl⟩))
            go_ret2
            refine ⟨Eq.trans ?_ (Rd.ret_pair (Rd.num_some _ _ _ _ _ _ (HE.out.symm.trans HS.out) e0 (by rw [HG.out]; exact Rd.is59 _ n hn E1.out)).symm), rfl⟩
            simp
          · have b2 : ((n : Int) == 59) = false := beq_eq_false_iff_ne.2 (by omega)
            go_wp2
            go_ret2
            exact ⟨Rd.ret_pair (Rd.num_none _ _ _ _ _ _ (HE.out.symm.trans HS.out) (by right; rw [HG.out]; exact Rd.ne59 _ n hn e1)).symm, rfl⟩
    · have HS : Hid (Pl.scan 10 (8 - k) (s.data.toList.drop k) x k = (x, k)) := Rd.scan_end _ _ s k x (by omega)
      clear HX
      by_cases e0 : k = 1
      · have b0 : ((k : Int) == 1) = true := beq_iff_eq.2 (by omega)
        have E0 : Hid (k = 1) := e0
        clear e0
        go_wp2
        go_ret2
        exact ⟨Rd.ret_pair (Rd.num_none _ _ _ _ _ _ (HE.out.symm.trans HS.out) (by exact .inl E0.out)).symm, rfl⟩
      · have b0 : ((k : Int) == 1) = false := beq_eq_false_iff_ne.2 (by omega)
        have b1 : ((k : Int) == (s.size : Int)) = true := beq_iff_eq.2 (by omega)
        go_wp2
        go_ret2
        exact ⟨Rd.ret_pair (Rd.num_none _ _ _ _ _ _ (HE.out.symm.trans HS.out) (by right; rw [Rd.get_end s k (by omega)]; exact fun h => by cases h)).symm, rfl⟩

end Go.Proofs.YtjbkgokiikbaeaaGreatDoor
/-
  THE WALK of refs.reference: it returns what 'Pl.refL' gives of the bytes behind an '&', and turns nothing that was there.
-/
namespace Go.Proofs.YtjbkgokiikbaeaaGreatDoor
open Go.RowKit

theorem Wk.below_drews {B : Nat} {w wr : World} (h : Below B w wr) : ∀ n, Below B w (wr.drewN n)
  | 0 => h
  | n + 1 => (Wk.below_drews h n).drew
theorem Rr.hasPre (s p : ByteArray) (l : List UInt8) (b : Bool) (hl : p.data.toList = l) (hb : Pl.pre l s.data.toList = b) (w : World) :
    Calls Tryz.prog 117 #[.string s, .string p] w fun e w' => e = .returned (.bool b) ∧ w' = w := by
  have h := Sh.strings_HasPrefix s p w
  rw [hl] at h
  have e : Lib.hasPrefix s.data.toList l = b := hb
  rwa [e] at h
theorem Rr.size_pre (s : ByteArray) (p : List UInt8) (h : Pl.pre p s.data.toList = true) : p.length ≤ s.size := by
  obtain ⟨r, hr⟩ := (Pl.pre_iff _ _).1 h
  have := congrArg List.length hr
  rw [Wk.len_data, List.length_append] at this
  omega
/-- the table of names, as it lies -/
def Rr.row (n : List UInt8 × List UInt8) : List Value := [.string ⟨n.1.toArray⟩, .string ⟨n.2.toArray⟩]
def Rr.table : Array Value := #[.string ⟨#[97, 109, 112, 59]⟩, .string ⟨#[38]⟩, .string ⟨#[108, 116, 59]⟩, .string ⟨#[60]⟩, .string ⟨#[103, 116, 59]⟩, .string ⟨#[62]⟩, .string ⟨#[113, 117, 111, 116, 59]⟩, .string ⟨#[34]⟩, .string ⟨#[97, 112, 111, 115, 59]⟩, .string ⟨#[39]⟩, .string ⟨#[110, 98, 115, 112, 59]⟩, .string ⟨#[194, 160]⟩, .string ⟨#[99, 111, 112, 121, 59]⟩, .string ⟨#[194, 169]⟩]
theorem Rr.cells (w : World) (a j : Nat) (hj : j < 7) (h : w.heap[a]? = some (.cells Rr.table 92 (0, 0))) :
    ∃ (t g : List UInt8), w.cell? ⟨a, j * 2, none⟩ = some (.string ⟨t.toArray⟩) ∧ w.cell? ⟨a, j * 2 + 1, none⟩ = some (.string ⟨g.toArray⟩) ∧ Pl.names.drop j = (t, g) :: Pl.names.drop (j + 1) ∧ t.length ≤ 6 := by
  have hc : ∀ i, w.cell? ⟨a, i, none⟩ = Rr.table[i]? := fun i => by rw [Lib.cell_of_heap h]
  rw [hc, hc]
  have : j = 0 ∨ j = 1 ∨ j = 2 ∨ j = 3 ∨ j = 4 ∨ j = 5 ∨ j = 6 := by omega
  rcases this with rfl | rfl | rfl | rfl | rfl | rfl | rfl
  all_goals exact ⟨_, _, rfl, rfl, rfl, by decide⟩

set_option maxRecDepth 100000 in
set_option maxHeartbeats 1000000 in
theorem Rr.reference (s : ByteArray) (a : Nat) (w : World) (hn : w.heap[a]? = some (.cells Rr.table 92 (0, 0))) :
    Calls Tryz.prog 102 #[.string s, .slice (some ⟨a, 0, none⟩) 7 7] w fun e w' => e = .returned (.tuple #[.string ⟨(Pl.refL s.data.toList).1.toArray⟩, .int .i64 ((Pl.refL s.data.toList).2 : Nat)]) ∧ Below w.heap.size w w' := by
  obtain ⟨b1, h1⟩ : ∃ b, Pl.pre [35, 120] s.data.toList = b := ⟨_, rfl⟩
  obtain ⟨b2, h2⟩ : ∃ b, Pl.pre [35, 88] s.data.toList = b := ⟨_, rfl⟩
  obtain ⟨b3, h3⟩ : ∃ b, Pl.pre [35] s.data.toList = b := ⟨_, rfl⟩
  have c1 := Rr.hasPre s ⟨#[35, 120]⟩ [35, 120] b1 rfl h1 w
  have c2 := Rr.hasPre s ⟨#[35, 88]⟩ [35, 88] b2 rfl h2 w
  have c3 := Rr.hasPre s ⟨#[35]⟩ [35] b3 rfl h3 w
  have HR : Hid (Pl.refL s.data.toList = if b1 || b2 then Pl.numL s.data.toList 2 16 6 else if b3 then Pl.numL s.data.toList 1 10 7 else Pl.nameL Pl.names s.data.toList) := by
    show _ = _
    rw [Pl.refL, h1, h2, h3]
  have H1 : Hid (b1 = true → 2 ≤ s.size) := fun h => Rr.size_pre s _ (h1.trans h)
  have H2 : Hid (b2 = true → 2 ≤ s.size) := fun h => Rr.size_pre s _ (h2.trans h)
  have H3 : Hid (b3 = true → 1 ≤ s.size) := fun h => Rr.size_pre s _ (h3.trans h)
  clear h1 h2 h3
  cases b1 with
  | true =>
    have c4 := Rd.hexed s w (H1.out rfl)
    rw [show Pl.refL s.data.toList = Pl.numL s.data.toList 2 16 6 from HR.out]
    generalize Pl.numL s.data.toList 2 16 6 = q at *
    go_enter Tryz.func102, Tryz.ntmps102
    go_wp2_with (first | (go_at_call 117; refine c1.mono ?_; rintro e w1 ⟨rfl, rfl⟩) | (go_at_call 118; refine c4.mono ?_; rintro e w1 ⟨rfl, rfl⟩))
    go_ret2
    exact ⟨rfl, Below.refl _ _⟩
  | false =>
    cases b2 with
    | true =>
      have c4 := Rd.hexed s w (H2.out rfl)
      rw [show Pl.refL s.data.toList = Pl.numL s.data.toList 2 16 6 from HR.out]
      generalize Pl.numL s.data.toList 2 16 6 = q at *
      go_enter Tryz.func102, Tryz.ntmps102
      go_wp2_with fail
      refine c1.mono ?_
      rintro e w1 ⟨rfl, rfl⟩
      go_wp2_with fail
      refine c2.mono ?_
      rintro e w1 ⟨rfl, rfl⟩
      go_wp2_with fail
      refine c4.mono ?_
      rintro e w1 ⟨rfl, rfl⟩
      go_wp2
      go_ret2
      exact ⟨rfl, Below.refl _ _⟩
    | false =>
      cases b3 with
      | true =>
        have c4 := Rd.tens s w (H3.out rfl)
        rw [show Pl.refL s.data.toList = Pl.numL s.data.toList 1 10 7 from HR.out]
        generalize Pl.numL s.data.toList 1 10 7 = q at *
        go_enter Tryz.func102, Tryz.ntmps102
        go_wp2_with fail
        refine c1.mono ?_
        rintro e w1 ⟨rfl, rfl⟩
        go_wp2_with fail
        refine c2.mono ?_
        rintro e w1 ⟨rfl, rfl⟩
        go_wp2_with fail
        refine c3.mono ?_
        rintro e w1 ⟨rfl, rfl⟩
        go_wp2_with fail
        refine c4.mono ?_
        rintro e w1 ⟨rfl, rfl⟩
        go_wp2
        go_ret2
        exact ⟨rfl, Below.refl _ _⟩
      | false =>
        rw [show Pl.refL s.data.toList = Pl.nameL Pl.names s.data.toList from HR.out]
        clear HR H1 H2 H3
        go_enter Tryz.func102, Tryz.ntmps102
        go_wp2_with fail
        refine c1.mono ?_
        rintro e w1 ⟨rfl, rfl⟩
        go_wp2_with fail
        refine c2.mono ?_
        rintro e w1 ⟨rfl, rfl⟩
        go_wp2_with fail
        refine c3.mono ?_
        rintro e w1 ⟨rfl, rfl⟩
        go_wp2_with fail
        clear c1 c2 c3
        go_loopw [26] (fun i wr => ∃ j : Nat, j ≤ 7 ∧ i = .int .i64 j ∧ Hid (Pl.nameL (Pl.names.drop j) s.data.toList = Pl.nameL Pl.names s.data.toList) ∧ Below w1.heap.size w1 wr) (fun i _ => 7 - (intOf i).toNat)
        case atStart => exact ⟨0, Nat.zero_le _, rfl, rfl, Below.refl _ _⟩
        case round =>
          obtain ⟨j, hj, rfl, HN, hb⟩ := hrel
          by_cases hlt : j < 7
          · have ha : a < w1.heap.size := by obtain ⟨h, _⟩ := Array.getElem?_eq_some_iff.1 hn; exact h
            obtain ⟨t, g, hc0, hc1, hd, htl⟩ := Rr.cells wr a j hlt ((hb.block a ha).trans hn)
            have HD : Hid (Pl.names.drop j = (t, g) :: Pl.names.drop (j + 1)) := hd
            clear hd
            have hb' := hb.alloc hb.size (.cells #[.string ⟨t.toArray⟩, .string ⟨g.toArray⟩] 91)
            obtain ⟨b, hp⟩ : ∃ b, Pl.pre t s.data.toList = b := ⟨_, rfl⟩
            have c4 := Rr.hasPre s ⟨t.toArray⟩ t b rfl hp (wr.alloc (.cells #[.string ⟨t.toArray⟩, .string ⟨g.toArray⟩] 91))
            have HS : Hid (Pl.nameL Pl.names s.data.toList = if b then (g, t.length) else Pl.nameL (Pl.names.drop (j + 1)) s.data.toList) := by
              show _ = _
              rw [← HN.out, HD.out, Pl.nameL, hp]
            have htn : (⟨t.toArray⟩ : ByteArray).size = t.length := by rw [← Wk.len_data]
            clear hp HD
            cases b with
            | true =>
              clear HN
              go_wp2_with fail
              refine c4.mono ?_
              rintro e w2 ⟨rfl, hw2⟩
              subst hw2
              clear c4
              go_wp2_with fail
              go_quiet (fail)
              go_wp2
              go_ret2
              refine ⟨?_, Wk.below_drews hb' nq⟩
              rw [HS.out]
              rfl
            | false =>
              go_wp2_with fail
              refine c4.mono ?_
              rintro e w2 ⟨rfl, hw2⟩
              subst hw2
              clear c4
              go_wp2_with fail
              go_roundw
              case rel => exact ⟨j + 1, by omega, by go_num, HS.out.symm, hb'⟩
              case measure => simp [intOf]; omega
          · have hj7 : j = 7 := by omega
            have HS : Hid (Pl.nameL Pl.names s.data.toList = ([], 0)) := by
              show _ = _
              rw [← HN.out, hj7]; rfl
            clear HN hj7
            go_wp2_with fail
            go_ret2
            refine ⟨?_, hb⟩
            rw [HS.out]
            rfl
end Go.Proofs.YtjbkgokiikbaeaaGreatDoor
/-
  THE WALK of refs.Decode: it returns what 'Pl.decL' gives of the bytes (texts of up to 2^45 bytes: a Builder's room), and turns nothing that was there.
-/
namespace Go.Proofs.YtjbkgokiikbaeaaGreatDoor
open Go.RowKit

def Rr.obj : Obj := .cells Rr.table 92 (0, 0)
theorem Rr.ref_at (s : ByteArray) (k a : Nat) (w : World) (q : List UInt8 × Nat) (hq : Pl.refL (s.data.toList.drop (k + 1)) = q) (hn : w.heap[a]? = some Rr.obj) :
    Calls Tryz.prog 102 #[.string (s.extract (k + 1) s.size), .slice (some ⟨a, 0, none⟩) 7 7] w fun e w' => e = .returned (.tuple #[.string ⟨q.1.toArray⟩, .int .i64 (q.2 : Nat)]) ∧ Below w.heap.size w w' := by
  have h := Rr.reference (s.extract (k + 1) s.size) a w hn
  rw [Wk.rest_data, hq] at h
  exact h
/-- a text from a place on -/
theorem Rr.run_from (w : World) (s : ByteArray) (l : Int) (h0 : 0 ≤ l) (h1 : l ≤ s.size) :
    (Instr.slice 9 (.string s) (some (.int .i64 l)) none none).run Tryz.prog w = .ok (.string (s.extract l.toNat s.size)) w := by
  simp [Instr.slice, run_underlying Tryz.underlying9, Instr.sliceBounds, run_sliceBound, h0, h1]
theorem Rr.byte (c : UInt8) : Lib.byteCells [c] = [.int .u8 c.toNat] := rfl

set_option maxRecDepth 100000 in
set_option maxHeartbeats 2000000 in
theorem Rr.decode (s : ByteArray) (w : World) (hs : s.size ≤ 35184372088832) :
    Calls Tryz.prog 81 #[.string s] w fun e w' => e = .returned (.string ⟨(Pl.decL s.data.toList).toArray⟩) ∧ Below w.heap.size w w' := by
  obtain ⟨WA, hWA⟩ : ∃ WA, w.alloc Rr.obj = WA := ⟨_, rfl⟩
  have hsz : WA.heap.size = w.heap.size + 1 := by rw [← hWA]; simp
  have hta : WA.heap[w.heap.size]? = some Rr.obj := by rw [← hWA]; exact heap_alloc_new w _
  have hbA : Below w.heap.size w WA := by rw [← hWA]; exact (Below.refl _ _).alloc (Nat.le_refl _) _
  have c0 := Sh.Builder_Grow_fresh (w.heap.size + 1) (w.heap.size + 1) s.size (WA.alloc (.cells #[.pointer none, .slice none 0 0] 95)) (Nat.le_refl _) (by rw [← hsz]; exact heap_alloc_new WA _) (by simp; omega) (by omega)
  rw [← hWA] at c0
  go_enter Tryz.func81, Tryz.ntmps81
  go_wp2_with fail
  refine c0.mono ?_
  rintro e w0 ⟨rfl, hB0, hb0⟩
  have hbw0 : Below (w.heap.size + 1) WA w0 := by
    rw [hWA] at hb0
    exact ((Below.refl _ _).alloc (by omega) _).trans hb0
  have hI0 : Lib.IsBuilderF 95 5 (w.heap.size + 1) (w.heap.size + 1) (Lib.byteCells []) w0 := .inr (Lib.BuilderAtF.of hB0)
  clear c0 hB0 hb0 hWA
  go_wp2_with fail
  go_loopw [5] (fun i wr => ∃ (k : Nat) (acc : List UInt8), k ≤ s.size ∧ i = .int .i64 k ∧ Lib.IsBuilderF 95 5 (w.heap.size + 1) (w.heap.size + 1) (Lib.byteCells acc) wr ∧ Below (w.heap.size + 1) WA wr ∧ Hid (acc ++ Pl.decL (s.data.toList.drop k) = Pl.decL s.data.toList) ∧ acc.length ≤ 4 * k) (fun i _ => s.size - (intOf i).toNat)
  case atStart => exact ⟨0, [], Nat.zero_le _, rfl, hI0, hbw0, rfl, Nat.le_refl _⟩
  case round =>
    clear hI0 hbw0
    obtain ⟨k, acc, hk, rfl, hI, hb, hn, hal⟩ := hrel
    have hsr := hb.size
    by_cases hlt : k < s.size
    · obtain ⟨c, hc⟩ : ∃ c, s[k] = c := ⟨_, rfl⟩
      have HD : Hid (s.data.toList.drop k = c :: s.data.toList.drop (k + 1)) := by rw [← hc]; exact Rd.drop_cons s k hlt
      have hcn : s[k].toNat = c.toNat := by rw [hc]
      clear hc
      by_cases h38 : c = 38
      · have b0 : ((c.toNat : Int) == 38) = true := by rw [h38]; rfl
        have H38 : Hid (c = 38) := h38
        clear h38
        obtain ⟨q, hq⟩ : ∃ q, Pl.refL (s.data.toList.drop (k + 1)) = q := ⟨_, rfl⟩
        have cr : ∀ u : World, Below wr.heap.size wr u → Calls Tryz.prog 102 #[.string (s.extract (k + 1) s.size), .slice (some ⟨w.heap.size, 0, none⟩) 7 7] u fun e w' => e = .returned (.tuple #[.string ⟨q.1.toArray⟩, .int .i64 (q.2 : Nat)]) ∧ Below u.heap.size u w' :=
          fun u hu => Rr.ref_at s k w.heap.size u q hq ((hu.block _ (by omega)).trans ((hb.block _ (by omega)).trans hta))
        have HQ : Hid (Pl.refL (s.data.toList.drop (k + 1)) = q) := hq
        clear hq
        have hwr : IntKind.i64.wrap ((k : Int) + 1) = (k : Int) + 1 := by rw [IntKind.wrap_i64]; omega
        have hcut : ∀ u : World, (Instr.slice 9 (.string s) (some (.int .i64 ((k : Int) + 1))) none none).run Tryz.prog u = .ok (.string (s.extract (k + 1) s.size)) u := fun u => by
          have h := Rr.run_from u s ((k : Int) + 1) (by omega) (by omega)
          rwa [show ((k : Int) + 1).toNat = k + 1 by omega] at h
        go_wp2_with fail
        go_cut [6, 7] from 19 to 49 (fun sg nn wx => sg = .string ⟨q.1.toArray⟩ ∧ nn = .int .i64 (q.2 : Nat) ∧ Below wr.heap.size wr wx)
        case first =>
          go_region_with (go_at_call 102; refine (cr _ (Below.refl _ _).drew).mono ?_; rintro e w1 ⟨rfl, hb1⟩)
          all_goals (try go_wp2_with fail)
          all_goals go_meet
          all_goals exact ⟨rfl, rfl, ⟨hb1.os, hb1.tape, hb1.output, hb1.size, hb1.block⟩⟩
        case rest =>
          obtain ⟨rfl, rfl, hb1⟩ := hcut
          clear cr hwr
          have hle := Pl.refL_le (s.data.toList.drop (k + 1))
          have hsg := Pl.refL_sign (s.data.toList.drop (k + 1))
          rw [HQ.out, List.length_drop, Wk.len_data] at hle
          rw [HQ.out] at hsg
          have hI1 := Wk.isF_below hI hb1
          have hbB : Below (w.heap.size + 1) WA wc := hb.trans (hb1.mono (by omega))
          have hsc := hbB.size
          by_cases hz : q.2 = 0
          · have z0 : ((q.2 : Int) == 0) = true := beq_iff_eq.2 (by omega)
            have HZ : Hid (q.2 = 0) := hz
            clear hz
            go_wp2_with fail
            refine (Sh.Builder_WriteByte_k (w.heap.size + 1) (w.heap.size + 1) _ _ wc hI1 (by rw [Lib.byteCells_length]; omega) (by omega)).mono ?_
            rintro e w2 ⟨rfl, hI2, hb2, _⟩
            have hb' : Below (w.heap.size + 1) WA w2 := hbB.trans hb2
            have hI' : Lib.IsBuilderF 95 5 (w.heap.size + 1) (w.heap.size + 1) (Lib.byteCells (acc ++ [c])) w2 := by
              rw [Lib.byteCells_append]; exact .inr hI2
            have HN : Hid ((acc ++ [c]) ++ Pl.decL (s.data.toList.drop (k + 1)) = Pl.decL s.data.toList) := by
              show _ = _
              rw [← hn.out, HD.out, Pl.decL_none c _ (by rw [HQ.out]; exact HZ.out)]
              simp
            clear hI hI1 hI2 hb1 hb2 hn HD HQ HZ H38 hb hbB
            go_wp2
            go_roundw
            case rel => exact ⟨k + 1, acc ++ [c], by omega, by go_num, hI', hb', HN, by simp; omega⟩
            case measure => simp [intOf]; omega
          · have z0 : ((q.2 : Int) == 0) = false := beq_eq_false_iff_ne.2 (by omega)
            have hps : (⟨q.1.toArray⟩ : ByteArray).size = q.1.length := by rw [← Wk.len_data]
            go_wp2_with fail
            refine (Sh.Builder_WriteString_k (w.heap.size + 1) (w.heap.size + 1) _ _ wc hI1 (by rw [Lib.byteCells_length, hps]; omega) (by omega)).mono ?_
            rintro e w2 ⟨rfl, hI2, hb2, _⟩
            have hb' : Below (w.heap.size + 1) WA w2 := hbB.trans hb2
            have hI' : Lib.IsBuilderF 95 5 (w.heap.size + 1) (w.heap.size + 1) (Lib.byteCells (acc ++ q.1)) w2 := by
              rw [Lib.byteCells_append]; exact .inr hI2
            have HN : Hid ((acc ++ q.1) ++ Pl.decL (s.data.toList.drop (k + (1 + q.2))) = Pl.decL s.data.toList) := by
              show _ = _
              rw [← hn.out, HD.out, Pl.decL_ref c _ H38.out (by rw [HQ.out]; exact hz), HQ.out, List.drop_drop, List.append_assoc, Nat.add_assoc]
            clear hI hI1 hI2 hb1 hb2 hn HD HQ H38 hb hbB
            go_wp2
            go_roundw
            case rel => exact ⟨k + (1 + q.2), acc ++ q.1, by omega, by go_num, hI', hb', HN, by simp; omega⟩
            case measure => simp [intOf]; omega
      · have b0 : ((c.toNat : Int) == 38) = false := beq_eq_false_iff_ne.2 (fun e => h38 (UInt8.toNat_inj.1 (by simpa using (by omega : c.toNat = 38))))
        go_wp2_with fail
        refine (Sh.Builder_WriteByte_k (w.heap.size + 1) (w.heap.size + 1) _ _ wr hI (by rw [Lib.byteCells_length]; omega) (by omega)).mono ?_
        rintro e w2 ⟨rfl, hI2, hb2, _⟩
        have hb' : Below (w.heap.size + 1) WA w2 := hb.trans hb2
        have hI' : Lib.IsBuilderF 95 5 (w.heap.size + 1) (w.heap.size + 1) (Lib.byteCells (acc ++ [c])) w2 := by
          rw [Lib.byteCells_append]; exact .inr hI2
        have HN : Hid ((acc ++ [c]) ++ Pl.decL (s.data.toList.drop (k + 1)) = Pl.decL s.data.toList) := by
          show _ = _
          rw [← hn.out, HD.out, Pl.decL_other c _ h38]
          simp
        clear hI hI2 hb2 hn HD hb
        go_wp2
        go_roundw
        case rel => exact ⟨k + 1, acc ++ [c], by omega, by go_num, hI', hb', HN, by simp; omega⟩
        case measure => simp [intOf]; omega
    · have hke : k = s.size := by omega
      have HE : Hid (acc = Pl.decL s.data.toList) := by
        have := hn.out
        rw [hke, List.drop_of_length_le (by rw [Wk.len_data]; exact Nat.le_refl _), Pl.decL_nil, List.append_nil] at this
        exact this
      clear hke
      go_wp2_with fail
      refine (Sh.Builder_String_any_k (w.heap.size + 1) (w.heap.size + 1) acc _ hI (by omega)).mono ?_
      rintro e w1 ⟨rfl, _, hb1, _⟩
      go_wp2
      go_ret
      exact ⟨Wk.ret_str HE.out, hbA.trans ((hb.trans hb1).mono (by omega))⟩
end Go.Proofs.YtjbkgokiikbaeaaGreatDoor
/-
  THE WALKS of strings.Clone, tok.isLoose, tok.oneLineEnd, and of the reader's tellText and tellComment.
-/
namespace Go.Proofs.YtjbkgokiikbaeaaGreatDoor
open Go.RowKit
theorem Tp.clone (s : ByteArray) (w : World) (h : s.size ≤ 281474976710656) : Calls Tryz.prog 80 #[.string s] w fun e w' => e = .returned (.string s) ∧ Below w.heap.size w w' := by
  go_enter Tryz.func80, Tryz.ntmps80
  go_wp2_with (go_at_call 100; refine (Sh.stringslite_Clone s _ h).mono ?_; rintro e w1 ⟨rfl, hb⟩)
  go_ret
  exact ⟨rfl, hb⟩
theorem Tp.isLoose (a : Int) (w : World) : Calls Tryz.prog 31 #[.int .i64 a] w fun e w' => e = .returned (.bool (Rd.loose a)) ∧ w' = w := by
  unfold Rd.loose
  by_cases g1 : a < 3
  · have d1 : decide (a < 3) = true := decide_eq_true g1
    go_enter Tryz.func31, Tryz.ntmps31
    go_wp2
    go_ret
    simp [g1]
  · have d1 : decide (a < 3) = false := decide_eq_false g1
    by_cases g2 : 19 ≤ a
    · have d2 : decide (19 ≤ a) = true := decide_eq_true g2
      go_enter Tryz.func31, Tryz.ntmps31
      go_wp2
      go_ret
      simp
    · have d2 : decide (19 ≤ a) = false := decide_eq_false g2
      go_enter Tryz.func31, Tryz.ntmps31
      go_wp2
      go_ret
      simp
theorem Tp.oneLineEnd (s : ByteArray) (m : Int) (w : World) (hs : s.size ≤ 65536) (hm : w.cell? ⟨0, 0, none⟩ = some (.int .i64 m)) : Calls Tryz.prog 29 #[.string s] w fun e w' => e = .returned (.string (Rd.page s)) ∧ Below w.heap.size w w' := by
  have k1 := Lib.countB_le ⟨#[13, 10]⟩ (by decide) s.size s (Nat.le_refl _)
  have c1 := Sh.strings_ReplaceAll s ⟨#[13, 10]⟩ ⟨#[10]⟩ m w (by omega) hm (by decide) (by show s.size + _ * 1 ≤ _; omega)
  have hl := Li.crlf_len s.data.toList
  rw [Wk.len_data] at hl
  obtain ⟨t, ht⟩ : ∃ t : ByteArray, t = ⟨(Lib.replaceAll s.data.toList [13, 10] [10]).toArray⟩ := ⟨_, rfl⟩
  have hts : t.size ≤ 65536 := by
    rw [← Wk.len_data, ht]
    show (Lib.replaceAll s.data.toList [13, 10] [10]).toArray.toList.length ≤ _
    rw [List.toList_toArray]; omega
  have c1' : Calls Tryz.prog 73 #[.string s, .string ⟨#[13, 10]⟩, .string ⟨#[10]⟩] w fun e w' => e = .returned (.string t) ∧ Below w.heap.size w w' := by rw [ht]; exact c1
  have k2 := Lib.countB_le ⟨#[13]⟩ (by decide) t.size t (Nat.le_refl _)
  have c2 := fun (u : World) (hb : Below w.heap.size w u) => Sh.strings_ReplaceAll t ⟨#[13]⟩ ⟨#[10]⟩ m u (by omega) (Tp.keep hb hm) (by decide) (by show t.size + _ * 1 ≤ _; omega)
  have he : (⟨(Lib.replaceAll t.data.toList [13] [10]).toArray⟩ : ByteArray) = Rd.page s := by
    rw [ht, Rd.page]
    show (⟨(Lib.replaceAll (Lib.replaceAll s.data.toList [13, 10] [10]).toArray.toList [13] [10]).toArray⟩ : ByteArray) = _
    rw [List.toList_toArray, Li.lines]
  have c2' : ∀ u, Below w.heap.size w u → Calls Tryz.prog 73 #[.string t, .string ⟨#[13]⟩, .string ⟨#[10]⟩] u fun e w' => e = .returned (.string (Rd.page s)) ∧ Below u.heap.size u w' := fun u hb => by rw [← he]; exact c2 u hb
  clear c1 c2 ht he hl k1 k2 hm
  go_enter Tryz.func29, Tryz.ntmps29
  go_wp2_with fail
  refine c1'.mono ?_
  rintro e w1 ⟨rfl, hb1⟩
  clear c1'
  go_wp2_with fail
  refine (c2' _ hb1).mono ?_
  rintro e w2 ⟨rfl, hb2⟩
  go_wp2
  go_ret
  exact ⟨rfl, hb1.trans (hb2.mono hb1.size)⟩
end Go.Proofs.YtjbkgokiikbaeaaGreatDoor
/-
  THE WALKS of the reader's tellText and tellComment.
-/
namespace Go.Proofs.YtjbkgokiikbaeaaGreatDoor
open Go.RowKit
theorem Rm.text_cut (P : ByteArray) (a b : Nat) (h1 : a ≤ b) (h2 : b ≤ P.size) (u : World) : (Instr.slice 9 (.string P) (some (.int .i64 (a : Int))) (some (.int .i64 (b : Int))) none).run Tryz.prog u = .ok (.string (P.extract a b)) u := by
  have h := Wk.run_cut u P (a : Int) (b : Int) (by omega) (by omega) (by omega)
  rwa [Int.toNat_natCast, Int.toNat_natCast] at h
theorem Rm.cut_size (P : ByteArray) (a b : Nat) : (P.extract a b).size ≤ P.size := by
  rw [ByteArray.size_extract]; omega
set_option maxHeartbeats 2000000 in
theorem Rm.tellText (r : Rd) (fin : Nat) (held : ByteArray) (w : World) (g : Nat) (P : ByteArray) (tv av : Value) (h : Rm.At w g P r tv av) (hP : P.size ≤ 65536) (hf : r.text ≤ fin) (hfP : fin ≤ P.size) (hn : r.toks.length ≤ 1000000) :
    Calls Tryz.prog 32 #[.pointer (some ⟨g, 0, none⟩), .int .i64 (fin : Int), .string held] w fun e w' => e = .returned (.tuple #[]) ∧ ∃ tv' av', Rm.At w' g P (Rd.tellText P r fin held) tv' av' ∧ Rm.Kept w w' g tv av tv' av' := by
  have c0 := h.box.page
  have c31 := h.box.text
  have HH := Lib.hid h
  by_cases he : r.text = fin
  · have t0 : ((r.text : Int) == (fin : Int)) = true := beq_iff_eq.2 (by omega)
    have HE := Lib.hid he
    clear h he
    go_enter Tryz.func32, Tryz.ntmps32
    go_wp2
    refine bodyPost_ret (v := .tuple #[]) (by simp [results, Tryz.results32, go_sem]) rfl ⟨rfl, tv, av, ?_, Rm.Kept.refl _ _ _ _⟩
    unfold Rd.tellText
    rw [if_pos HE.out]
    exact HH.out
  · have t0 : ((r.text : Int) == (fin : Int)) = false := beq_eq_false_iff_ne.2 (by omega)
    have hcut := Rm.text_cut P r.text fin hf hfP
    have hsz := Rm.cut_size P r.text fin
    have HT : Hid (Rd.tellText P r fin held = r.tell ⟨0, Ts.e, Rd.textOf P r.text fin held, [], false⟩ fin) := by unfold Rd.tellText Hid; rw [if_neg he]
    have HTO : Hid (Rd.textOf P r.text fin held = if Ts.kind held = 3 ∨ Ts.kind held = 4 then P.extract r.text fin else Rd.dec (P.extract r.text fin)) := rfl
    have hx : ∀ X, Rd.textOf P r.text fin held = X → Hid (Rd.tellText P r fin held = r.tell ⟨0, Ts.e, X, [], false⟩ fin) := fun X e => by rw [← e]; exact HT
    clear HT
    by_cases k3 : Ts.kind held = 3
    · have HT := hx (P.extract r.text fin) (by rw [HTO.out, if_pos (.inl k3)])
      have u3 : (Ts.kind held == 3) = true := beq_iff_eq.2 k3
      clear k3 HTO hx
      have tell := fun (u : World) (hb : Below w.heap.size w u) => Rm.tell r ⟨0, Ts.e, P.extract r.text fin, [], false⟩ (.slice none 0 0) fin u g P tv av (HH.out.on hb) (Ak.Lies.nil _ _) hn
      clear h he hf hfP
      go_enter Tryz.func32, Tryz.ntmps32
      go_wp2_with fail
      go_quiet (fail)
      go_wp2_with (first | (go_at_call 79; refine (Tp.kind held _).mono ?_; rintro e w' ⟨rfl, rfl⟩) | (go_at_call 80; refine (Tp.clone (P.extract r.text fin) _ (by omega)).mono ?_; rintro e w1 ⟨rfl, hb1⟩; have q1 : Below w.heap.size w w1 := Below.trans (by first | exact Wk.below_drews (Below.refl _ _) _ | exact (Below.refl _ _).drew) (hb1.mono (by first | (simp; done) | omega)); clear hb1) | (go_at_call 74; refine (tell _ q1).mono ?_; rintro e w2 ⟨rfl, tv2, hA, hK⟩))
      go_end0
      refine ⟨rfl, tv2, .slice none 0 0, ?_, (Rm.Kept.of g tv av q1).trans hK⟩
      rw [HT.out]
      exact hA
    have u3 : (Ts.kind held == 3) = false := beq_eq_false_iff_ne.2 k3
    by_cases k4 : Ts.kind held = 4
    · have HT := hx (P.extract r.text fin) (by rw [HTO.out, if_pos (.inr k4)])
      have u4 : (Ts.kind held == 4) = true := beq_iff_eq.2 k4
      clear k3 k4 HTO hx
      have tell := fun (u : World) (hb : Below w.heap.size w u) => Rm.tell r ⟨0, Ts.e, P.extract r.text fin, [], false⟩ (.slice none 0 0) fin u g P tv av (HH.out.on hb) (Ak.Lies.nil _ _) hn
      clear h he hf hfP
      go_enter Tryz.func32, Tryz.ntmps32
      go_wp2_with fail
      go_quiet (fail)
      go_wp2_with (first | (go_at_call 79; refine (Tp.kind held _).mono ?_; rintro e w' ⟨rfl, rfl⟩) | (go_at_call 80; refine (Tp.clone (P.extract r.text fin) _ (by omega)).mono ?_; rintro e w1 ⟨rfl, hb1⟩; have q1 : Below w.heap.size w w1 := Below.trans (by first | exact Wk.below_drews (Below.refl _ _) _ | exact (Below.refl _ _).drew) (hb1.mono (by first | (simp; done) | omega)); clear hb1) | (go_at_call 74; refine (tell _ q1).mono ?_; rintro e w2 ⟨rfl, tv2, hA, hK⟩))
      go_end0
      refine ⟨rfl, tv2, .slice none 0 0, ?_, (Rm.Kept.of g tv av q1).trans hK⟩
      rw [HT.out]
      exact hA
    have HT := hx (Rd.dec (P.extract r.text fin)) (by rw [HTO.out, if_neg (by simp [k3, k4])])
    have u4 : (Ts.kind held == 4) = false := beq_eq_false_iff_ne.2 k4
    have hD : ∀ u : World, Calls Tryz.prog 81 #[.string (P.extract r.text fin)] u fun e w' => e = .returned (.string (Rd.dec (P.extract r.text fin))) ∧ Below u.heap.size u w' := fun u => Rr.decode (P.extract r.text fin) u (by omega)
    clear k3 k4 HTO hx
    generalize Rd.dec (P.extract r.text fin) = D at *
    have tell := fun (u : World) (hb : Below w.heap.size w u) => Rm.tell r ⟨0, Ts.e, D, [], false⟩ (.slice none 0 0) fin u g P tv av (HH.out.on hb) (Ak.Lies.nil _ _) hn
    clear h he hf hfP
    go_enter Tryz.func32, Tryz.ntmps32
    go_wp2_with fail
    go_quiet (fail)
    go_wp2_with (first | (go_at_call 79; refine (Tp.kind held _).mono ?_; rintro e w' ⟨rfl, rfl⟩) | (go_at_call 81; refine (hD _).mono ?_; rintro e w1 ⟨rfl, hb1⟩; have q1 : Below w.heap.size w w1 := Below.trans (by first | exact Wk.below_drews (Below.refl _ _) _ | exact (Below.refl _ _).drew) (hb1.mono (by first | (simp; done) | omega)); clear hb1) | (go_at_call 74; refine (tell _ q1).mono ?_; rintro e w2 ⟨rfl, tv2, hA, hK⟩))
    go_end0
    refine ⟨rfl, tv2, .slice none 0 0, ?_, (Rm.Kept.of g tv av q1).trans hK⟩
    rw [HT.out]
    exact hA
end Go.Proofs.YtjbkgokiikbaeaaGreatDoor

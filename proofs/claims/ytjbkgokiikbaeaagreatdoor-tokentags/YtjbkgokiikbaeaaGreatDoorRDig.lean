/-
  THE WALKS of refs.digit, refs.signOf and refs.numbered: each call returns what the plain function of the bytes gives, and turns nothing.
-/
import Derived.Test.YtjbkgokiikbaeaaGreatDoorRTok
import Derived.Test.YtjbkgokiikbaeaaGreatDoorProg
import Derived.WalkKit
import Derived.BigCall
import Derived.Laws.Runes
namespace Go.Proofs.YtjbkgokiikbaeaaGreatDoor
open Go.RowKit

theorem Pl.dig_eq (c : UInt8) (k : Nat) (hk : c.toNat = k) : Pl.dig c = if 48 ≤ k ∧ k ≤ 57 then k - 48 else if 97 ≤ k ∧ k ≤ 102 then k - 87 else if 65 ≤ k ∧ k ≤ 70 then k - 55 else 16 := by
  subst hk; rfl

set_option maxHeartbeats 1000000 in
theorem Rd.digit (c : UInt8) (w : World) :
    Calls Tryz.prog 131 #[.int .u8 c.toNat] w fun e w' => e = .returned (.int .i64 (Pl.dig c : Nat)) ∧ w' = w := by
  have hc := c.toNat_lt
  obtain ⟨k, hk⟩ : ∃ k, c.toNat = k := ⟨_, rfl⟩
  have hl := Pl.dig_eq c k hk
  rw [hk] at hc ⊢
  generalize Pl.dig c = m at *
  clear hk
  by_cases h0 : 48 ≤ k
  · by_cases h1 : k ≤ 57
    · rw [if_pos ⟨h0, h1⟩] at hl
      subst hl
      go_enter Tryz.func131, Tryz.ntmps131
      go_wp2
      go_ret
      exact ⟨by simp; omega, rfl⟩
    · rw [if_neg (by omega)] at hl
      by_cases h2 : 97 ≤ k
      · by_cases h3 : k ≤ 102
        · rw [if_pos ⟨h2, h3⟩] at hl
          subst hl
          go_enter Tryz.func131, Tryz.ntmps131
          go_wp2
          go_ret
          exact ⟨by simp; omega, rfl⟩
        · rw [if_neg (by omega), if_neg (by omega)] at hl
          subst hl
          go_enter Tryz.func131, Tryz.ntmps131
          go_wp2
          go_ret
          exact ⟨rfl, rfl⟩
      · rw [if_neg (by omega)] at hl
        by_cases h4 : 65 ≤ k
        · by_cases h5 : k ≤ 70
          · rw [if_pos ⟨h4, h5⟩] at hl
            subst hl
            go_enter Tryz.func131, Tryz.ntmps131
            go_wp2
            go_ret
            exact ⟨by simp; omega, rfl⟩
          · rw [if_neg (by omega)] at hl
            subst hl
            go_enter Tryz.func131, Tryz.ntmps131
            go_wp2
            go_ret
            exact ⟨rfl, rfl⟩
        · rw [if_neg (by omega)] at hl
          subst hl
          go_enter Tryz.func131, Tryz.ntmps131
          go_wp2
          go_ret
          exact ⟨rfl, rfl⟩
  · rw [if_neg (by omega), if_neg (by omega), if_neg (by omega)] at hl
    subst hl
    go_enter Tryz.func131, Tryz.ntmps131
    go_wp2
    go_ret
    exact ⟨rfl, rfl⟩

/-- the model's text of a rune is the plain one -/
theorem Rd.encode (x : Nat) (h0 : x ≠ 0) : Utf8.encode (x : Int) = ⟨(Pl.runeL x).toArray⟩ := by
  by_cases hv : Utf8.valid (x : Int) = true
  · have hb : ¬ (x = 0 ∨ (55296 ≤ x ∧ x ≤ 57343) ∨ 1114111 < x) := by
      simp only [Utf8.valid, Bool.or_eq_true, Bool.and_eq_true, decide_eq_true_eq] at hv
      omega
    unfold Utf8.encode Pl.runeL
    rw [if_neg hb]
    simp only [hv, if_true, Int.toNat_natCast]
    repeat' split
    all_goals rfl
  · have hb : x = 0 ∨ (55296 ≤ x ∧ x ≤ 57343) ∨ 1114111 < x := by
      simp only [Utf8.valid, Bool.or_eq_true, Bool.and_eq_true, decide_eq_true_eq] at hv
      omega
    unfold Utf8.encode Pl.runeL
    rw [if_pos hb]
    have hv' : Utf8.valid (x : Int) = false := by simpa using hv
    simp only [hv', Bool.false_eq_true, if_false]
    rfl

set_option maxHeartbeats 1000000 in
theorem Rd.signOf (x : Nat) (hx : x < 2147483648) (w : World) :
    Calls Tryz.prog 132 #[.int .i64 (x : Int)] w fun e w' => e = .returned (.string ⟨(Pl.runeL x).toArray⟩) ∧ w' = w := by
  by_cases h0 : x = 0
  · subst h0
    go_enter Tryz.func132, Tryz.ntmps132
    go_wp2
    go_ret
    exact ⟨rfl, rfl⟩
  · have hz : ((x : Int) == 0) = false := beq_eq_false_iff_ne.2 (by omega)
    have he := Rd.encode x h0
    generalize (⟨(Pl.runeL x).toArray⟩ : ByteArray) = r at *
    go_enter Tryz.func132, Tryz.ntmps132
    go_wp2
    go_ret
    exact ⟨rfl, rfl⟩

theorem Rd.drop_cons (s : ByteArray) (k : Nat) (h : k < s.size) : s.data.toList.drop k = s[k] :: s.data.toList.drop (k + 1) := by
  have h' : k < s.data.toList.length := by rw [Array.length_toList]; exact h
  rw [List.drop_eq_getElem_cons h']
  rfl
theorem Rd.get_at (s : ByteArray) (k : Nat) (h : k < s.size) : s.data.toList[k]? = some s[k] := by
  have h' : k < s.data.toList.length := by rw [Array.length_toList]; exact h
  rw [List.getElem?_eq_getElem h']
  rfl
theorem Rd.get_end (s : ByteArray) (k : Nat) (h : s.size ≤ k) : s.data.toList[k]? = none := by
  rw [List.getElem?_eq_none]
  rw [Array.length_toList]; exact h
theorem Rd.scan_end (base m : Nat) (s : ByteArray) (k x : Nat) (h : s.size ≤ k) : Pl.scan base m (s.data.toList.drop k) x k = (x, k) := by
  rw [List.drop_of_length_le (by rw [Array.length_toList]; exact h)]
  cases m <;> rfl
theorem Rd.scan_zero (base m : Nat) (l : List UInt8) (k x : Nat) (h : m = 0) : Pl.scan base m l x k = (x, k) := by
  subst h; rfl
theorem Rd.scan_stop (base m : Nat) (s : ByteArray) (k x d : Nat) (h : k < s.size) (hd : Pl.dig s[k] = d) (hb : base ≤ d) : Pl.scan base m (s.data.toList.drop k) x k = (x, k) := by
  rw [Rd.drop_cons s k h]
  cases m with
  | zero => rfl
  | succ m => rw [Pl.scan, if_neg (by omega)]
theorem Rd.scan_go (base m m' : Nat) (s : ByteArray) (k x d : Nat) (h : k < s.size) (hd : Pl.dig s[k] = d) (hb : d < base) (hm : m = m' + 1) : Pl.scan base m (s.data.toList.drop k) x k = Pl.scan base m' (s.data.toList.drop (k + 1)) (x * base + d) (k + 1) := by
  subst hm
  rw [Rd.drop_cons s k h, Pl.scan, if_pos (by omega), hd]
theorem Rd.num_none (l : List UInt8) (start base most x k : Nat) (h : Pl.scan base most (l.drop start) 0 start = (x, k)) (hn : k = start ∨ l[k]? ≠ some 59) : Pl.numL l start base most = ([], 0) := by
  unfold Pl.numL
  rw [h]
  exact if_pos hn
theorem Rd.num_some (l : List UInt8) (start base most x k : Nat) (h : Pl.scan base most (l.drop start) 0 start = (x, k)) (h0 : k ≠ start) (hn : l[k]? = some 59) : Pl.numL l start base most = (Pl.runeL x, k + 1) := by
  unfold Pl.numL
  rw [h]
  exact if_neg (by rintro (e | e); exact h0 e; exact e hn)
theorem Rd.ret_pair {p q : List UInt8 × Nat} (h : p = q) : Ending.returned (.tuple #[.string ⟨p.1.toArray⟩, .int .i64 (p.2 : Nat)]) = .returned (.tuple #[.string ⟨q.1.toArray⟩, .int .i64 (q.2 : Nat)]) := by rw [h]
theorem Rd.pow (b x j d : Nat) (h : x < b ^ j) (hd : d < b) : x * b + d < b ^ (j + 1) := by
  have : (x + 1) * b ≤ b ^ j * b := Nat.mul_le_mul_right b h
  rw [Nat.pow_succ]
  rw [Nat.add_mul] at this
  omega
theorem Rd.pow_le (b x j m : Nat) (h : x < b ^ j) (hb : 0 < b) (hm : j ≤ m) : x < b ^ m := Nat.lt_of_lt_of_le h (Nat.pow_le_pow_right hb hm)
theorem Rd.ne59 (c : UInt8) (n : Nat) (hc : c.toNat = n) (h : n ≠ 59) : some c ≠ some 59 := by
  intro e
  simp only [Option.some.injEq] at e
  subst e
  exact h hc.symm
theorem Rd.is59 (c : UInt8) (n : Nat) (hc : c.toNat = n) (h : n = 59) : some c = some 59 := by
  have : c = 59 := UInt8.toNat_inj.1 (by rw [hc, h]; rfl)
  rw [this]

set_option maxRecDepth 100000 in
set_option maxHeartbeats 4000000 in
theorem Rd.hexed (s : ByteArray) (w : World) (h0 : 2 ≤ s.size) :
    Calls Tryz.prog 118 #[.string s, .int .i64 2, .int .i64 16, .int .i64 6] w fun e w' => e = .returned (.tuple #[.string ⟨(Pl.numL s.data.toList 2 16 6).1.toArray⟩, .int .i64 ((Pl.numL s.data.toList 2 16 6).2 : Nat)]) ∧ w' = w := by
  go_enter Tryz.func118, Tryz.ntmps118
  go_wp2
  go_loop [10, 11] (fun v i => ∃ x k : Nat, 2 ≤ k ∧ k ≤ s.size ∧ k ≤ 8 ∧ v = .int .i64 x ∧ i = .int .i64 k ∧ x < 16 ^ (k - 2) ∧ Hid (Pl.scan 16 (8 - k) (s.data.toList.drop k) x k = Pl.scan 16 6 (s.data.toList.drop 2) 0 2)) (fun _ i => 8 - (intOf i).toNat)
  case atStart => exact ⟨0, 2, by omega, h0, by omega, rfl, rfl, by decide, rfl⟩
  case round =>
    obtain ⟨x, k, hk0, hk1, hk2, rfl, rfl, hx0, HE⟩ := hrel
    have hx : x < 16777216 := Rd.pow_le 16 x (k - 2) 6 hx0 (by decide) (by omega)
    have HX : Hid (x < 16 ^ (k - 2)) := hx0
    clear hx0
    by_cases hlt : k < s.size
    · obtain ⟨d, hd⟩ : ∃ d, Pl.dig s[k] = d := ⟨_, rfl⟩
      obtain ⟨n, hn⟩ : ∃ n, s[k].toNat = n := ⟨_, rfl⟩
      have hd16 : d ≤ 16 := by rw [← hd]; exact Pl.dig_le _
      have cd := Rd.digit s[k] w
      rw [hd, hn] at cd
      have HD : Hid (Pl.dig s[k] = d) := hd
      clear hd
      by_cases hm : k < 8
      · by_cases hb : d < 16
        · have hb1 : decide ((16 : Int) ≤ (d : Int)) = false := decide_eq_false (by omega)
          have HP := Rd.pow 16 x (k - 2) d HX.out hb
          have HG := Rd.scan_go 16 (8 - k) (8 - (k + 1)) s k x d hlt HD.out hb (by omega)
          have HN : Hid (Pl.scan 16 (8 - (k + 1)) (s.data.toList.drop (k + 1)) (x * 16 + d) (k + 1) = Pl.scan 16 6 (s.data.toList.drop 2) 0 2 ∧ x * 16 + d < 16 ^ (k + 1 - 2)) := by
            refine ⟨by rw [← HG]; exact HE.out, ?_⟩
            rwa [show k + 1 - 2 = k - 2 + 1 by omega]
          clear HP HG HX HE HD
          go_wp2_with (go_at_call 131; refine cd.mono ?_; rintro e w1 ⟨rfl, rfl⟩)
          go_round
          case rel => exact ⟨x * 16 + d, k + 1, by omega, by omega, by omega, by go_num, by go_num, HN.out.2, HN.out.1⟩
          case measure => simp [intOf]; omega
        · have hb1 : decide ((16 : Int) ≤ (d : Int)) = true := decide_eq_true (by omega)
          have HS : Hid (Pl.scan 16 (8 - k) (s.data.toList.drop k) x k = (x, k)) := Rd.scan_stop _ _ s k x d hlt HD.out (by omega)
          clear HX HD
          by_cases e0 : k = 2
          · have b0 : ((k : Int) == 2) = true := beq_iff_eq.2 (by omega)
            have E0 : Hid (k = 2) := e0
            clear e0
            go_wp2_with (go_at_call 131; refine cd.mono ?_; rintro e w1 ⟨rfl, rfl⟩)
            go_ret2
            exact ⟨Rd.ret_pair (Rd.num_none _ _ _ _ _ _ (HE.out.symm.trans HS.out) (by exact .inl E0.out)).symm, rfl⟩
          · have b0 : ((k : Int) == 2) = false := beq_eq_false_iff_ne.2 (by omega)
            have b1 : ((k : Int) == (s.size : Int)) = false := beq_eq_false_iff_ne.2 (by omega)
            have hg := Rd.get_at s k hlt
            have HG : Hid (s.data.toList[k]? = some s[k]) := hg
            clear hg
            by_cases e1 : n = 59
            · have b2 : ((n : Int) == 59) = true := beq_iff_eq.2 (by omega)
              have E1 : Hid (n = 59) := e1
              clear e1
              go_wp2_with (first | (go_at_call 131; refine cd.mono ?_; rintro e w1 ⟨rfl, rfl⟩) | (go_at_call 132; refine (Rd.signOf x (by omega) _).mono ?_; rintro e w1 ⟨rfl, rfl⟩))
              go_ret2
              refine ⟨Eq.trans ?_ (Rd.ret_pair (Rd.num_some _ _ _ _ _ _ (HE.out.symm.trans HS.out) e0 (by rw [HG.out]; exact Rd.is59 _ n hn E1.out)).symm), rfl⟩
              simp
            · have b2 : ((n : Int) == 59) = false := beq_eq_false_iff_ne.2 (by omega)
              go_wp2_with (go_at_call 131; refine cd.mono ?_; rintro e w1 ⟨rfl, rfl⟩)
              go_ret2
              exact ⟨Rd.ret_pair (Rd.num_none _ _ _ _ _ _ (HE.out.symm.trans HS.out) (by right; rw [HG.out]; exact Rd.ne59 _ n hn e1)).symm, rfl⟩
      · have HS : Hid (Pl.scan 16 (8 - k) (s.data.toList.drop k) x k = (x, k)) := Rd.scan_zero _ _ _ k x (by omega)
        clear HX HD
        by_cases e0 : k = 2
        · have b0 : ((k : Int) == 2) = true := beq_iff_eq.2 (by omega)
          have E0 : Hid (k = 2) := e0
          clear e0
          go_wp2
          go_ret2
          exact ⟨Rd.ret_pair (Rd.num_none _ _ _ _ _ _ (HE.out.symm.trans HS.out) (by exact .inl E0.out)).symm, rfl⟩
        · have b0 : ((k : Int) == 2) = false := beq_eq_false_iff_ne.2 (by omega)
          have b1 : ((k : Int) == (s.size : Int)) = false := beq_eq_false_iff_ne.2 (by omega)
          have hg := Rd.get_at s k hlt
          have HG : Hid (s.data.toList[k]? = some s[k]) := hg
          clear hg
          by_cases e1 : n = 59
          · have b2 : ((n : Int) == 59) = true := beq_iff_eq.2 (by omega)
            have E1 : Hid (n = 59) := e1
            clear e1
            go_wp2_with (first | (go_at_call 131; refine cd.mono ?_; rintro e w1 ⟨rfl, rfl⟩) | (go_at_call 132; refine (Rd.signOf x (by omega) _).mono ?_; rintro e w1 ⟨rfl, rfl⟩))
            go_ret2
            refine ⟨Eq.trans ?_ (Rd.ret_pair (Rd.num_some _ _ _ _ _ _ (HE.out.symm.trans HS.out) e0 (by rw [HG.out]; exact Rd.is59 _ n hn E1.out)).symm), rfl⟩
            simp
          · have b2 : ((n : Int) == 59) = false := beq_eq_false_iff_ne.2 (by omega)
            go_wp2
            go_ret2
            exact ⟨Rd.ret_pair (Rd.num_none _ _ _ _ _ _ (HE.out.symm.trans HS.out) (by right; rw [HG.out]; exact Rd.ne59 _ n hn e1)).symm, rfl⟩
    · have HS : Hid (Pl.scan 16 (8 - k) (s.data.toList.drop k) x k = (x, k)) := Rd.scan_end _ _ s k x (by omega)
      clear HX
      by_cases e0 : k = 2
      · have b0 : ((k : Int) == 2) = true := beq_iff_eq.2 (by omega)
        have E0 : Hid (k = 2) := e0
        clear e0
        go_wp2
        go_ret2
        exact ⟨Rd.ret_pair (Rd.num_none _ _ _ _ _ _ (HE.out.symm.trans HS.out) (by exact .inl E0.out)).symm, rfl⟩
      · have b0 : ((k : Int) == 2) = false := beq_eq_false_iff_ne.2 (by omega)
        have b1 : ((k : Int) == (s.size : Int)) = true := beq_iff_eq.2 (by omega)
        go_wp2
        go_ret2
        exact ⟨Rd.ret_pair (Rd.num_none _ _ _ _ _ _ (HE.out.symm.trans HS.out) (by right; rw [Rd.get_end s k (by omega)]; exact fun h => by cases h)).symm, rfl⟩

set_option maxRecDepth 100000 in
set_option maxHeartbeats 4000000 in
theorem Rd.tens (s : ByteArray) (w : World) (h0 : 1 ≤ s.size) :
    Calls Tryz.prog 118 #[.string s, .int .i64 1, .int .i64 10, .int .i64 7] w fun e w' => e = .returned (.tuple #[.string ⟨(Pl.numL s.data.toList 1 10 7).1.toArray⟩, .int .i64 ((Pl.numL s.data.toList 1 10 7).2 : Nat)]) ∧ w' = w := by
  go_enter Tryz.func118, Tryz.ntmps118
  go_wp2
  go_loop [10, 11] (fun v i => ∃ x k : Nat, 1 ≤ k ∧ k ≤ s.size ∧ k ≤ 8 ∧ v = .int .i64 x ∧ i = .int .i64 k ∧ x < 10 ^ (k - 1) ∧ Hid (Pl.scan 10 (8 - k) (s.data.toList.drop k) x k = Pl.scan 10 7 (s.data.toList.drop 1) 0 1)) (fun _ i => 8 - (intOf i).toNat)
  case atStart => exact ⟨0, 1, by omega, h0, by omega, rfl, rfl, by decide, rfl⟩
  case round =>
    obtain ⟨x, k, hk0, hk1, hk2, rfl, rfl, hx0, HE⟩ := hrel
    have hx : x < 10000000 := Rd.pow_le 10 x (k - 1) 7 hx0 (by decide) (by omega)
    have HX : Hid (x < 10 ^ (k - 1)) := hx0
    clear hx0
    by_cases hlt : k < s.size
    · obtain ⟨d, hd⟩ : ∃ d, Pl.dig s[k] = d := ⟨_, rfl⟩
      obtain ⟨n, hn⟩ : ∃ n, s[k].toNat = n := ⟨_, rfl⟩
      have hd16 : d ≤ 16 := by rw [← hd]; exact Pl.dig_le _
      have cd := Rd.digit s[k] w
      rw [hd, hn] at cd
      have HD : Hid (Pl.dig s[k] = d) := hd
      clear hd
      by_cases hm : k < 8
      · by_cases hb : d < 10
        · have hb1 : decide ((10 : Int) ≤ (d : Int)) = false := decide_eq_false (by omega)
          have HP := Rd.pow 10 x (k - 1) d HX.out hb
          have HG := Rd.scan_go 10 (8 - k) (8 - (k + 1)) s k x d hlt HD.out hb (by omega)
          have HN : Hid (Pl.scan 10 (8 - (k + 1)) (s.data.toList.drop (k + 1)) (x * 10 + d) (k + 1) = Pl.scan 10 7 (s.data.toList.drop 1) 0 1 ∧ x * 10 + d < 10 ^ (k + 1 - 1)) := by
            refine ⟨by rw [← HG]; exact HE.out, ?_⟩
            rwa [show k + 1 - 1 = k - 1 + 1 by omega]
          clear HP HG HX HE HD
          go_wp2_with (go_at_call 131; refine cd.mono ?_; rintro e w1 ⟨rfl, rfl⟩)
          go_round
          case rel => exact ⟨x * 10 + d, k + 1, by omega, by omega, by omega, by go_num, by go_num, HN.out.2, HN.out.1⟩
          case measure => simp [intOf]; omega
        · have hb1 : decide ((10 : Int) ≤ (d : Int)) = true := decide_eq_true (by omega)
          have HS : Hid (Pl.scan 10 (8 - k) (s.data.toList.drop k) x k = (x, k)) := Rd.scan_stop _ _ s k x d hlt HD.out (by omega)
          clear HX HD
          by_cases e0 : k = 1
          · have b0 : ((k : Int) == 1) = true := beq_iff_eq.2 (by omega)
            have E0 : Hid (k = 1) := e0
            clear e0
            go_wp2_with (go_at_call 131; refine cd.mono ?_; rintro e w1 ⟨rfl, rfl⟩)
            go_ret2
            exact ⟨Rd.ret_pair (Rd.num_none _ _ _ _ _ _ (HE.out.symm.trans HS.out) (by exact .inl E0.out)).symm, rfl⟩
          · have b0 : ((k : Int) == 1) = false := beq_eq_false_iff_ne.2 (by omega)
            have b1 : ((k : Int) == (s.size : Int)) = false := beq_eq_false_iff_ne.2 (by omega)
            have hg := Rd.get_at s k hlt
            have HG : Hid (s.data.toList[k]? = some s[k]) := hg
            clear hg
            by_cases e1 : n = 59
            · have b2 : ((n : Int) == 59) = true := beq_iff_eq.2 (by omega)
              have E1 : Hid (n = 59) := e1
              clear e1
              go_wp2_with (first | (go_at_call 131; refine cd.mono ?_; rintro e w1 ⟨rfl, rfl⟩) | (go_at_call 132; refine (Rd.signOf x (by omega) _).mono ?_; rintro e w1 ⟨rfl, rfl⟩))
              go_ret2
              refine ⟨Eq.trans ?_ (Rd.ret_pair (Rd.num_some _ _ _ _ _ _ (HE.out.symm.trans HS.out) e0 (by rw [HG.out]; exact Rd.is59 _ n hn E1.out)).symm), rfl⟩
              simp
            · have b2 : ((n : Int) == 59) = false := beq_eq_false_iff_ne.2 (by omega)
              go_wp2_with (go_at_call 131; refine cd.mono ?_; rintro e w1 ⟨rfl, rfl⟩)
              go_ret2
              exact ⟨Rd.ret_pair (Rd.num_none _ _ _ _ _ _ (HE.out.symm.trans HS.out) (by right; rw [HG.out]; exact Rd.ne59 _ n hn e1)).symm, rfl⟩
      · have HS : Hid (Pl.scan 10 (8 - k) (s.data.toList.drop k) x k = (x, k)) := Rd.scan_zero _ _ _ k x (by omega)
        clear HX HD
        by_cases e0 : k = 1
        · have b0 : ((k : Int) == 1) = true := beq_iff_eq.2 (by omega)
          have E0 : Hid (k = 1) := e0
          clear e0
          go_wp2
          go_ret2
          exact ⟨Rd.ret_pair (Rd.num_none _ _ _ _ _ _ (HE.out.symm.trans HS.out) (by exact .inl E0.out)).symm, rfl⟩
        · have b0 : ((k : Int) == 1) = false := beq_eq_false_iff_ne.2 (by omega)
          have b1 : ((k : Int) == (s.size : Int)) = false := beq_eq_false_iff_ne.2 (by omega)
          have hg := Rd.get_at s k hlt
          have HG : Hid (s.data.toList[k]? = some s[k]) := hg
          clear hg
          by_cases e1 : n = 59
          · have b2 : ((n : Int) == 59) = true := beq_iff_eq.2 (by omega)
            have E1 : Hid (n = 59) := e1
            clear e1
            go_wp2_with (first | (go_at_call 131; refine cd.mono ?_; rintro e w1 ⟨rfl, rfl⟩) | (go_at_call 132; refine (Rd.signOf x (by omega) _).mono ?_; rintro e w1 ⟨rfl, rfl⟩))
            go_ret2
            refine ⟨Eq.trans ?_ (Rd.ret_pair (Rd.num_some _ _ _ _ _ _ (HE.out.symm.trans HS.out) e0 (by rw [HG.out]; exact Rd.is59 _ n hn E1.out)).symm), rfl⟩
            simp
          · have b2 : ((n : Int) == 59) = false := beq_eq_false_iff_ne.2 (by omega)
            go_wp2
            go_ret2
            exact ⟨Rd.ret_pair (Rd.num_none _ _ _ _ _ _ (HE.out.symm.trans HS.out) (by right; rw [HG.out]; exact Rd.ne59 _ n hn e1)).symm, rfl⟩
    · have HS : Hid (Pl.scan 10 (8 - k) (s.data.toList.drop k) x k = (x, k)) := Rd.scan_end _ _ s k x (by omega)
      clear HX
      by_cases e0 : k = 1
      · have b0 : ((k : Int) == 1) = true := beq_iff_eq.2 (by omega)
        have E0 : Hid (k = 1) := e0
        clear e0
        go_wp2
        go_ret2
        exact ⟨Rd.ret_pair (Rd.num_none _ _ _ _ _ _ (HE.out.symm.trans HS.out) (by exact .inl E0.out)).symm, rfl⟩
      · have b0 : ((k : Int) == 1) = false := beq_eq_false_iff_ne.2 (by omega)
        have b1 : ((k : Int) == (s.size : Int)) = true := beq_iff_eq.2 (by omega)
        go_wp2
        go_ret2
        exact ⟨Rd.ret_pair (Rd.num_none _ _ _ _ _ _ (HE.out.symm.trans HS.out) (by right; rw [Rd.get_end s k (by omega)]; exact fun h => by cases h)).symm, rfl⟩

end Go.Proofs.YtjbkgokiikbaeaaGreatDoor

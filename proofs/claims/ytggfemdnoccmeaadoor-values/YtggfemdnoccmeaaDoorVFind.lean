/-
  TEXTS IN THEIR ORDER, and the walk of slices.BinarySearch over keys that rise.
-/
import Derived.Test.YtggfemdnoccmeaaDoorVAlike
namespace Go.Proofs.YtggfemdnoccmeaaDoor
open Go.RowKit

theorem Vo.irr : ∀ l : List UInt8, Op.bytesLess l l = false
  | [] => rfl
  | a :: l => by
    simp only [Op.bytesLess, Vo.irr l, Bool.and_false, Bool.or_false, decide_eq_false_iff_not]
    exact UInt8.lt_irrefl a
theorem Vo.trans : ∀ a b c : List UInt8, Op.bytesLess a b = true → Op.bytesLess b c = true → Op.bytesLess a c = true
  | _, [], _, h, _ => by cases ‹List UInt8› <;> simp [Op.bytesLess] at h
  | _, _ :: _, [], _, h => by simp [Op.bytesLess] at h
  | [], _ :: _, _ :: _, _, _ => rfl
  | x :: a, y :: b, z :: c, h, g => by
    simp only [Op.bytesLess, Bool.or_eq_true, decide_eq_true_eq, Bool.and_eq_true, beq_iff_eq] at h g ⊢
    rcases h with h | ⟨rfl, h⟩
    · rcases g with g | ⟨rfl, g⟩
      · exact .inl (UInt8.lt_trans h g)
      · exact .inl h
    · rcases g with g | ⟨rfl, g⟩
      · exact .inl g
      · exact .inr ⟨rfl, Vo.trans a b c h g⟩
theorem Vo.tot : ∀ a b : List UInt8, Op.bytesLess a b = false → a ≠ b → Op.bytesLess b a = true
  | [], [], _, h => absurd rfl h
  | [], _ :: _, h, _ => by simp [Op.bytesLess] at h
  | _ :: _, [], _, _ => rfl
  | x :: a, y :: b, h, g => by
    simp only [Op.bytesLess, Bool.or_eq_false_iff, decide_eq_false_iff_not, Bool.and_eq_false_iff, beq_eq_false_iff_ne] at h
    simp only [Op.bytesLess, Bool.or_eq_true, decide_eq_true_eq, Bool.and_eq_true, beq_iff_eq]
    by_cases e : x = y
    · subst e
      rcases h.2 with h2 | h2
      · exact absurd rfl h2
      · exact .inr ⟨rfl, Vo.tot a b h2 (fun e => g (by rw [e]))⟩
    · refine .inl ?_
      have h1 := h.1
      rw [UInt8.lt_iff_toNat_lt] at h1 ⊢
      have : x.toNat ≠ y.toNat := fun e' => e (UInt8.toNat_inj.1 e')
      omega
theorem Vo.ne {a b : List UInt8} (h : Op.bytesLess a b = true) : a ≠ b := fun e => by rw [e, Vo.irr] at h; cases h
/-- keys that may be rise -/
theorem Vo.step {ks : Nat → ByteArray} {m j : Nat} (h : Vt.keysOk ks m = true) (hj : j + 1 < m) : Op.bytesLess (ks j).toList (ks (j + 1)).toList = true := by
  have := Vt.keysOk_of h hj
  unfold Vt.key at this
  simp only [Vt.prev, Bool.and_eq_true, Bool.not_eq_true', Bool.or_eq_false_iff, beq_eq_false_iff_ne] at this
  exact Vo.tot _ _ this.1.1 this.1.2
theorem Vo.rise {ks : Nat → ByteArray} {m : Nat} (h : Vt.keysOk ks m = true) {i j : Nat} (hij : i < j) (hj : j < m) : Op.bytesLess (ks i).toList (ks j).toList = true := by
  induction j with
  | zero => omega
  | succ j ih =>
    by_cases e : i = j
    · subst e; exact Vo.step h hj
    · exact Vo.trans _ _ _ (ih (by omega) (by omega)) (Vo.step h hj)

theorem Vf.nan (x : ByteArray) (w : World) : Calls Tryd.prog 52 #[.string x] w fun e w' => e = .returned (.bool false) ∧ w' = w := by
  go_enter Tryd.func52, Tryd.ntmps52
  go_wp2
  go_ret
  exact ⟨by simp, rfl⟩
theorem Vf.nan' (x : ByteArray) (w : World) : Calls Tryd.prog 66 #[.string x] w fun e w' => e = .returned (.bool false) ∧ w' = w := by
  go_enter Tryd.func66, Tryd.ntmps66
  go_wp2
  go_ret
  exact ⟨by simp, rfl⟩
theorem Vf.less (x y : ByteArray) (w : World) : Calls Tryd.prog 51 #[.string x, .string y] w fun e w' => e = .returned (.bool (Op.bytesLess x.toList y.toList)) ∧ w' = w := by
  go_enter Tryd.func51, Tryd.ntmps51
  go_wp2_with fail
  refine (Vf.nan' x _).mono ?_
  rintro e w1 ⟨rfl, rfl⟩
  go_wp2
  go_ret
  exact ⟨rfl, rfl⟩

set_option maxRecDepth 100000 in
set_option maxHeartbeats 2000000 in
theorem Vf.search (m : Nat) (ks : Nat → ByteArray) (ak : Option Addr) (d : Nat) (R : Nat → Prop) (x : ByteArray) (w : World) (h : Vt.Keys w R m ks ak d) (hm : m ≤ 64) (hok : Vt.keysOk ks m = true) :
    Calls Tryd.prog 31 #[.slice ak m d, .string x] w fun e w' => w' = w ∧ ∃ (I : Nat) (f : Bool), e = .returned (.tuple #[.int .i64 I, .bool f]) ∧ (f = true → I < m ∧ (ks I).toList = x.toList) ∧ (f = false → ∀ j, j < m → (ks j).toList ≠ x.toList) := by
  have HOK := Lib.hid hok
  clear hok
  go_enter Tryd.func31, Tryd.ntmps31
  go_wp2
  go_loopw [7, 8] (fun s7 s8 wr => ∃ lo hi : Nat, s7 = .int .i64 lo ∧ s8 = .int .i64 hi ∧ lo ≤ hi ∧ hi ≤ m ∧ wr = w ∧ Hid ((∀ j, j < lo → Op.bytesLess (ks j).toList x.toList = true) ∧ ∀ j, hi ≤ j → j < m → Op.bytesLess (ks j).toList x.toList = false)) (fun s7 s8 _ => (intOf s8).toNat - (intOf s7).toNat)
  case atStart => exact ⟨0, m, by go_num, by go_num, Nat.zero_le _, Nat.le_refl _, rfl, fun j hj => by omega, fun j h1 h2 => by omega⟩
  case round =>
    obtain ⟨lo, hi, rfl, rfl, hlh, hhm, rfl, HB⟩ := hrel
    by_cases hlt : lo < hi
    · obtain ⟨mid, hmid⟩ : ∃ mid, (lo + hi) / 2 = mid := ⟨_, rfl⟩
      have h1 : lo ≤ mid ∧ mid < hi := by omega
      obtain ⟨b, o, rfl, _, hc⟩ := h.cell mid (by omega)
      have hmd : mid < d := by have := h.le; omega
      have e1 : ((lo : Int) + (hi : Int)) / 2 = (mid : Int) := by omega
      have e2 : (lo + hi) / 2 = mid := hmid
      clear hmid
      have HRi : Hid (∀ j, j < mid → Op.bytesLess (ks j).toList (ks mid).toList = true) := fun j hj => Vo.rise HOK.out hj (by omega)
      have HLe : Hid (∀ j, mid < j → j < m → Op.bytesLess (ks mid).toList (ks j).toList = true) := fun j hj hjm => Vo.rise HOK.out hj hjm
      generalize hY : ks mid = Y at *
      have HY := Lib.hid hY
      clear hY
      cases hl : Op.bytesLess Y.toList x.toList with
      | true =>
        go_wp2_with fail
        refine (Vf.less Y x _).mono ?_
        rintro e w1 ⟨rfl, rfl⟩
        rw [hl]
        have HL := Lib.hid hl
        clear hl
        go_wp2
        refine ⟨⟨mid + 1, hi, by go_num, by go_num, by omega, hhm, trivial, fun j hj => ?_, HB.out.2⟩, ?_⟩
        · by_cases e : j = mid
          · rw [e, HY.out]; exact HL.out
          · exact Vo.trans _ _ _ (HRi.out j (by omega)) HL.out
        · simp [intOf]
          omega
      | false =>
        go_wp2_with fail
        refine (Vf.less Y x _).mono ?_
        rintro e w1 ⟨rfl, rfl⟩
        rw [hl]
        have HL := Lib.hid hl
        clear hl
        go_wp2
        refine ⟨⟨lo, mid, by go_num, by go_num, h1.1, by omega, trivial, HB.out.1, fun j h2 hjm => ?_⟩, ?_⟩
        · by_cases e : j = mid
          · rw [e, HY.out]; exact HL.out
          · have h3 := HLe.out j (by omega) hjm
            cases h4 : Op.bytesLess (ks j).toList x.toList with
            | false => rfl
            | true => have := Vo.trans _ _ _ h3 h4; rw [HL.out] at this; cases this
        · simp [intOf]
          omega
    · have e : lo = hi := by omega
      subst e
      by_cases hle : lo < m
      · obtain ⟨b, o, rfl, _, hc⟩ := h.cell lo hle
        have hmd : lo < d := by have := h.le; omega
        have HRi : Hid (∀ j, lo < j → j < m → Op.bytesLess (ks lo).toList (ks j).toList = true) := fun j hj hjm => Vo.rise HOK.out hj hjm
        have HNL : Hid (Op.bytesLess (ks lo).toList x.toList = false) := HB.out.2 lo (Nat.le_refl _) hle
        generalize hY : ks lo = Y at *
        have HY := Lib.hid hY
        clear hY
        cases hq : (Y.toList == x.toList) with
        | true =>
          have HQ : Hid (Y.toList = x.toList) := beq_iff_eq.1 hq
          go_wp2
          go_ret2
          exact ⟨rfl, lo, true, rfl, fun _ => ⟨hle, by rw [HY.out]; exact HQ.out⟩, fun e => (by cases e)⟩
        | false =>
          have HQ : Hid (Y.toList ≠ x.toList) := beq_eq_false_iff_ne.1 hq
          go_wp2_with fail
          refine (Vf.nan Y _).mono ?_
          rintro e w1 ⟨rfl, rfl⟩
          go_wp2
          go_ret2
          refine ⟨rfl, lo, false, rfl, fun e => (by cases e), fun _ j hjm => ?_⟩
          by_cases h1 : j < lo
          · exact Vo.ne (HB.out.1 j h1)
          · by_cases e : j = lo
            · rw [e, HY.out]; exact HQ.out
            · have h3 := HRi.out j (by omega) hjm
              have h4 := Vo.tot _ _ HNL.out HQ.out
              exact fun e5 => Vo.ne (Vo.trans _ _ _ h4 h3) e5.symm
      · have e : lo = m := by omega
        subst e
        go_wp2
        go_ret2
        exact ⟨rfl, lo, false, rfl, fun e => (by cases e), fun _ j hjm => Vo.ne (HB.out.1 j hjm)⟩
end Go.Proofs.YtggfemdnoccmeaaDoor

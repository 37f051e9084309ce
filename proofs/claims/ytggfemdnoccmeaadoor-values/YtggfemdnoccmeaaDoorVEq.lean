/-
  THE WALKS of slices.Equal of texts and of the law's own SameTexts.
-/
import Derived.Test.YtggfemdnoccmeaaDoorVTrue
namespace Go.Proofs.YtggfemdnoccmeaaDoor
open Go.RowKit

def Vt.allTo (f : Nat → Bool) : Nat → Bool
  | 0 => true
  | n + 1 => Vt.allTo f n && f n
theorem Vt.allTo_of {f : Nat → Bool} {m j : Nat} (h : Vt.allTo f m = true) (hj : j < m) : f j = true := by
  induction m with
  | zero => omega
  | succ m ih =>
    simp only [Vt.allTo, Bool.and_eq_true] at h
    by_cases e : j = m
    · rw [e]; exact h.2
    · exact ih h.1 (by omega)
theorem Vt.allTo_no {f : Nat → Bool} {m j : Nat} (h : f j = false) (hj : j < m) : Vt.allTo f m = false := by
  cases e : Vt.allTo f m with
  | false => rfl
  | true => rw [Vt.allTo_of e hj] at h; cases h
theorem Vt.allTo_iff {f : Nat → Bool} {m : Nat} : Vt.allTo f m = true ↔ ∀ j, j < m → f j = true := by
  refine ⟨fun h j => Vt.allTo_of h, fun h => ?_⟩
  induction m with
  | zero => rfl
  | succ m ih =>
    simp only [Vt.allTo, Bool.and_eq_true]
    exact ⟨ih fun j hj => h j (by omega), h m (by omega)⟩
/-- the same texts, one by one -/
def Vt.sameKeys (m m' : Nat) (ks ks' : Nat → ByteArray) : Bool := decide (m = m') && Vt.allTo (fun j => (ks j).toList == (ks' j).toList) m

theorem Vm.drewN {B : Nat} {a w : World} (h : Below B a w) (n : Nat) : Below B a (w.drewN n) := ⟨h.os, h.tape, h.output, h.size, h.block⟩

set_option maxRecDepth 100000 in
theorem Ve.equal (m m' : Nat) (ks ks' : Nat → ByteArray) (ak ak' : Option Addr) (d d' : Nat) (R R' : Nat → Prop) (w : World) (h : Vt.Keys w R m ks ak d) (h' : Vt.Keys w R' m' ks' ak' d') :
    Calls Tryd.prog 58 #[.slice ak m d, .slice ak' m' d'] w fun e w' => e = .returned (.bool (Vt.sameKeys m m' ks ks')) ∧ Below w.heap.size w w' := by
  by_cases hmm : m = m'
  · subst hmm
    have hm : m ≤ 9223372036854775807 := by have := h.le; have := h.max; unfold maxLen at this; omega
    have HS : Hid (Vt.sameKeys m m ks ks' = Vt.allTo (fun j => (ks j).toList == (ks' j).toList) m) := by unfold Hid Vt.sameKeys; rw [decide_eq_true rfl]; rfl
    generalize Vt.sameKeys m m ks ks' = Z at *
    go_enter Tryd.func58, Tryd.ntmps58
    go_wp2
    go_loopw [13] (fun i wr => ∃ j : Nat, j ≤ m ∧ i = .int .i64 j ∧ Hid (Vt.allTo (fun j => (ks j).toList == (ks' j).toList) j = true) ∧ Below w.heap.size w wr) (fun i _ => m - (intOf i).toNat)
    case atStart => exact ⟨0, Nat.zero_le _, by go_num, rfl, Below.refl _ _⟩
    case round =>
      obtain ⟨j, hj, rfl, HK, hbr⟩ := hrel
      by_cases hjm : j < m
      · obtain ⟨b, o, rfl, _, hc⟩ := h.cell j hjm
        obtain ⟨b', o', rfl, _, hc'⟩ := h'.cell j hjm
        have hle : j < d := Nat.lt_of_lt_of_le hjm h.le
        have hle' : j < d' := Nat.lt_of_lt_of_le hjm h'.le
        replace hc := Vt.cell_on (hbr.block b (Vt.cell_lt hc)) hc
        replace hc' := Vt.cell_on (hbr.block b' (Vt.cell_lt hc')) hc'
        cases hq : ((ks j).toList == (ks' j).toList) with
        | false =>
          have HZ : Hid (Z = false) := HS.out.trans (Vt.allTo_no hq hjm)
          clear HS
          generalize ks j = X at *
          generalize ks' j = Y at *
          go_wp2_with fail
          go_quiet (fail)
          go_wp2
          go_ret
          rw [HZ.out]
          exact ⟨rfl, Vm.drewN hbr _⟩
        | true =>
          have HN : Hid (Vt.allTo (fun j => (ks j).toList == (ks' j).toList) (j + 1) = true) := by unfold Hid Vt.allTo; rw [HK.out, hq]; rfl
          generalize hX : ks j = X at *
          generalize hY : ks' j = Y at *
          clear hX hY
          go_wp2_with fail
          go_quiet (fail)
          go_wp2
          refine ⟨⟨j + 1, hjm, by go_num, HN, Vm.drewN hbr _⟩, ?_⟩
          simp [intOf]
          omega
      · have e : j = m := by omega
        subst e
        go_wp2
        go_ret
        rw [HS.out, HK.out]
        exact ⟨rfl, hbr⟩
  · have d1 : ((m : Int) == (m' : Int)) = false := beq_eq_false_iff_ne.2 (by omega)
    have HS : Hid (Vt.sameKeys m m' ks ks' = false) := by unfold Hid Vt.sameKeys; rw [decide_eq_false hmm]; rfl
    go_enter Tryd.func58, Tryd.ntmps58
    go_wp2
    go_ret
    rw [HS.out]
    exact ⟨rfl, Below.refl _ _⟩

set_option maxRecDepth 100000 in
theorem Ve.texts (m m' : Nat) (ks ks' : Nat → ByteArray) (ak ak' : Option Addr) (d d' : Nat) (R R' : Nat → Prop) (w : World) (h : Vt.Keys w R m ks ak d) (h' : Vt.Keys w R' m' ks' ak' d') :
    Calls Tryd.prog 21 #[.slice ak m d, .slice ak' m' d'] w fun e w' => e = .returned (.bool (Vt.sameKeys m m' ks ks')) ∧ Below w.heap.size w w' := by
  by_cases hmm : m = m'
  · subst hmm
    have hm : m ≤ 9223372036854775807 := by have := h.le; have := h.max; unfold maxLen at this; omega
    have HS : Hid (Vt.sameKeys m m ks ks' = Vt.allTo (fun j => (ks j).toList == (ks' j).toList) m) := by unfold Hid Vt.sameKeys; rw [decide_eq_true rfl]; rfl
    generalize Vt.sameKeys m m ks ks' = Z at *
    go_enter Tryd.func21, Tryd.ntmps21
    go_wp2
    go_loopw [5] (fun i wr => ∃ j : Nat, j ≤ m ∧ i = .int .i64 j ∧ Hid (Vt.allTo (fun j => (ks j).toList == (ks' j).toList) j = true) ∧ Below w.heap.size w wr) (fun i _ => m - (intOf i).toNat)
    case atStart => exact ⟨0, Nat.zero_le _, by go_num, rfl, Below.refl _ _⟩
    case round =>
      obtain ⟨j, hj, rfl, HK, hbr⟩ := hrel
      by_cases hjm : j < m
      · obtain ⟨b, o, rfl, _, hc⟩ := h.cell j hjm
        obtain ⟨b', o', rfl, _, hc'⟩ := h'.cell j hjm
        have hle : j < d := Nat.lt_of_lt_of_le hjm h.le
        have hle' : j < d' := Nat.lt_of_lt_of_le hjm h'.le
        replace hc := Vt.cell_on (hbr.block b (Vt.cell_lt hc)) hc
        replace hc' := Vt.cell_on (hbr.block b' (Vt.cell_lt hc')) hc'
        cases hq : ((ks j).toList == (ks' j).toList) with
        | false =>
          have HZ : Hid (Z = false) := HS.out.trans (Vt.allTo_no hq hjm)
          clear HS
          generalize ks j = X at *
          generalize ks' j = Y at *
          go_wp2_with fail
          go_quiet (fail)
          go_wp2
          go_ret
          rw [HZ.out]
          exact ⟨rfl, Vm.drewN hbr _⟩
        | true =>
          have HN : Hid (Vt.allTo (fun j => (ks j).toList == (ks' j).toList) (j + 1) = true) := by unfold Hid Vt.allTo; rw [HK.out, hq]; rfl
          generalize hX : ks j = X at *
          generalize hY : ks' j = Y at *
          clear hX hY
          go_wp2_with fail
          go_quiet (fail)
          go_wp2
          refine ⟨⟨j + 1, hjm, by go_num, HN, Vm.drewN hbr _⟩, ?_⟩
          simp [intOf]
          omega
      · have e : j = m := by omega
        subst e
        go_wp2
        go_ret
        rw [HS.out, HK.out]
        exact ⟨rfl, hbr⟩
  · have d1 : ((m : Int) == (m' : Int)) = false := beq_eq_false_iff_ne.2 (by omega)
    have HS : Hid (Vt.sameKeys m m' ks ks' = false) := by unfold Hid Vt.sameKeys; rw [decide_eq_false hmm]; rfl
    go_enter Tryd.func21, Tryd.ntmps21
    go_wp2
    go_ret
    rw [HS.out]
    exact ⟨rfl, Below.refl _ _⟩
end Go.Proofs.YtggfemdnoccmeaaDoor

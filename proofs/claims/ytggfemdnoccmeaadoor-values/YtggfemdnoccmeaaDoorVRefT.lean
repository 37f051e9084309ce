/-
  THE WALKS of the reference's text and Text.
-/
import Derived.Test.YtggfemdnoccmeaaDoorVCount
import Derived.Test.YtggfemdnoccmeaaDoorReRef2
namespace Go.Proofs.YtggfemdnoccmeaaDoor
open Go.RowKit

set_option maxRecDepth 100000 in
set_option maxHeartbeats 4000000 in
theorem Rv.tell (k x : Int) (b : Nat) (s : ByteArray) (n : Nat) (it : Nat → Vt) (m : Nat) (ks : Nat → ByteArray) (v : Value) (w : World) (h : (Vt.mk k x b s n it m ks).Lies w (· < w.heap.size) v) (hm : (Vt.mk k x b s n it m ks).may = true) :
    Calls Tryd.prog 26 #[v] w fun e w' => e = .returned (.tuple #[.string (Vt.mk k x b s n it m ks).told.1, .bool ((Vt.mk k x b s n it m ks).told.2 == 0)]) ∧ Below w.heap.size w w' := by
  have HF := Vt.formed_of hm
  have HT : Hid ((Vt.mk k x b s n it m ks).told = (if k = 0 then (⟨#[]⟩, 0) else if k = 1 then (if x = 1 then ⟨#[116, 114, 117, 101]⟩ else ⟨#[102, 97, 108, 115, 101]⟩, 0) else if k = 2 then (⟨(Lib.itoa x).toArray⟩, 0) else if k = 3 then (⟨(Re.text b).toArray⟩, 0) else if k = 4 then (s, 0) else (⟨#[]⟩, 402))) := by
    unfold Hid
    rw [Vt.told, hm, if_pos rfl]
  obtain ⟨ai, c, ak, d, rfl, hb, hn, hc, _, _⟩ := h
  generalize hz : (Vt.mk k x b s n it m ks).told = Z at *
  clear hz hm
  have hA := fun o => (Below.refl w.heap.size w).alloc (Nat.le_refl _) o
  by_cases k0 : k = 0
  · subst k0
    go_enter Tryd.func26, Tryd.ntmps26
    go_wp2
    go_ret2
    rw [HT.out]
    exact ⟨rfl, hA _⟩
  by_cases k1 : k = 1
  · subst k1
    by_cases hx : x = 1
    · subst hx
      go_enter Tryd.func26, Tryd.ntmps26
      go_wp2
      go_ret2
      rw [HT.out]
      exact ⟨rfl, hA _⟩
    · have d1 : (x == 1) = false := beq_eq_false_iff_ne.2 hx
      have HX := Lib.hid hx
      clear hx
      go_enter Tryd.func26, Tryd.ntmps26
      go_wp2
      go_ret2
      rw [HT.out, if_neg HX.out]
      exact ⟨rfl, hA _⟩
  by_cases k2 : k = 2
  · subst k2
    have hr : -9007199254740991 ≤ x ∧ x ≤ 9007199254740991 := by
      simp [Vt.formed] at HF
      exact ⟨HF.1.1.1.1.1, HF.1.1.1.1.2⟩
    clear HF
    go_enter Tryd.func26, Tryd.ntmps26
    go_wp2_with fail
    refine (Rs.number x (by omega) (by omega) _).mono ?_
    rintro e w2 ⟨rfl, hb2⟩
    have hb3 := Vm.behind hb2
    clear hb2
    go_wp2
    go_ret2
    rw [HT.out]
    exact ⟨rfl, hb3⟩
  by_cases k3 : k = 3
  · subst k3
    clear HF
    go_enter Tryd.func26, Tryd.ntmps26
    go_wp2_with fail
    refine (Rs.text b hb _).mono ?_
    rintro e w2 ⟨rfl, hb2⟩
    have hb3 := Vm.behind hb2
    clear hb2
    go_wp2
    go_ret2
    rw [HT.out]
    exact ⟨rfl, hb3⟩
  by_cases k4 : k = 4
  · subst k4
    clear HF
    go_enter Tryd.func26, Tryd.ntmps26
    go_wp2
    go_ret2
    rw [HT.out]
    exact ⟨rfl, hA _⟩
  have d0 : (k == 0) = false := beq_eq_false_iff_ne.2 k0
  have d1 : (k == 1) = false := beq_eq_false_iff_ne.2 k1
  have d2 : (k == 2) = false := beq_eq_false_iff_ne.2 k2
  have d3 : (k == 3) = false := beq_eq_false_iff_ne.2 k3
  have d4 : (k == 4) = false := beq_eq_false_iff_ne.2 k4
  have HE : Hid (Z = (⟨#[]⟩, 402)) := by
    have := HT.out
    rw [if_neg k0, if_neg k1, if_neg k2, if_neg k3, if_neg k4] at this
    exact this
  clear HT HF
  go_enter Tryd.func26, Tryd.ntmps26
  go_wp2
  go_ret2
  rw [HE.out]
  exact ⟨rfl, hA _⟩
theorem Rv.errs (t : Vt) (h : t.may = true) : t.told.2 = 0 ∨ (t.told.1 = ⟨#[]⟩ ∧ t.told.2 = 402) := by
  cases t with
  | nil => cases h
  | mk k x b s n it m ks =>
    rw [Vt.told, h, if_pos rfl]
    repeat' split
    all_goals simp

set_option maxRecDepth 100000 in
theorem Rv.text (t : Vt) (v : Value) (w : World) (h : t.Lies w (· < w.heap.size) v) : Calls Tryd.prog 7 #[v] w fun e w' => e = .returned (.tuple #[.string t.told.1, .int .i64 t.told.2]) ∧ Below w.heap.size w w' := by
  cases t with
  | nil => exact h.elim
  | mk k x b s n it m ks =>
    have H := Lib.hid h
    obtain ⟨ai, c, ak, d, rfl, hb, hn, hc, _, _⟩ := h
    go_enter Tryd.func7, Tryd.ntmps7
    go_wp2_with fail
    refine (Rv.may (Vt.mk k x b s n it m ks) _ _ (H.out.alloc _)).mono ?_
    rintro e w1 ⟨rfl, hw⟩
    obtain ⟨c0, c1, c2, c3, c4, c5⟩ := (Vm.box hw).cells
    have hb1 := Vm.behind hw
    have HL := Lib.hid (H.out.on' hb1)
    clear hw H
    cases hm : (Vt.mk k x b s n it m ks).may with
    | false =>
      have HZ := Lib.hid (Vt.told_no hm)
      clear hm
      go_wp2
      go_ret2
      rw [HZ.out]
      exact ⟨rfl, hb1⟩
    | true =>
      have HM := Lib.hid hm
      have HE := Lib.hid (Rv.errs _ hm)
      clear hm
      go_wp2_with fail
      refine (Rv.tell k x b s n it m ks _ _ HL.out HM.out).mono ?_
      rintro e w2 ⟨rfl, hb2⟩
      have hb3 := Vm.then hb1 hb2
      clear hb2 hb1 HL HM c0 c1 c2 c3 c4 c5
      have he := HE.out
      clear HE
      generalize hZ : (Vt.mk k x b s n it m ks).told = Z at *
      have HZ := Lib.hid hZ
      clear hZ
      obtain ⟨T, E⟩ := Z
      rcases he with e | ⟨e1, e2⟩
      · simp only at e
        subst e
        go_wp2
        go_ret2
        rw [HZ.out]
        exact ⟨rfl, hb3⟩
      · simp only at e1 e2
        subst e1 e2
        go_wp2
        go_ret2
        rw [HZ.out]
        exact ⟨rfl, hb3⟩
end Go.Proofs.YtggfemdnoccmeaaDoor

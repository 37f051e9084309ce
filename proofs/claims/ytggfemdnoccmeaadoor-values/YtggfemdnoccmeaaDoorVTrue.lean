/-
  THE WALKS of the program's value.True, Text, isNumber, rank.
-/
import Derived.Test.YtggfemdnoccmeaaDoorVMay
import Derived.Test.YtggfemdnoccmeaaDoorReText
namespace Go.Proofs.YtggfemdnoccmeaaDoor
open Go.RowKit

theorem Vt.Lies.alloc {w : World} {t : Vt} {v : Value} (h : t.Lies w (· < w.heap.size) v) (o : Obj) : t.Lies (w.alloc o) (· < (w.alloc o).heap.size) v :=
  h.on fun g hg => ⟨by simp; omega, Below.heap_alloc _ _ _ hg⟩
theorem Vt.Lies.on' {w w' : World} {t : Vt} {v : Value} (h : t.Lies w (· < w.heap.size) v) (hb : Below w.heap.size w w') : t.Lies w' (· < w'.heap.size) v :=
  h.on fun g hg => ⟨Nat.lt_of_lt_of_le hg hb.size, hb.block g hg⟩
theorem Vm.behind {w w1 : World} {o : Obj} (h : Below (w.alloc o).heap.size (w.alloc o) w1) : Below w.heap.size w w1 :=
  ((Below.refl _ _).alloc (Nat.le_refl _) o).trans (h.mono (by simp))
theorem Vm.behind2 {w w1 : World} {o o' : Obj} (h : Below ((w.alloc o).alloc o').heap.size ((w.alloc o).alloc o') w1) : Below w.heap.size w w1 := Vm.behind (Vm.behind h)
theorem Vm.then {w w1 w2 : World} (h : Below w.heap.size w w1) (g : Below w1.heap.size w1 w2) : Below w.heap.size w w2 := h.trans (g.mono h.size)
structure Vm.Box (w : World) (g : Nat) (v0 v1 v2 v3 v4 v5 : Value) : Prop where
  all : w.heap[g]? = some (.cells #[v0, v1, v2, v3, v4, v5] 26)
theorem Vm.Box.cells {w : World} {g : Nat} {v0 v1 v2 v3 v4 v5 : Value} (h : Vm.Box w g v0 v1 v2 v3 v4 v5) : w.cell? ⟨g, 0, none⟩ = some v0 ∧ w.cell? ⟨g, 1, none⟩ = some v1 ∧ w.cell? ⟨g, 2, none⟩ = some v2 ∧ w.cell? ⟨g, 3, none⟩ = some v3 ∧ w.cell? ⟨g, 4, none⟩ = some v4 ∧ w.cell? ⟨g, 5, none⟩ = some v5 :=
  ⟨Vm.boxCell h.all 0 rfl, Vm.boxCell h.all 1 rfl, Vm.boxCell h.all 2 rfl, Vm.boxCell h.all 3 rfl, Vm.boxCell h.all 4 rfl, Vm.boxCell h.all 5 rfl⟩
theorem Vm.Box.on {w w' : World} {g : Nat} {v0 v1 v2 v3 v4 v5 : Value} (h : Vm.Box w g v0 v1 v2 v3 v4 v5) (hg : g < w.heap.size) (hb : Below w.heap.size w w') : Vm.Box w' g v0 v1 v2 v3 v4 v5 := ⟨(hb.block g hg).trans h.all⟩
theorem Vm.box {w w1 : World} {v0 v1 v2 v3 v4 v5 : Value} (h : Below (w.alloc (.cells #[v0, v1, v2, v3, v4, v5] 26)).heap.size (w.alloc (.cells #[v0, v1, v2, v3, v4, v5] 26)) w1) : Vm.Box w1 w.heap.size v0 v1 v2 v3 v4 v5 := ⟨Vm.boxed h⟩

theorem Vt.formed_of {k x : Int} {b : Nat} {s : ByteArray} {n : Nat} {it : Nat → Vt} {m : Nat} {ks : Nat → ByteArray} (h : (Vt.mk k x b s n it m ks).may = true) : Vt.formed k x b s n m ks = true := by
  unfold Vt.may Vt.stand at h
  split at h
  · cases h
  · next hc =>
    cases e : Vt.formed k x b s n m ks with
    | true => rfl
    | false => exact absurd (.inr (.inr e)) hc

def Vt.truth : Vt → Bool
  | .nil => false
  | .mk k x b s n it m ks => (Vt.mk k x b s n it m ks).may && (if k = 1 ∨ k = 2 then !(x == 0) else if k = 3 then !((Re.kind b : Int) == 2) && !((Re.kind b : Int) == 0) else if k = 4 then !(s.toList == []) else decide (0 < n))

set_option maxRecDepth 100000 in
set_option maxHeartbeats 4000000 in
theorem Vm.truth (t : Vt) (v : Value) (w : World) (h : t.Lies w (· < w.heap.size) v) : Calls Tryd.prog 17 #[v] w fun e w' => e = .returned (.bool t.truth) ∧ Below w.heap.size w w' := by
  cases t with
  | nil => exact h.elim
  | mk k x b s n it m ks =>
    have H := Lib.hid h
    obtain ⟨ai, c, ak, d, rfl, hb, hn, hc, _, _⟩ := h
    have HT : Hid ((Vt.mk k x b s n it m ks).truth = ((Vt.mk k x b s n it m ks).may && (if k = 1 ∨ k = 2 then !(x == 0) else if k = 3 then !((Re.kind b : Int) == 2) && !((Re.kind b : Int) == 0) else if k = 4 then !(s.toList == []) else decide (0 < n)))) := rfl
    generalize hz : (Vt.mk k x b s n it m ks).truth = Z at *
    clear hz
    go_enter Tryd.func17, Tryd.ntmps17
    go_wp2_with fail
    refine (Vm.may (Vt.mk k x b s n it m ks) _ _ (H.out.alloc _)).mono ?_
    rintro e w1 ⟨rfl, hw⟩
    obtain ⟨c0, c1, c2, c3, c4, c5⟩ := (Vm.box hw).cells
    have hb1 := Vm.behind hw
    clear hw H
    generalize (Vt.mk k x b s n it m ks).may = M at *
    cases M with
    | false =>
      go_wp2
      go_ret
      rw [HT.out]
      exact ⟨rfl, hb1⟩
    | true =>
      by_cases k1 : k = 1
      · subst k1
        go_wp2
        go_ret
        rw [HT.out]
        exact ⟨rfl, hb1⟩
      by_cases k2 : k = 2
      · subst k2
        go_wp2
        go_ret
        rw [HT.out]
        exact ⟨rfl, hb1⟩
      by_cases k3 : k = 3
      · subst k3
        generalize hK : Re.kind b = K at *
        have HK := Lib.hid hK
        clear hK
        go_wp2_with fail
        refine (Rk.kind b hb _).mono ?_
        rintro e w2 ⟨rfl, rfl⟩
        rw [HK.out]
        by_cases e2 : K = 2
        · subst e2
          go_wp2
          go_ret
          rw [HT.out]
          exact ⟨rfl, hb1⟩
        · have d2 : ((K : Int) == 2) = false := beq_eq_false_iff_ne.2 (by omega)
          by_cases e0 : K = 0
          · subst e0
            clear d2 e2
            go_wp2
            go_ret
            rw [HT.out]
            exact ⟨rfl, hb1⟩
          · have d0 : ((K : Int) == 0) = false := beq_eq_false_iff_ne.2 (by omega)
            go_wp2
            go_ret
            rw [HT.out, d2, d0]
            refine ⟨?_, hb1⟩
            simp [e0]
            omega
      by_cases k4 : k = 4
      · subst k4
        go_wp2
        go_ret
        rw [HT.out]
        refine ⟨?_, hb1⟩
        simp
      have d1 : (k == 1) = false := beq_eq_false_iff_ne.2 k1
      have d2 : (k == 2) = false := beq_eq_false_iff_ne.2 k2
      have d3 : (k == 3) = false := beq_eq_false_iff_ne.2 k3
      have d4 : (k == 4) = false := beq_eq_false_iff_ne.2 k4
      have HE : Hid (Z = decide (0 < n)) := by
        have := HT.out
        rw [if_neg (by omega), if_neg k3, if_neg k4] at this
        exact this
      clear HT
      go_wp2
      go_ret
      rw [HE.out]
      refine ⟨?_, hb1⟩
      simp
/-- the text of a value, and its error's number -/
def Vt.told : Vt → ByteArray × Int
  | .nil => (⟨#[]⟩, 400)
  | .mk k x b s n it m ks => if (Vt.mk k x b s n it m ks).may then (if k = 0 then (⟨#[]⟩, 0) else if k = 1 then (if x = 1 then ⟨#[116, 114, 117, 101]⟩ else ⟨#[102, 97, 108, 115, 101]⟩, 0) else if k = 2 then (⟨(Lib.itoa x).toArray⟩, 0) else if k = 3 then (⟨(Re.text b).toArray⟩, 0) else if k = 4 then (s, 0) else (⟨#[]⟩, 402)) else (⟨#[]⟩, 400)

theorem Vm.bool (a : Bool) (w : World) : Calls Tryd.prog 23 #[.bool a] w fun e w' => e = .returned (.string (if a then ⟨#[116, 114, 117, 101]⟩ else ⟨#[102, 97, 108, 115, 101]⟩)) ∧ w' = w := by
  cases a
  all_goals go_enter Tryd.func23, Tryd.ntmps23
  all_goals go_wp2
  all_goals go_ret
  all_goals exact ⟨rfl, rfl⟩

set_option maxRecDepth 100000 in
set_option maxHeartbeats 4000000 in
theorem Vm.told (t : Vt) (v : Value) (w : World) (h : t.Lies w (· < w.heap.size) v) (ht : Re.Tabs w) : Calls Tryd.prog 6 #[v] w fun e w' => e = .returned (.tuple #[.string t.told.1, .int .i64 t.told.2]) ∧ Below w.heap.size w w' := by
  cases t with
  | nil => exact h.elim
  | mk k x b s n it m ks =>
    have H := Lib.hid h
    obtain ⟨ai, c, ak, d, rfl, hb, hn, hc, _, _⟩ := h
    have HF : Hid ((Vt.mk k x b s n it m ks).may = true → Vt.formed k x b s n m ks = true) := Vt.formed_of
    have HT : Hid ((Vt.mk k x b s n it m ks).told = if (Vt.mk k x b s n it m ks).may then (if k = 0 then (⟨#[]⟩, 0) else if k = 1 then (if x = 1 then ⟨#[116, 114, 117, 101]⟩ else ⟨#[102, 97, 108, 115, 101]⟩, 0) else if k = 2 then (⟨(Lib.itoa x).toArray⟩, 0) else if k = 3 then (⟨(Re.text b).toArray⟩, 0) else if k = 4 then (s, 0) else (⟨#[]⟩, 402)) else (⟨#[]⟩, 400)) := rfl
    generalize hz : (Vt.mk k x b s n it m ks).told = Z at *
    clear hz
    go_enter Tryd.func6, Tryd.ntmps6
    go_wp2_with fail
    refine (Vm.may (Vt.mk k x b s n it m ks) _ _ (H.out.alloc _)).mono ?_
    rintro e w1 ⟨rfl, hw⟩
    obtain ⟨c0, c1, c2, c3, c4, c5⟩ := (Vm.box hw).cells
    have hb1 := Vm.behind hw
    have ht1 := ht.on hb1
    clear hw H
    generalize (Vt.mk k x b s n it m ks).may = M at *
    cases M with
    | false =>
      go_wp2
      go_ret2
      rw [HT.out]
      exact ⟨rfl, hb1⟩
    | true =>
      have hf := HF.out rfl
      clear HF
      by_cases k0 : k = 0
      · subst k0
        clear hf
        go_wp2
        go_ret2
        rw [HT.out]
        exact ⟨rfl, hb1⟩
      by_cases k1 : k = 1
      · subst k1
        clear hf
        by_cases hx : x = 1
        · subst hx
          go_wp2_with fail
          refine (Vm.bool true _).mono ?_
          rintro e w2 ⟨rfl, rfl⟩
          go_wp2
          go_ret2
          rw [HT.out]
          exact ⟨rfl, hb1⟩
        · have d1 : (x == 1) = false := beq_eq_false_iff_ne.2 hx
          have HX := Lib.hid hx
          clear hx
          go_wp2_with fail
          refine (Vm.bool false _).mono ?_
          rintro e w2 ⟨rfl, rfl⟩
          go_wp2
          go_ret2
          rw [HT.out, if_neg HX.out]
          exact ⟨rfl, hb1⟩
      by_cases k2 : k = 2
      · subst k2
        have hr : -9007199254740991 ≤ x ∧ x ≤ 9007199254740991 := by
          simp [Vt.formed] at hf
          exact ⟨hf.1.1.1.1.1, hf.1.1.1.1.2⟩
        clear hf
        go_wp2_with fail
        refine (Rf.itoa x (by omega) (by omega) _ ht1).mono ?_
        rintro e w2 ⟨rfl, hb2⟩
        have hb3 := Vm.then hb1 hb2
        clear hb1 hb2 c0 c1 c2 c3 c4 c5
        go_wp2
        go_ret2
        rw [HT.out]
        exact ⟨rfl, hb3⟩
      by_cases k3 : k = 3
      · subst k3
        clear hf
        go_wp2_with fail
        refine (Rt.text b hb _ ht1).mono ?_
        rintro e w2 ⟨rfl, hb2⟩
        have hb3 := Vm.then hb1 hb2
        clear hb1 hb2 c0 c1 c2 c3 c4 c5
        go_wp2
        go_ret2
        rw [HT.out]
        exact ⟨rfl, hb3⟩
      by_cases k4 : k = 4
      · subst k4
        clear hf
        go_wp2
        go_ret2
        rw [HT.out]
        exact ⟨rfl, hb1⟩
      have d0 : (k == 0) = false := beq_eq_false_iff_ne.2 k0
      have d1 : (k == 1) = false := beq_eq_false_iff_ne.2 k1
      have d2 : (k == 2) = false := beq_eq_false_iff_ne.2 k2
      have d3 : (k == 3) = false := beq_eq_false_iff_ne.2 k3
      have d4 : (k == 4) = false := beq_eq_false_iff_ne.2 k4
      have HE : Hid (Z = (⟨#[]⟩, 402)) := by
        have := HT.out
        rw [if_pos rfl, if_neg k0, if_neg k1, if_neg k2, if_neg k3, if_neg k4] at this
        exact this
      clear HT hf
      go_wp2
      go_ret2
      rw [HE.out]
      exact ⟨rfl, hb1⟩
end Go.Proofs.YtggfemdnoccmeaaDoor

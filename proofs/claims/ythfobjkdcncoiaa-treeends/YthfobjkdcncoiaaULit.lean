/-
  TOKENS AND NODES THAT A TEXT LAYS DOWN, in memory: a literal's block is a row of them.
-/
import Derived.Test.YthfobjkdcncoiaaUCpt
import Derived.Test.YthfobjkdcncoiaaUNode
namespace Go.Proofs.Ythfobjkdcncoiaa
open Go.RowKit
/-- the cells of tokens, their attributes' slices given -/
def Tk.rows : List Tk → List Value → List Value
  | t :: ts, a :: avs => Rm.five t a ++ Tk.rows ts avs
  | _, _ => []
theorem Tk.rows_get : ∀ (ts : List Tk) (avs : List Value), avs.length = ts.length → ∀ (i : Nat) (t : Tk), ts[i]? = some t → ∃ av, avs[i]? = some av ∧ ∀ r, r < 5 → (Tk.rows ts avs)[i * 5 + r]? = (Rm.five t av)[r]? := by
  intro ts
  induction ts with
  | nil => intro avs _ i t h; simp at h
  | cons u ts ih =>
    intro avs hl i t h
    cases avs with
    | nil => simp at hl
    | cons a avs =>
      cases i with
      | zero =>
        simp only [List.getElem?_cons_zero, Option.some.injEq] at h
        subst h
        refine ⟨a, rfl, fun r hr => ?_⟩
        rw [Tk.rows, List.getElem?_append_left (by simp [Rm.five]; omega), Nat.zero_mul, Nat.zero_add]
      | succ i =>
        rw [List.getElem?_cons_succ] at h
        obtain ⟨av, h1, h2⟩ := ih avs (by simpa using hl) i t h
        refine ⟨av, h1, fun r hr => ?_⟩
        rw [Tk.rows, List.getElem?_append_right (by simp [Rm.five]; omega)]
        show (Tk.rows ts avs)[(i + 1) * 5 + r - 5]? = _
        rw [show (i + 1) * 5 + r - 5 = i * 5 + r by omega]
        exact h2 r hr
/-- each token's attributes lie where its slice says -/
def Tk.fits (w : World) (R : Nat → Prop) : List Tk → List Value → Prop
  | [], [] => True
  | t :: ts, a :: avs => Ak.Lies w R t.attrs a ∧ Tk.fits w R ts avs
  | _, _ => False
theorem Tk.fits_len {w : World} {R : Nat → Prop} : ∀ {ts : List Tk} {avs : List Value}, Tk.fits w R ts avs → avs.length = ts.length := by
  intro ts
  induction ts with
  | nil => intro avs h; cases avs with
    | nil => rfl
    | cons a avs => exact h.elim
  | cons t ts ih => intro avs h; cases avs with
    | nil => exact h.elim
    | cons a avs => simp [ih h.2]
theorem Tk.fits_get {w : World} {R : Nat → Prop} : ∀ {ts : List Tk} {avs : List Value}, Tk.fits w R ts avs → ∀ (i : Nat) (t : Tk) (av : Value), ts[i]? = some t → avs[i]? = some av → Ak.Lies w R t.attrs av := by
  intro ts
  induction ts with
  | nil => intro avs h i t av h1; simp at h1
  | cons u ts ih => intro avs h i t av h1 h2; cases avs with
    | nil => exact h.elim
    | cons a avs =>
      cases i with
      | zero =>
        simp only [List.getElem?_cons_zero, Option.some.injEq] at h1 h2
        subst h1 h2
        exact h.1
      | succ i =>
        rw [List.getElem?_cons_succ] at h1 h2
        exact ih h.2 i t av h1 h2
theorem Tk.Lies.lit {w : World} {g : Nat} {R : Nat → Prop} (ts : List Tk) (avs : List Value) (cs : Array Value) (hg : w.heap[g]? = some (.cells cs 41)) (hcs : cs.toList = Tk.rows ts avs) (hR : R g) (hm : ts.length ≤ maxLen)
    (ha : Tk.fits w R ts avs) : Tk.Lies w R ts (.slice (some ⟨g, 0, none⟩) ts.length ts.length) := by
  refine ⟨some ⟨g, 0, none⟩, ts.length, rfl, Nat.le_refl _, hm, fun i t hi => ?_⟩
  obtain ⟨av, h1, h2⟩ := Tk.rows_get ts avs (Tk.fits_len ha) i t hi
  have hc : ∀ r v, r < 5 → (Rm.five t av)[r]? = some v → w.cell? ⟨g, 0 + i * 5 + r, none⟩ = some v := fun r v hr hv => by
    unfold World.cell?
    rw [hg]
    show cs[0 + i * 5 + r]? = some v
    rw [← Array.getElem?_toList, hcs, Nat.zero_add, h2 r hr]
    exact hv
  exact ⟨g, 0, av, rfl, hR, hc 0 _ (by decide) rfl, hc 1 _ (by decide) rfl, hc 2 _ (by decide) rfl, hc 3 _ (by decide) rfl, hc 4 _ (by decide) rfl, Tk.fits_get ha i t av hi h1⟩
/-- the cells of nodes, their attributes' slices given -/
def Nd.rows : List Nd → List Value → List Value
  | t :: ts, a :: avs => Nd.five t a ++ Nd.rows ts avs
  | _, _ => []
theorem Nd.rows_get : ∀ (ts : List Nd) (avs : List Value), avs.length = ts.length → ∀ (i : Nat) (t : Nd), ts[i]? = some t → ∃ av, avs[i]? = some av ∧ ∀ r, r < 5 → (Nd.rows ts avs)[i * 5 + r]? = (Nd.five t av)[r]? := by
  intro ts
  induction ts with
  | nil => intro avs _ i t h; simp at h
  | cons u ts ih =>
    intro avs hl i t h
    cases avs with
    | nil => simp at hl
    | cons a avs =>
      cases i with
      | zero =>
        simp only [List.getElem?_cons_zero, Option.some.injEq] at h
        subst h
        refine ⟨a, rfl, fun r hr => ?_⟩
        rw [Nd.rows, List.getElem?_append_left (by simp [Nd.five]; omega), Nat.zero_mul, Nat.zero_add]
      | succ i =>
        rw [List.getElem?_cons_succ] at h
        obtain ⟨av, h1, h2⟩ := ih avs (by simpa using hl) i t h
        refine ⟨av, h1, fun r hr => ?_⟩
        rw [Nd.rows, List.getElem?_append_right (by simp [Nd.five]; omega)]
        show (Nd.rows ts avs)[(i + 1) * 5 + r - 5]? = _
        rw [show (i + 1) * 5 + r - 5 = i * 5 + r by omega]
        exact h2 r hr
/-- each node's attributes lie where its slice says -/
def Nd.fits (w : World) (R : Nat → Prop) : List Nd → List Value → Prop
  | [], [] => True
  | t :: ts, a :: avs => Ak.Lies w R t.attrs a ∧ Nd.fits w R ts avs
  | _, _ => False
theorem Nd.fits_len {w : World} {R : Nat → Prop} : ∀ {ts : List Nd} {avs : List Value}, Nd.fits w R ts avs → avs.length = ts.length := by
  intro ts
  induction ts with
  | nil => intro avs h; cases avs with
    | nil => rfl
    | cons a avs => exact h.elim
  | cons t ts ih => intro avs h; cases avs with
    | nil => exact h.elim
    | cons a avs => simp [ih h.2]
theorem Nd.fits_get {w : World} {R : Nat → Prop} : ∀ {ts : List Nd} {avs : List Value}, Nd.fits w R ts avs → ∀ (i : Nat) (t : Nd) (av : Value), ts[i]? = some t → avs[i]? = some av → Ak.Lies w R t.attrs av := by
  intro ts
  induction ts with
  | nil => intro avs h i t av h1; simp at h1
  | cons u ts ih => intro avs h i t av h1 h2; cases avs with
    | nil => exact h.elim
    | cons a avs =>
      cases i with
      | zero =>
        simp only [List.getElem?_cons_zero, Option.some.injEq] at h1 h2
        subst h1 h2
        exact h.1
      | succ i =>
        rw [List.getElem?_cons_succ] at h1 h2
        exact ih h.2 i t av h1 h2
theorem Nd.Lies.lit {w : World} {g : Nat} {R : Nat → Prop} (ts : List Nd) (avs : List Value) (cs : Array Value) (hg : w.heap[g]? = some (.cells cs 38)) (hcs : cs.toList = Nd.rows ts avs) (hR : R g) (hm : ts.length ≤ maxLen)
    (ha : Nd.fits w R ts avs) : Nd.Lies w R ts (.slice (some ⟨g, 0, none⟩) ts.length ts.length) := by
  refine ⟨some ⟨g, 0, none⟩, ts.length, rfl, Nat.le_refl _, hm, fun i t hi => ?_⟩
  obtain ⟨av, h1, h2⟩ := Nd.rows_get ts avs (Nd.fits_len ha) i t hi
  have hc : ∀ r v, r < 5 → (Nd.five t av)[r]? = some v → w.cell? ⟨g, 0 + i * 5 + r, none⟩ = some v := fun r v hr hv => by
    unfold World.cell?
    rw [hg]
    show cs[0 + i * 5 + r]? = some v
    rw [← Array.getElem?_toList, hcs, Nat.zero_add, h2 r hr]
    exact hv
  exact ⟨g, 0, av, rfl, hR, hc 0 _ (by decide) rfl, hc 1 _ (by decide) rfl, hc 2 _ (by decide) rfl, hc 3 _ (by decide) rfl, hc 4 _ (by decide) rfl, Nd.fits_get ha i t av hi h1⟩
theorem Ak.Lies.lit {w : World} {g : Nat} {R : Nat → Prop} (al : List (ByteArray × ByteArray)) (cs : Array Value) (hg : w.heap[g]? = some (.cells cs 48)) (hcs : cs.toList = Ak.cells al) (hR : R g) (hm : al.length ≤ maxLen) : Ak.Lies w R al (.slice (some ⟨g, 0, none⟩) al.length al.length) := by
  refine ⟨some ⟨g, 0, none⟩, al.length, rfl, Nat.le_refl _, hm, fun j x hj => ?_⟩
  obtain ⟨h1, h2⟩ := Ak.cells_get al j x hj
  have hc : ∀ r v, (Ak.cells al)[r]? = some v → w.cell? ⟨g, 0 + r, none⟩ = some v := fun r v hv => by
    unfold World.cell?
    rw [hg]
    show cs[0 + r]? = some v
    rw [← Array.getElem?_toList, hcs, Nat.zero_add]
    exact hv
  exact ⟨g, 0, rfl, hR, hc _ _ h1, hc _ _ h2⟩
end Go.Proofs.Ythfobjkdcncoiaa

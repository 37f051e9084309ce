/-
  stolelaw0.Num; data that were written down.
-/
import Derived.Test.YtjmobhohfcieoaaGData
namespace Go.Proofs.Ytjmobhohfcieoaa
open Go.RowKit
theorem Iw.num (x : Int) (w : World) : Calls Try.prog 10 #[.int .i64 x] w fun e w' => e = .returned (.int .i64 x) ∧ w' = w := by
  go_enter Try.func10, Try.ntmps10
  go_wp2
  go_ret
  exact ⟨rfl, rfl⟩
/-- cells that are these data -/
def Dt.fits (w : World) (R : Nat → Prop) : List Dt → List Value → Prop
  | [], [] => True
  | d :: ds, v :: vs => Dt.Lies w R d v ∧ Dt.fits w R ds vs
  | _, _ => False
theorem Dt.fits_get {w : World} {R : Nat → Prop} : ∀ (ds : List Dt) (vs : List Value), Dt.fits w R ds vs → ∀ (i : Nat) d, ds[i]? = some d → ∃ u, vs[i]? = some u ∧ Dt.Lies w R d u := by
  intro ds
  induction ds with
  | nil => intro vs _ i d h; simp at h
  | cons x ds ih =>
    intro vs hf i d h
    cases vs with
    | nil => exact hf.elim
    | cons v vs =>
      cases i with
      | zero =>
        simp only [List.getElem?_cons_zero, Option.some.injEq] at h
        subst h
        exact ⟨v, rfl, hf.1⟩
      | succ i =>
        rw [List.getElem?_cons_succ] at h ⊢
        exact ih vs hf.2 i d h
/-- a row that was written down, in a block -/
theorem Dt.lit {α : Type} {k : Nat} {f : α → List Dt} {w : World} {g : Nat} {cs : Array Value} {ty : TypeId} {R : Nat → Prop} (l : List α) (n : Nat) (h : Bs.Box w g cs ty) (hn : l.length = n) (hm : n ≤ 1000) (hR : R g) (hk : ∀ x, (f x).length = k) (hf : Dt.fits w R (l.flatMap f) cs.toList) : Dt.Lies w R (Dt.rows k f l) (.slice (some ⟨g, 0, none⟩) n n) := by
  subst hn
  unfold Dt.rows Dt.flat Dt.Lies
  refine ⟨_, _, rfl, Nat.le_refl _, by unfold maxLen; omega, fun i hi => ?_⟩
  have hd := List.getElem?_eq_getElem (l := l.flatMap f) (show i < (l.flatMap f).length by rw [Dt.flat_len hk]; exact hi)
  obtain ⟨u, h1, h2⟩ := Dt.fits_get _ _ hf i _ hd
  refine ⟨g, 0, u, rfl, hR, h.cell _ (by rw [Nat.zero_add, ← Array.getElem?_toList]; exact h1), ?_⟩
  simp only [List.getD_eq_getElem?_getD]
  rw [hd, Option.getD_some]
  exact h2
theorem Dt.i {w : World} {R : Nat → Prop} {k : IntKind} {x : Int} : Dt.Lies w R (.int k x) (.int k x) := by unfold Dt.Lies; rfl
theorem Dt.s {w : World} {R : Nat → Prop} {t : List UInt8} : Dt.Lies w R (.str t) (.string ⟨t.toArray⟩) := by unfold Dt.Lies; rfl
theorem Dt.n {w : World} {R : Nat → Prop} {α : Type} {k : Nat} {f : α → List Dt} : Dt.Lies w R (Dt.rows k f []) (.slice none 0 0) := Dt.Lies.nil _ _ _ _
/-- what lies below stays -/
theorem Dt.Lies.below {w w' : World} {B : Nat} {t : Dt} {v : Value} (h : Dt.Lies w (fun k => B ≤ k ∧ k < w.heap.size ∧ Rm.Ub w k) t v) (hb : Below w.heap.size w w') : Dt.Lies w' (fun k => B ≤ k ∧ k < w'.heap.size ∧ Rm.Ub w' k) t v :=
  h.on fun k hk => ⟨⟨hk.1, Nat.lt_of_lt_of_le hk.2.1 hb.size, hk.2.2.on (hb.block k hk.2.1)⟩, hb.block k hk.2.1⟩
theorem Iw.drewN {B : Nat} {a w : World} (h : Below B a w) (n : Nat) : Below B a (w.drewN n) := ⟨h.os, h.tape, h.output, h.size, h.block⟩
theorem Iw.b1 (w : World) (a : Obj) : Below w.heap.size w (w.alloc a) := (Below.refl _ _).alloc (Nat.le_refl _) a
theorem Iw.b2 (w : World) (a b : Obj) : Below w.heap.size w ((w.alloc a).alloc b) := (Iw.b1 w a).alloc (by simp) b
theorem Iw.b3 (w : World) (a b c : Obj) : Below w.heap.size w (((w.alloc a).alloc b).alloc c) := (Iw.b2 w a b).alloc (by simp; omega) c
theorem Iw.b4 (w : World) (a b c d : Obj) : Below w.heap.size w ((((w.alloc a).alloc b).alloc c).alloc d) := (Iw.b3 w a b c).alloc (by simp; omega) d
/-- texts that were written down -/
theorem Dt.tx {w : World} {R : Nat → Prop} {g : Nat} {cs : Array Value} {ty : TypeId} (ts : List (List UInt8)) (n : Nat) (h : Bs.Box w g cs ty) (hn : ts.length = n) (hm : n ≤ 1000) (hR : R g) (hc : cs.toList = ts.map fun t => .string ⟨t.toArray⟩) : Dt.Lies w R (Dt.texts ts) (.slice (some ⟨g, 0, none⟩) n n) := by
  refine Dt.lit ts n h hn hm hR (fun _ => rfl) ?_
  rw [hc]
  clear hc hn h
  induction ts with
  | nil => exact trivial
  | cons t ts ih => exact ⟨Dt.s, ih⟩
end Go.Proofs.Ytjmobhohfcieoaa

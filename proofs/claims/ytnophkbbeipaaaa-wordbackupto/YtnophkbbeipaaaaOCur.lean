/-
  THE REFERENCE's CURSOR IN MEMORY; the walks of its fail and name.
-/
import Derived.Test.YtnophkbbeipaaaaOPlain
import Derived.Test.YtnophkbbeipaaaaLRef1
import Derived.Deep.CutBlock
import Derived.Deep.QuietTactic
namespace Go.Proofs.Ytnophkbbeipaaaa
open Go.RowKit
/-- the cursor lies in block g -/
def Cu.At (w : World) (g : Nat) (s : ByteArray) (i : Nat) (e : Int) : Prop := Bs.Box w g #[.string s, .int .i64 (i : Int), .int .i64 e] 47
/-- all but block g is as it was -/
structure Cu.Kept (w w' : World) (g : Nat) : Prop where
  os : w'.os = w.os
  tape : w'.tape = w.tape
  output : w'.output = w.output
  size : w.heap.size ≤ w'.heap.size
  block : ∀ k, k < w.heap.size → k ≠ g → w'.heap[k]? = w.heap[k]?
theorem Cu.Kept.refl (w : World) (g : Nat) : Cu.Kept w w g := ⟨rfl, rfl, rfl, Nat.le_refl _, fun _ _ _ => rfl⟩
theorem Cu.Kept.trans {w w1 w2 : World} {g : Nat} (h : Cu.Kept w w1 g) (h2 : Cu.Kept w1 w2 g) : Cu.Kept w w2 g :=
  ⟨h2.os.trans h.os, h2.tape.trans h.tape, h2.output.trans h.output, Nat.le_trans h.size h2.size, fun k hk hg => (h2.block k (Nat.lt_of_lt_of_le hk h.size) hg).trans (h.block k hk hg)⟩
theorem Cu.Kept.set {w w1 : World} {g : Nat} (h : Cu.Kept w w1 g) (i : Nat) (v : Value) : Cu.Kept w (w1.setCell ⟨g, i, none⟩ v) g :=
  ⟨h.os, h.tape, h.output, by simp; exact h.size, fun k hk hg => (Below.heap_setCell _ _ _ _ hg).trans (h.block k hk hg)⟩
theorem Cu.Kept.drewN {w w1 : World} {g : Nat} (h : Cu.Kept w w1 g) (n : Nat) : Cu.Kept w (w1.drewN n) g := ⟨h.os, h.tape, h.output, h.size, h.block⟩
theorem Cu.Kept.then {w w1 w2 : World} {g : Nat} (h : Cu.Kept w w1 g) (hb : Below w1.heap.size w1 w2) : Cu.Kept w w2 g :=
  ⟨hb.os.trans h.os, hb.tape.trans h.tape, hb.output.trans h.output, Nat.le_trans h.size hb.size, fun k hk hg => (hb.block k (Nat.lt_of_lt_of_le hk h.size)).trans (h.block k hk hg)⟩
theorem Cu.Kept.alloc {w w1 : World} {g : Nat} (h : Cu.Kept w w1 g) (o : Obj) : Cu.Kept w (w1.alloc o) g := h.then ((Below.refl _ _).alloc (Nat.le_refl _) o)
theorem Cu.At.drewN {w : World} {g : Nat} {s : ByteArray} {i : Nat} {e : Int} (h : Cu.At w g s i e) (n : Nat) : Cu.At (w.drewN n) g s i e := h
theorem Cu.At.c0 {w : World} {g : Nat} {s : ByteArray} {i : Nat} {e : Int} (h : Cu.At w g s i e) : w.cell? ⟨g, 0, none⟩ = some (.string s) := Bs.Box.cell h 0 rfl
theorem Cu.At.c1 {w : World} {g : Nat} {s : ByteArray} {i : Nat} {e : Int} (h : Cu.At w g s i e) : w.cell? ⟨g, 1, none⟩ = some (.int .i64 (i : Int)) := Bs.Box.cell h 1 rfl
theorem Cu.At.c2 {w : World} {g : Nat} {s : ByteArray} {i : Nat} {e : Int} (h : Cu.At w g s i e) : w.cell? ⟨g, 2, none⟩ = some (.int .i64 e) := Bs.Box.cell h 2 rfl
theorem Cu.At.fz {w : World} {g : Nat} {s : ByteArray} {i : Nat} {e : Int} (h : Cu.At w g s i e) : ∀ q, w.frozen? ⟨g, q, none⟩ = false := fun q => Bs.Box.frozen h q
theorem Cu.At.set1 {w : World} {g : Nat} {s : ByteArray} {i : Nat} {e : Int} (h : Cu.At w g s i e) (j : Nat) : Cu.At (w.setCell ⟨g, 1, none⟩ (.int .i64 (j : Int))) g s j e := Bs.Box.set h 1 _
theorem Cu.At.set2 {w : World} {g : Nat} {s : ByteArray} {i : Nat} {e : Int} (h : Cu.At w g s i e) (x : Int) : Cu.At (w.setCell ⟨g, 2, none⟩ (.int .i64 x)) g s i x := Bs.Box.set h 2 _
theorem Cu.At.then {w w' : World} {g : Nat} {s : ByteArray} {i : Nat} {e : Int} (h : Cu.At w g s i e) (hb : Below w.heap.size w w') : Cu.At w' g s i e := Bs.Box.on h hb (Bs.Box.lt h)
/-- the first error -/
theorem Cu.fail (x : Int) (g : Nat) (s : ByteArray) (i : Nat) (w : World) (h : Cu.At w g s i 0) : Calls Try.prog 18 #[.pointer (some ⟨g, 0, none⟩), .int .i64 x] w fun e w' => e = .returned (.tuple #[]) ∧ Cu.At w' g s i x ∧ Cu.Kept w w' g := by
  have c2 := h.c2
  have f := h.fz
  have H := Lib.hid h
  clear h
  go_enter Try.func18, Try.ntmps18
  go_wp2
  go_end0
  exact ⟨rfl, H.out.set2 x, (Cu.Kept.refl _ _).set _ _⟩
/-- a later one -/
theorem Cu.fail2 (x y : Int) (hy : (y == 0) = false) (g : Nat) (s : ByteArray) (i : Nat) (w : World) (h : Cu.At w g s i y) : Calls Try.prog 18 #[.pointer (some ⟨g, 0, none⟩), .int .i64 x] w fun e w' => e = .returned (.tuple #[]) ∧ w' = w := by
  have c2 := h.c2
  clear h
  go_enter Try.func18, Try.ntmps18
  go_wp2
  go_end0
  exact ⟨rfl, rfl⟩
end Go.Proofs.Ytnophkbbeipaaaa

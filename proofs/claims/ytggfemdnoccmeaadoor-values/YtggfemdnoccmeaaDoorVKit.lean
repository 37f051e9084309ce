/-
  SMALL THINGS for the walks of the laws on values.
-/
import Derived.Test.YtggfemdnoccmeaaDoorVAwake
namespace Go.Proofs.YtggfemdnoccmeaaDoor
open Go.RowKit
theorem Bt.and53 (n : Int) : Go.bits .and .i64 n 9007199254740991 = n % 9007199254740992 := by
  have hm : (BitVec.ofInt 64 9007199254740991).toNat = 2 ^ 53 - 1 := by decide
  have key : (BitVec.ofInt 64 n &&& BitVec.ofInt 64 9007199254740991).toNat = (n % ((2 ^ 64 : Nat) : Int)).toNat % 2 ^ 53 := by
    rw [BitVec.toNat_and, BitVec.toNat_ofInt, hm, Nat.and_two_pow_sub_one_eq_mod]
  show IntKind.i64.wrap ((BitVec.ofInt 64 n &&& BitVec.ofInt 64 9007199254740991).toNat : Nat) = n % 9007199254740992
  rw [key, IntKind.wrap_i64]
  omega
structure Vm.Still (p : Prop) : Prop where
  out : p
/-- A PLACE AT WHICH THE WALK STANDS STILL: ahead of the operation that fills this slot -/
theorem Vm.stop (n : Nat) {P : Program} {ops : Array Oper} {Q : Exit → Act → World → Prop} {op : Op} {ty : TypeId} {pos : String} {after : Array Edge} {gd : Option (Nat × Bool)} {rest : List Oper} {a : Act} {w : World} (h : Vm.Still (wpList P ops Q ({ dst := some n, op := op, type := ty, pos := pos, after := after, guard := gd } :: rest) a w)) : wpList P ops Q ({ dst := some n, op := op, type := ty, pos := pos, after := after, guard := gd } :: rest) a w := h.out
theorem Vm.Box.alloc {w : World} {g : Nat} {v0 v1 v2 v3 v4 v5 : Value} (h : Vm.Box w g v0 v1 v2 v3 v4 v5) (hg : g < w.heap.size) (o : Obj) : Vm.Box (w.alloc o) g v0 v1 v2 v3 v4 v5 := ⟨(Below.heap_alloc _ _ _ hg).trans h.all⟩
theorem Vm.Box.other {w : World} {g : Nat} {v0 v1 v2 v3 v4 v5 : Value} (h : Vm.Box w g v0 v1 v2 v3 v4 v5) {g' : Nat} (hg : g ≠ g') (i : Nat) (v : Value) : Vm.Box (w.setCell ⟨g', i, none⟩ v) g v0 v1 v2 v3 v4 v5 := ⟨(Below.heap_setCell _ _ _ _ hg).trans h.all⟩
theorem Vm.new (W : World) (o : Obj) : (W.alloc o).heap[W.heap.size]? = some o := by
  show (W.heap.push _)[W.heap.size]? = _
  simp
/-- a block of memory -/
def Vm.Has (W : World) (g : Nat) (o : Obj) : Prop := W.heap[g]? = some o
theorem Vm.Has.lt {W : World} {g : Nat} {o : Obj} (h : Vm.Has W g o) : g < W.heap.size := (Array.getElem?_eq_some_iff.1 h).1
theorem Vm.Has.on {W W' : World} {g : Nat} {o : Obj} (h : Vm.Has W g o) (hb : Below W.heap.size W W') : Vm.Has W' g o := (hb.block g h.lt).trans h
theorem Vm.Has.alloc {W : World} {g : Nat} {o : Obj} (h : Vm.Has W g o) (o' : Obj) : Vm.Has (W.alloc o') g o := (Below.heap_alloc _ _ _ h.lt).trans h
theorem Vm.Has.other {W : World} {g : Nat} {o : Obj} (h : Vm.Has W g o) {g' : Nat} (hg : g ≠ g') (i : Nat) (v : Value) : Vm.Has (W.setCell ⟨g', i, none⟩ v) g o := (Below.heap_setCell _ _ _ _ hg).trans h
theorem Vm.Has.new (W : World) (o : Obj) (g : Nat) (hg : g = W.heap.size) : Vm.Has (W.alloc o) g o := by
  subst hg
  exact Vm.new W o
theorem Vm.Has.set {W : World} {g : Nat} {cs : Array Value} {ty : TypeId} (h : Vm.Has W g (.cells cs ty)) (i : Nat) (v : Value) : Vm.Has (W.setCell ⟨g, i, none⟩ v) g (.cells (cs.setIfInBounds i v) ty) := Vm.setAt h i v
theorem Vm.Has.cell {W : World} {g : Nat} {cs : Array Value} {ty : TypeId} (h : Vm.Has W g (.cells cs ty)) (i : Nat) {v : Value} (hv : cs[i]? = some v) : W.cell? ⟨g, i, none⟩ = some v := Vm.boxCell h i hv
theorem Vm.Has.frozen {W : World} {g : Nat} {cs : Array Value} {ty : TypeId} (h : Vm.Has W g (.cells cs ty)) (i : Nat) : W.frozen? ⟨g, i, none⟩ = false := Vc.row_frozen h i
theorem Vm.Box.has {W : World} {g : Nat} {v0 v1 v2 v3 v4 v5 : Value} (h : Vm.Box W g v0 v1 v2 v3 v4 v5) : Vm.Has W g (.cells #[v0, v1, v2, v3, v4, v5] 26) := h.all
theorem Vm.Box.lt {W : World} {g : Nat} {v0 v1 v2 v3 v4 v5 : Value} (h : Vm.Box W g v0 v1 v2 v3 v4 v5) : g < W.heap.size := h.has.lt
/-- an object of values is a row with all six cells of each -/
theorem Vm.Box.set0 {w : World} {g : Nat} {v0 v1 v2 v3 v4 v5 : Value} (h : Vm.Box w g v0 v1 v2 v3 v4 v5) (v : Value) : Vm.Box (w.setCell ⟨g, 0, none⟩ v) g v v1 v2 v3 v4 v5 := ⟨Vm.setAt h.all 0 v⟩
theorem Vm.Box.set1 {w : World} {g : Nat} {v0 v1 v2 v3 v4 v5 : Value} (h : Vm.Box w g v0 v1 v2 v3 v4 v5) (v : Value) : Vm.Box (w.setCell ⟨g, 1, none⟩ v) g v0 v v2 v3 v4 v5 := ⟨Vm.setAt h.all 1 v⟩
theorem Vm.Box.set2 {w : World} {g : Nat} {v0 v1 v2 v3 v4 v5 : Value} (h : Vm.Box w g v0 v1 v2 v3 v4 v5) (v : Value) : Vm.Box (w.setCell ⟨g, 2, none⟩ v) g v0 v1 v v3 v4 v5 := ⟨Vm.setAt h.all 2 v⟩
theorem Vm.Has.wrote {W W' : World} {g g' : Nat} {o : Obj} (h : Vm.Has W g o) (hw : Vm.Wrote g' W W') (hg : g ≠ g') : Vm.Has W' g o := (hw.block g hg).trans h
theorem Vm.Box.wrote {W W' : World} {g g' : Nat} {v0 v1 v2 v3 v4 v5 : Value} (h : Vm.Box W g v0 v1 v2 v3 v4 v5) (hw : Vm.Wrote g' W W') (hg : g ≠ g') : Vm.Box W' g v0 v1 v2 v3 v4 v5 := ⟨(hw.block g hg).trans h.all⟩
/-- ONE value in a row of its own -/
theorem Vt.one_lies {W : World} {t : Vt} {g : Nat} {v0 v1 v2 v3 v4 v5 : Value} (h : Vm.Has W g (.cells #[v0, v1, v2, v3, v4, v5] 26)) (hl : t.Lies W (· < W.heap.size) (.agg #[v0, v1, v2, v3, v4, v5])) : (Vt.mk 5 0 0 ⟨#[]⟩ 1 (fun _ => t) 0 (fun _ => ⟨#[]⟩)).Lies W (· < W.heap.size) (.agg #[.int .i64 5, .int .i64 0, .int .u64 0, .string ⟨#[]⟩, .slice (some ⟨g, 0, none⟩) 1 1, .slice none 0 0]) := by
  refine ⟨_, _, _, _, rfl, by decide, Nat.le_refl _, by decide, ⟨Nat.le_refl _, by decide, fun j hj => absurd hj (by omega)⟩, fun i hi => ?_⟩
  have : i = 0 := by omega
  subst this
  exact ⟨g, 0, _, _, _, _, _, _, rfl, h.lt, h.cell _ rfl, h.cell _ rfl, h.cell _ rfl, h.cell _ rfl, h.cell _ rfl, h.cell _ rfl, hl⟩
end Go.Proofs.YtggfemdnoccmeaaDoor

/-
  WHAT HAS BEEN COPIED LIES IN TWO VARIABLES, whatever the order in which they were made.
-/
import Derived.Test.YtggfemdnoccmeaaDoorVCopyV
namespace Go.Proofs.YtggfemdnoccmeaaDoor
open Go.RowKit

/-- behind the copying: x, y in variables, the path in a row of its own -/
def Vv.R (ta tb : Vt) (L : Nat) (p : Nat → ByteArray) (W0 : World) (s7 s8 s9 : Value) (wc : World) : Prop := ∃ (gX gY : Nat) (k3 x3 : Int) (b3 : Nat) (s3 : ByteArray) (ai3 : Option Addr) (n3 c3 : Nat) (ak3 : Option Addr) (m3 d3 : Nat) (k4 x4 : Int) (b4 : Nat) (s4 : ByteArray) (ai4 : Option Addr) (n4 c4 : Nat) (ak4 : Option Addr) (m4 d4 : Nat) (a5 : Option Addr) (d5 : Nat), s7 = .pointer (some ⟨gX, 0, none⟩) ∧ s8 = .pointer (some ⟨gY, 0, none⟩) ∧ s9 = .slice a5 L d5 ∧ Below W0.heap.size W0 wc ∧ Vm.Box wc gX (.int .i64 k3) (.int .i64 x3) (.int .u64 (b3 : Int)) (.string s3) (.slice ai3 n3 c3) (.slice ak3 m3 d3) ∧ Vm.Box wc gY (.int .i64 k4) (.int .i64 x4) (.int .u64 (b4 : Int)) (.string s4) (.slice ai4 n4 c4) (.slice ak4 m4 d4) ∧ (Vt.cut 40 ta).Lies wc (· < wc.heap.size) (.agg #[.int .i64 k3, .int .i64 x3, .int .u64 (b3 : Int), .string s3, .slice ai3 n3 c3, .slice ak3 m3 d3]) ∧ (Vt.cut 40 tb).Lies wc (· < wc.heap.size) (.agg #[.int .i64 k4, .int .i64 x4, .int .u64 (b4 : Int), .string s4, .slice ai4 n4 c4, .slice ak4 m4 d4]) ∧ Vt.Keys wc (· < wc.heap.size) L p a5 d5
/-- since w nothing has turned but two blocks -/
structure Vv.Two (gX gY : Nat) (w wc : World) : Prop where
  os : wc.os = w.os
  tape : wc.tape = w.tape
  output : wc.output = w.output
  size : w.heap.size ≤ wc.heap.size
  block : ∀ k, k < w.heap.size → k ≠ gX → k ≠ gY → wc.heap[k]? = w.heap[k]?
theorem Vv.Two.refl (gX gY : Nat) (w : World) : Vv.Two gX gY w w := ⟨rfl, rfl, rfl, Nat.le_refl _, fun _ _ _ _ => rfl⟩
theorem Vv.Two.alloc {gX gY : Nat} {w wc : World} (h : Vv.Two gX gY w wc) (o : Obj) : Vv.Two gX gY w (wc.alloc o) :=
  ⟨h.os, h.tape, h.output, by simp; have := h.size; omega, fun k hk h1 h2 => (Below.heap_alloc _ _ _ (Nat.lt_of_lt_of_le hk h.size)).trans (h.block k hk h1 h2)⟩
theorem Vv.Two.wx {gX gY : Nat} {w wc wd : World} (h : Vv.Two gX gY w wc) (g : Vm.Wrote gX wc wd) : Vv.Two gX gY w wd :=
  ⟨g.os.trans h.os, g.tape.trans h.tape, g.output.trans h.output, by rw [g.size]; exact h.size, fun k hk h1 h2 => (g.block k h1).trans (h.block k hk h1 h2)⟩
theorem Vv.Two.wy {gX gY : Nat} {w wc wd : World} (h : Vv.Two gX gY w wc) (g : Vm.Wrote gY wc wd) : Vv.Two gX gY w wd :=
  ⟨g.os.trans h.os, g.tape.trans h.tape, g.output.trans h.output, by rw [g.size]; exact h.size, fun k hk h1 h2 => (g.block k h2).trans (h.block k hk h1 h2)⟩
/-- the three copies, each in memory of its own -/
structure Vv.Made (ta tb : Vt) (L : Nat) (p : Nat → ByteArray) (W0 w3 w4 w5 : World) (l3 l4 l5 : Nat) (k3 x3 : Int) (b3 : Nat) (s3 : ByteArray) (ai3 : Option Addr) (n3 c3 : Nat) (ak3 : Option Addr) (m3 d3 : Nat) (k4 x4 : Int) (b4 : Nat) (s4 : ByteArray) (ai4 : Option Addr) (n4 c4 : Nat) (ak4 : Option Addr) (m4 d4 : Nat) (a5 : Option Addr) (d5 : Nat) : Prop where
  b03 : Below W0.heap.size W0 w3
  b34 : Below w3.heap.size w3 w4
  b45 : Below w4.heap.size w4 w5
  x : (Vt.cut 40 ta).Lies w3 (fun k => l3 ≤ k ∧ k < w3.heap.size) (.agg #[.int .i64 k3, .int .i64 x3, .int .u64 (b3 : Int), .string s3, .slice ai3 n3 c3, .slice ak3 m3 d3])
  y : (Vt.cut 40 tb).Lies w4 (fun k => l4 ≤ k ∧ k < w4.heap.size) (.agg #[.int .i64 k4, .int .i64 x4, .int .u64 (b4 : Int), .string s4, .slice ai4 n4 c4, .slice ak4 m4 d4])
  p : Vt.Keys w5 (fun k => l5 ≤ k ∧ k < w5.heap.size) L p a5 d5
theorem Vv.fin {ta tb : Vt} {L : Nat} {p : Nat → ByteArray} {W0 w3 w4 w5 : World} {l3 l4 l5 : Nat} {k3 x3 : Int} {b3 : Nat} {s3 : ByteArray} {ai3 : Option Addr} {n3 c3 : Nat} {ak3 : Option Addr} {m3 d3 : Nat} {k4 x4 : Int} {b4 : Nat} {s4 : ByteArray} {ai4 : Option Addr} {n4 c4 : Nat} {ak4 : Option Addr} {m4 d4 : Nat} {a5 : Option Addr} {d5 : Nat} (M : Vv.Made ta tb L p W0 w3 w4 w5 l3 l4 l5 k3 x3 b3 s3 ai3 n3 c3 ak3 m3 d3 k4 x4 b4 s4 ai4 n4 c4 ak4 m4 d4 a5 d5) {gX gY : Nat} {wc : World}
    (hX : W0.heap.size ≤ gX ∧ (gX < l3 ∨ w3.heap.size ≤ gX) ∧ (gX < l4 ∨ w4.heap.size ≤ gX) ∧ (gX < l5 ∨ w5.heap.size ≤ gX)) (hY : W0.heap.size ≤ gY ∧ (gY < l3 ∨ w3.heap.size ≤ gY) ∧ (gY < l4 ∨ w4.heap.size ≤ gY) ∧ (gY < l5 ∨ w5.heap.size ≤ gY))
    (T : Vv.Two gX gY w5 wc) (BX : Vm.Box wc gX (.int .i64 k3) (.int .i64 x3) (.int .u64 (b3 : Int)) (.string s3) (.slice ai3 n3 c3) (.slice ak3 m3 d3)) (BY : Vm.Box wc gY (.int .i64 k4) (.int .i64 x4) (.int .u64 (b4 : Int)) (.string s4) (.slice ai4 n4 c4) (.slice ak4 m4 d4)) :
    Vv.R ta tb L p W0 (.pointer (some ⟨gX, 0, none⟩)) (.pointer (some ⟨gY, 0, none⟩)) (.slice a5 L d5) wc := by
  have b05 := Vm.then (Vm.then M.b03 M.b34) M.b45
  have b35 := Vm.then M.b34 M.b45
  have z0 := b05.size
  have z3 := b35.size
  have z4 := M.b45.size
  have z5 := T.size
  refine ⟨gX, gY, k3, x3, b3, s3, ai3, n3, c3, ak3, m3, d3, k4, x4, b4, s4, ai4, n4, c4, ak4, m4, d4, a5, d5, rfl, rfl, rfl, ⟨T.os.trans b05.os, T.tape.trans b05.tape, T.output.trans b05.output, by omega, fun k hk => ?_⟩, BX, BY, M.x.on fun k hk => ⟨by omega, ?_⟩, M.y.on fun k hk => ⟨by omega, ?_⟩, M.p.on fun k hk => ⟨by omega, ?_⟩⟩
  · rw [T.block k (by omega) (by omega) (by omega)]
    exact b05.block k hk
  · rw [T.block k (by omega) (by omega) (by omega)]
    exact b35.block k hk.2
  · rw [T.block k (by omega) (by omega) (by omega)]
    exact M.b45.block k hk.2
  · exact T.block k hk.2 (by omega) (by omega)
theorem Vv.w6 (V : World) (g : Nat) (v0 v1 v2 v3 v4 v5 : Value) : Vm.Wrote g V ((((((V.setCell ⟨g, 0, none⟩ v0).setCell ⟨g, 1, none⟩ v1).setCell ⟨g, 2, none⟩ v2).setCell ⟨g, 3, none⟩ v3).setCell ⟨g, 4, none⟩ v4).setCell ⟨g, 5, none⟩ v5) := by
  have WR := Vm.set6 V g 0 v0 v1 v2 v3 v4 v5
  simp only [Nat.zero_add] at WR
  exact WR
/-- a variable written anew -/
theorem Vv.wx {V : World} {g : Nat} {u0 u1 u2 u3 u4 u5 : Value} (h : Vm.Box V g u0 u1 u2 u3 u4 u5) (v0 v1 v2 v3 v4 v5 : Value) : Vm.Box ((((((V.setCell ⟨g, 0, none⟩ v0).setCell ⟨g, 1, none⟩ v1).setCell ⟨g, 2, none⟩ v2).setCell ⟨g, 3, none⟩ v3).setCell ⟨g, 4, none⟩ v4).setCell ⟨g, 5, none⟩ v5) g v0 v1 v2 v3 v4 v5 ∧ Vm.Wrote g V ((((((V.setCell ⟨g, 0, none⟩ v0).setCell ⟨g, 1, none⟩ v1).setCell ⟨g, 2, none⟩ v2).setCell ⟨g, 3, none⟩ v3).setCell ⟨g, 4, none⟩ v4).setCell ⟨g, 5, none⟩ v5) := by
  have WR := Vm.set6 V g 0 v0 v1 v2 v3 v4 v5
  have BX := Vm.set6_row h.all 0 v0 v1 v2 v3 v4 v5
  simp only [Nat.zero_add] at WR BX
  exact ⟨⟨BX⟩, WR⟩
end Go.Proofs.YtggfemdnoccmeaaDoor

/-
  SMALL TREES, and the walks of the law's own num, text, bits, Num.
-/
import Derived.Test.YtggfemdnoccmeaaDoorVSame
import Derived.Test.YtggfemdnoccmeaaDoorVGet
namespace Go.Proofs.YtggfemdnoccmeaaDoor
open Go.RowKit

/-- a value without parts -/
def Vt.leaf (k x : Int) (b : Nat) (s : ByteArray) : Vt := .mk k x b s 0 (fun _ => .nil) 0 (fun _ => ⟨#[]⟩)
theorem Vt.leaf_lies (k x : Int) (b : Nat) (s : ByteArray) (hb : b < 18446744073709551616) (w : World) (R : Nat → Prop) : (Vt.leaf k x b s).Lies w R (.agg #[.int .i64 k, .int .i64 x, .int .u64 (b : Int), .string s, .slice none 0 0, .slice none 0 0]) :=
  ⟨none, 0, none, 0, rfl, hb, Nat.le_refl _, by decide, ⟨Nat.le_refl _, by decide, fun j hj => absurd hj (by omega)⟩, fun i hi => absurd hi (by omega)⟩
theorem Vt.leaf_may (k x : Int) (b : Nat) (s : ByteArray) : (Vt.leaf k x b s).may = Vt.formed k x b s 0 0 (fun _ => ⟨#[]⟩) := by
  unfold Vt.may Vt.leaf Vt.stand
  cases e : Vt.formed k x b s 0 0 (fun _ => ⟨#[]⟩) with
  | true => simp [Vt.run]
  | false => simp

theorem Vn.num (x : Int) (w : World) : Calls Tryd.prog 39 #[.int .i64 x] w fun e w' => e = .returned (.agg #[.int .i64 2, .int .i64 x, .int .u64 0, .string ⟨#[]⟩, .slice none 0 0, .slice none 0 0]) ∧ Below w.heap.size w w' := by
  go_enter Tryd.func39, Tryd.ntmps39
  go_wp2
  refine bodyPost_ret (v := .agg #[.int .i64 2, .int .i64 x, .int .u64 0, .string ⟨#[]⟩, .slice none 0 0, .slice none 0 0]) (by simp [results, Tryd.results39, go_sem]) rfl ?_
  exact ⟨rfl, (Below.refl _ _).alloc (Nat.le_refl _) _⟩
theorem Vn.text (s : ByteArray) (w : World) : Calls Tryd.prog 40 #[.string s] w fun e w' => e = .returned (.agg #[.int .i64 4, .int .i64 0, .int .u64 0, .string s, .slice none 0 0, .slice none 0 0]) ∧ Below w.heap.size w w' := by
  go_enter Tryd.func40, Tryd.ntmps40
  go_wp2
  refine bodyPost_ret (v := .agg #[.int .i64 4, .int .i64 0, .int .u64 0, .string s, .slice none 0 0, .slice none 0 0]) (by simp [results, Tryd.results40, go_sem]) rfl ?_
  exact ⟨rfl, (Below.refl _ _).alloc (Nat.le_refl _) _⟩
theorem Vn.bits (x : Int) (w : World) : Calls Tryd.prog 41 #[.int .u64 x] w fun e w' => e = .returned (.agg #[.int .i64 3, .int .i64 0, .int .u64 x, .string ⟨#[]⟩, .slice none 0 0, .slice none 0 0]) ∧ Below w.heap.size w w' := by
  go_enter Tryd.func41, Tryd.ntmps41
  go_wp2
  refine bodyPost_ret (v := .agg #[.int .i64 3, .int .i64 0, .int .u64 x, .string ⟨#[]⟩, .slice none 0 0, .slice none 0 0]) (by simp [results, Tryd.results41, go_sem]) rfl ?_
  exact ⟨rfl, (Below.refl _ _).alloc (Nat.le_refl _) _⟩
theorem Vn.errno (x : Int) (w : World) : Calls Tryd.prog 12 #[.int .i64 x] w fun e w' => e = .returned (.int .i64 x) ∧ w' = w := by
  go_enter Tryd.func12, Tryd.ntmps12
  go_wp2
  go_ret
  exact ⟨rfl, rfl⟩
end Go.Proofs.YtggfemdnoccmeaaDoor

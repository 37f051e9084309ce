/-
  SMALL TREES, and the walks of the law's own num, text, bits, Num.
-/
import Derived.Test.YtmiabkoodoekdaaDoorVSame
import Derived.Test.YtmiabkoodoekdaaDoorVGet
namespace Go.Proofs.YtmiabkoodoekdaaDoor
open Go.RowKit

/-- a value without parts -/
def Vt.leaf (k x : Int) (b : Nat) (s : ByteArray) : Vt := .mk k x b s 0 (fun _ => .nil) 0 (fun _ => ⟨#[]⟩)
theorem Vt.leaf_lies (k x : Int) (b : Nat) (s : ByteArray) (hb : b < 18446744073709551616) (w : World) (R : Nat → Prop) : (Vt.leaf k x b s).Lies w R (.agg #[.int .i64 k, .int .i64 x, .int .u64 (b : Int), .string s, .slice none 0 0, .slice none 0 0]) :=
  ⟨none, 0, none, 0, rfl, hb, Nat.le_refl _, by decide, ⟨Nat.le_refl _, by decide, fun j hj => absurd hj (by omega)⟩, fun i hi => absurd hi (by omega)⟩
theorem Vt.leaf_may (k x : Int) (b : Nat) (s : ByteArray) : (Vt.leaf k x b s).may = Vt.formed k x b s 0 0 (fun _ => ⟨#[]⟩) := by
  unfold Vt.may Vt.leaf Vt.stand
  cases e : Vt.formed k x b s 0 0 (fun _ => ⟨#[]⟩) with
  | true => simp [Vt.run]
  | false => simp

theorem Vn.num (x : Int) (w : World) : Calls Tryd.prog 30 #[.int .i64 x] w fun e w' => e = .returned (.agg #[.int .i64 2, .int .i64 x, .int .u64 0, .string ⟨#[]⟩, .slice none 0 0, .slice none 0 0]) ∧ Below w.heap.size w w' := by
  go_enter Tryd.func30, Tryd.ntmps30
  go_wp2
  refine bodyPost_ret (v := .agg #[.int .i64 2, .int .i64 x, .int .u64 0, .string ⟨#[]⟩, .slice none 0 0, .slice none 0 0]) (by simp [results, Tryd.results30, go_sem]) rfl ?_
  exact ⟨rfl, (Below.refl _ _).alloc (Nat.le_refl _) _⟩
theorem Vn.text (s : ByteArray) (w : World) : Calls Tryd.prog 31 #[.string s] w fun e w' => e = .returned (.agg #[.int .i64 4, .int .i64 0, .int .u64 0, .string s, .slice none 0 0, .slice none 0 0]) ∧ Below w.heap.size w w' := by
  go_enter Tryd.func31, Tryd.ntmps31
  go_wp2
  refine bodyPost_ret (v := .agg #[.int .i64 4, .int .i64 0, .int .u64 0, .string s, .slice none 0 0, .slice none 0 0]) (by simp [results, Tryd.results31, go_sem]) rfl ?_
  exact ⟨rfl, (Below.refl _ _).alloc (Nat.le_refl _) _⟩
theorem Vn.bits (x : Int) (w : World) : Calls Tryd.prog 28 #[.int .u64 x] w fun e w' => e = .returned (.agg #[.int .i64 3, .int .i64 0, .int .u64 x, .string ⟨#[]⟩, .slice none 0 0, .slice none 0 0]) ∧ Below w.heap.size w w' := by
  go_enter Tryd.func28, Tryd.ntmps28
  go_wp2
  refine bodyPost_ret (v := .agg #[.int .i64 3, .int .i64 0, .int .u64 x, .string ⟨#[]⟩, .slice none 0 0, .slice none 0 0]) (by simp [results, Tryd.results28, go_sem]) rfl ?_
  exact ⟨rfl, (Below.refl _ _).alloc (Nat.le_refl _) _⟩
theorem Vn.errno (x : Int) (w : World) : Calls Tryd.prog 17 #[.int .i64 x] w fun e w' => e = .returned (.int .i64 x) ∧ w' = w := by
  go_enter Tryd.func17, Tryd.ntmps17
  go_wp2
  go_ret
  exact ⟨rfl, rfl⟩
end Go.Proofs.YtmiabkoodoekdaaDoor

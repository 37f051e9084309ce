/-
  THE WALK of the program's value.isFormed, at each kind but a record.
-/
import Derived.Test.YtiajclmhimkpnaaDoorBVTreetoVKeys
namespace Go.Proofs.YtiajclmhimkpnaaDoor
open Go.RowKit

theorem Vm.m0 (m : Nat) : ((m : Int) == 0) = decide (m = 0) := by
  by_cases h : m = 0
  · subst h; rfl
  · rw [decide_eq_false h]; exact beq_eq_false_iff_ne.2 (by omega)
theorem Vm.m1 {p : Prop} [Decidable p] (m : Nat) (h : p) : ((m : Int) == 0) = (decide p && decide (m = 0)) := by
  rw [decide_eq_true h, Vm.m0]; rfl

set_option maxRecDepth 100000 in
set_option maxHeartbeats 4000000 in
theorem Vm.formed0 (x : Int) (b : Nat) (s : ByteArray) (ai : Option Addr) (n c : Nat) (m : Nat) (ks : Nat → ByteArray) (ak : Option Addr) (d : Nat) (w : World) :
    Calls Tryd.prog 46 #[.agg #[.int .i64 0, .int .i64 x, .int .u64 (b : Int), .string s, .slice ai n c, .slice ak m d]] w fun e w' => e = .returned (.bool (Vt.formed 0 x b s n m ks)) ∧ Below w.heap.size w w' := by
  go_enter Tryd.func46, Tryd.ntmps46
  go_wp2
  all_goals go_ret
  all_goals refine ⟨?_, (by repeat (first | exact Below.refl _ _ | refine Below.setCell ?_ (by simp) _ | refine Below.alloc ?_ (by simp) _))⟩
  all_goals simp_all [Vt.formed]
  all_goals exact Vm.m0 m

set_option maxRecDepth 100000 in
set_option maxHeartbeats 4000000 in
theorem Vm.formed1 (x : Int) (b : Nat) (s : ByteArray) (ai : Option Addr) (n c : Nat) (m : Nat) (ks : Nat → ByteArray) (ak : Option Addr) (d : Nat) (w : World) :
    Calls Tryd.prog 46 #[.agg #[.int .i64 1, .int .i64 x, .int .u64 (b : Int), .string s, .slice ai n c, .slice ak m d]] w fun e w' => e = .returned (.bool (Vt.formed 1 x b s n m ks)) ∧ Below w.heap.size w w' := by
  go_enter Tryd.func46, Tryd.ntmps46
  go_wp2
  all_goals go_ret
  all_goals refine ⟨?_, (by repeat (first | exact Below.refl _ _ | refine Below.setCell ?_ (by simp) _ | refine Below.alloc ?_ (by simp) _))⟩
  all_goals simp_all [Vt.formed]
  all_goals exact Vm.m0 m

set_option maxRecDepth 100000 in
set_option maxHeartbeats 4000000 in
theorem Vm.formed2 (x : Int) (b : Nat) (s : ByteArray) (ai : Option Addr) (n c : Nat) (m : Nat) (ks : Nat → ByteArray) (ak : Option Addr) (d : Nat) (w : World) :
    Calls Tryd.prog 46 #[.agg #[.int .i64 2, .int .i64 x, .int .u64 (b : Int), .string s, .slice ai n c, .slice ak m d]] w fun e w' => e = .returned (.bool (Vt.formed 2 x b s n m ks)) ∧ Below w.heap.size w w' := by
  go_enter Tryd.func46, Tryd.ntmps46
  go_wp2
  all_goals go_ret
  all_goals refine ⟨?_, (by repeat (first | exact Below.refl _ _ | refine Below.setCell ?_ (by simp) _ | refine Below.alloc ?_ (by simp) _))⟩
  all_goals simp_all [Vt.formed]
  all_goals first | exact Vm.m0 m | (intros; omega)

set_option maxRecDepth 100000 in
set_option maxHeartbeats 4000000 in
theorem Vm.formed3 (x : Int) (b : Nat) (s : ByteArray) (ai : Option Addr) (n c : Nat) (m : Nat) (ks : Nat → ByteArray) (ak : Option Addr) (d : Nat) (w : World) :
    Calls Tryd.prog 46 #[.agg #[.int .i64 3, .int .i64 x, .int .u64 (b : Int), .string s, .slice ai n c, .slice ak m d]] w fun e w' => e = .returned (.bool (Vt.formed 3 x b s n m ks)) ∧ Below w.heap.size w w' := by
  go_enter Tryd.func46, Tryd.ntmps46
  go_wp2
  all_goals go_ret
  all_goals refine ⟨?_, (by repeat (first | exact Below.refl _ _ | refine Below.setCell ?_ (by simp) _ | refine Below.alloc ?_ (by simp) _))⟩
  all_goals simp_all [Vt.formed]
  all_goals exact Vm.m0 m

set_option maxRecDepth 100000 in
set_option maxHeartbeats 4000000 in
theorem Vm.formed4 (x : Int) (b : Nat) (s : ByteArray) (ai : Option Addr) (n c : Nat) (m : Nat) (ks : Nat → ByteArray) (ak : Option Addr) (d : Nat) (w : World) :
    Calls Tryd.prog 46 #[.agg #[.int .i64 4, .int .i64 x, .int .u64 (b : Int), .string s, .slice ai n c, .slice ak m d]] w fun e w' => e = .returned (.bool (Vt.formed 4 x b s n m ks)) ∧ Below w.heap.size w w' := by
  go_enter Tryd.func46, Tryd.ntmps46
  go_wp2
  all_goals go_ret
  all_goals refine ⟨?_, (by repeat (first | exact Below.refl _ _ | refine Below.setCell ?_ (by simp) _ | refine Below.alloc ?_ (by simp) _))⟩
  all_goals simp_all [Vt.formed]
  all_goals first | exact Vm.m1 m (by omega) | (intros; omega)

set_option maxRecDepth 100000 in
set_option maxHeartbeats 4000000 in
theorem Vm.formed5 (x : Int) (b : Nat) (s : ByteArray) (ai : Option Addr) (n c : Nat) (m : Nat) (ks : Nat → ByteArray) (ak : Option Addr) (d : Nat) (w : World) :
    Calls Tryd.prog 46 #[.agg #[.int .i64 5, .int .i64 x, .int .u64 (b : Int), .string s, .slice ai n c, .slice ak m d]] w fun e w' => e = .returned (.bool (Vt.formed 5 x b s n m ks)) ∧ Below w.heap.size w w' := by
  go_enter Tryd.func46, Tryd.ntmps46
  go_wp2
  all_goals go_ret
  all_goals refine ⟨?_, (by repeat (first | exact Below.refl _ _ | refine Below.setCell ?_ (by simp) _ | refine Below.alloc ?_ (by simp) _))⟩
  all_goals simp_all [Vt.formed]
  all_goals first | exact Vm.m1 m (by omega) | (intros; omega)

set_option maxRecDepth 100000 in
set_option maxHeartbeats 4000000 in
theorem Vm.formedN (k : Int) (k0 : ¬ k = 0) (k1 : ¬ k = 1) (k2 : ¬ k = 2) (k3 : ¬ k = 3) (k4 : ¬ k = 4) (k5 : ¬ k = 5) (k6 : ¬ k = 6) (x : Int) (b : Nat) (s : ByteArray) (ai : Option Addr) (n c : Nat) (m : Nat) (ks : Nat → ByteArray) (ak : Option Addr) (d : Nat) (w : World) :
    Calls Tryd.prog 46 #[.agg #[.int .i64 k, .int .i64 x, .int .u64 (b : Int), .string s, .slice ai n c, .slice ak m d]] w fun e w' => e = .returned (.bool (Vt.formed k x b s n m ks)) ∧ Below w.heap.size w w' := by
  go_enter Tryd.func46, Tryd.ntmps46
  go_wp2
  all_goals go_ret
  all_goals refine ⟨?_, (by repeat (first | exact Below.refl _ _ | refine Below.setCell ?_ (by simp) _ | refine Below.alloc ?_ (by simp) _))⟩
  all_goals simp_all [Vt.formed]
end Go.Proofs.YtiajclmhimkpnaaDoor

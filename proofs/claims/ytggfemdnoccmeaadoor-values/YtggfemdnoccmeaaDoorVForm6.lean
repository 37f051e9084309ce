/-
  THE WALK of the program's value.isFormed at a record; at whatever value.
-/
import Derived.Test.YtggfemdnoccmeaaDoorVForm
namespace Go.Proofs.YtggfemdnoccmeaaDoor
open Go.RowKit

set_option maxRecDepth 100000 in
set_option maxHeartbeats 4000000 in
theorem Vm.formed6 (x : Int) (b : Nat) (s : ByteArray) (ai : Option Addr) (n c : Nat) (m : Nat) (ks : Nat → ByteArray) (ak : Option Addr) (d : Nat) (R : Nat → Prop) (w : World) (hR : ∀ g, R g → g < w.heap.size) (h : Vt.Keys w R m ks ak d) :
    Calls Tryd.prog 53 #[.agg #[.int .i64 6, .int .i64 x, .int .u64 (b : Int), .string s, .slice ai n c, .slice ak m d]] w fun e w' => e = .returned (.bool (Vt.formed 6 x b s n m ks)) ∧ Below w.heap.size w w' := by
  by_cases hn : n ≤ 64
  · have hn' : decide ((n : Int) ≤ 64) = true := decide_eq_true (by omega)
    by_cases hmn : m = n
    · have hmn' : ((m : Int) == (n : Int)) = true := beq_iff_eq.2 (by omega)
      have HM := Lib.hid hmn
      clear hmn
      generalize hK : Vt.keysOk ks m = K
      have HK := Lib.hid hK
      clear hK
      go_enter Tryd.func53, Tryd.ntmps53
      go_wp2_with fail
      refine (Vm.keys m ks ak d (fun g => g < w.heap.size) _ (h.on fun g hg => ⟨hR g hg, Below.heap_alloc _ _ _ (hR g hg)⟩)).mono ?_
      rintro e w' ⟨rfl, rfl⟩
      rw [HK.out]
      clear h hR
      cases K
      all_goals go_wp2
      all_goals go_ret
      all_goals refine ⟨?_, (by repeat (first | exact Below.refl _ _ | refine Below.setCell ?_ (by simp) _ | refine Below.alloc ?_ (by simp) _))⟩
      all_goals have hk := HK.out
      all_goals have hm := HM.out
      all_goals subst hm
      all_goals simp_all [Vt.formed]
    · have hmn' : ((m : Int) == (n : Int)) = false := beq_eq_false_iff_ne.2 (by omega)
      go_enter Tryd.func53, Tryd.ntmps53
      go_wp2
      go_ret
      refine ⟨?_, (by repeat (first | exact Below.refl _ _ | refine Below.setCell ?_ (by simp) _ | refine Below.alloc ?_ (by simp) _))⟩
      simp_all [Vt.formed]
  · have hn' : decide ((n : Int) ≤ 64) = false := decide_eq_false (by omega)
    go_enter Tryd.func53, Tryd.ntmps53
    go_wp2
    go_ret
    refine ⟨?_, (by repeat (first | exact Below.refl _ _ | refine Below.setCell ?_ (by simp) _ | refine Below.alloc ?_ (by simp) _))⟩
    simp_all [Vt.formed]
    intros
    omega

theorem Vm.formed (k x : Int) (b : Nat) (s : ByteArray) (ai : Option Addr) (n c : Nat) (m : Nat) (ks : Nat → ByteArray) (ak : Option Addr) (d : Nat) (R : Nat → Prop) (w : World) (hR : ∀ g, R g → g < w.heap.size) (h : Vt.Keys w R m ks ak d) :
    Calls Tryd.prog 53 #[.agg #[.int .i64 k, .int .i64 x, .int .u64 (b : Int), .string s, .slice ai n c, .slice ak m d]] w fun e w' => e = .returned (.bool (Vt.formed k x b s n m ks)) ∧ Below w.heap.size w w' := by
  by_cases k0 : k = 0
  · subst k0; exact Vm.formed0 x b s ai n c m ks ak d w
  by_cases k1 : k = 1
  · subst k1; exact Vm.formed1 x b s ai n c m ks ak d w
  by_cases k2 : k = 2
  · subst k2; exact Vm.formed2 x b s ai n c m ks ak d w
  by_cases k3 : k = 3
  · subst k3; exact Vm.formed3 x b s ai n c m ks ak d w
  by_cases k4 : k = 4
  · subst k4; exact Vm.formed4 x b s ai n c m ks ak d w
  by_cases k5 : k = 5
  · subst k5; exact Vm.formed5 x b s ai n c m ks ak d w
  by_cases k6 : k = 6
  · subst k6; exact Vm.formed6 x b s ai n c m ks ak d R w hR h
  exact Vm.formedN k k0 k1 k2 k3 k4 k5 k6 x b s ai n c m ks ak d w
end Go.Proofs.YtggfemdnoccmeaaDoor

/-
  THE WALKS of the reference's shape, count, ValueMay.
-/
import Derived.Test.YtggfemdnoccmeaaDoorVShape
import Derived.Lib.Strings
import Derived.BigQuiet
namespace Go.Proofs.YtggfemdnoccmeaaDoor
open Go.RowKit


set_option maxRecDepth 100000 in
set_option maxHeartbeats 4000000 in
theorem Rv.shape1 (x : Int) (b : Nat) (s : ByteArray) (ai : Option Addr) (n c : Nat) (m : Nat) (ks : Nat → ByteArray) (ak : Option Addr) (d : Nat) (w : World) :
    Calls Tryd.prog 54 #[.agg #[.int .i64 1, .int .i64 x, .int .u64 (b : Int), .string s, .slice ai n c, .slice ak m d]] w fun e w' => e = .returned (.bool (Vt.formed 1 x b s n m ks)) ∧ Below w.heap.size w w' := by
  by_cases hb : ¬ (b = 0)
  · have hb' : ((b : Int) == 0) = false := beq_eq_false_iff_ne.2 (by omega)
    go_enter Tryd.func54, Tryd.ntmps54
    go_wp2
    all_goals go_ret
    all_goals refine ⟨?_, (by repeat (first | exact Below.refl _ _ | refine Below.alloc ?_ (by simp) _))⟩
    all_goals simp_all [Vt.formed]
    all_goals first | done | omega | (intros; omega)
  replace hb := Decidable.not_not.1 hb
  subst hb
  by_cases hs : ¬ (s.toList = [])
  · have hs' : (s.toList == []) = false := beq_eq_false_iff_ne.2 hs
    go_enter Tryd.func54, Tryd.ntmps54
    go_wp2
    all_goals go_ret
    all_goals refine ⟨?_, (by repeat (first | exact Below.refl _ _ | refine Below.alloc ?_ (by simp) _))⟩
    all_goals simp_all [Vt.formed]
    all_goals first | done | omega | (intros; omega)
  replace hs := Decidable.not_not.1 hs
  have hs0 : s.size = 0 := by have := congrArg List.length hs; rw [Lib.toList_data] at this; simpa using this
  have hs' : (s.toList == []) = true := beq_iff_eq.2 hs
  by_cases hn : ¬ (n = 0)
  · have hn' : decide (0 < (n : Int)) = true := decide_eq_true (by omega)
    go_enter Tryd.func54, Tryd.ntmps54
    go_wp2
    all_goals go_ret
    all_goals refine ⟨?_, (by repeat (first | exact Below.refl _ _ | refine Below.alloc ?_ (by simp) _))⟩
    all_goals simp_all [Vt.formed]
    all_goals first | done | omega | (intros; omega)
  replace hn := Decidable.not_not.1 hn
  subst hn
  by_cases hm : ¬ (m = 0)
  · have hm' : decide (0 < (m : Int)) = true := decide_eq_true (by omega)
    go_enter Tryd.func54, Tryd.ntmps54
    go_wp2
    all_goals go_ret
    all_goals refine ⟨?_, (by repeat (first | exact Below.refl _ _ | refine Below.alloc ?_ (by simp) _))⟩
    all_goals simp_all [Vt.formed]
    all_goals first | done | omega | (intros; omega)
  replace hm := Decidable.not_not.1 hm
  subst hm
  by_cases x0 : x = 0
  · subst x0
    go_enter Tryd.func54, Tryd.ntmps54
    go_wp2
    all_goals go_ret
    all_goals refine ⟨?_, (by repeat (first | exact Below.refl _ _ | refine Below.alloc ?_ (by simp) _))⟩
    all_goals simp_all [Vt.formed]
    all_goals first | done | omega | (intros; omega)
  by_cases x1 : x = 1
  · subst x1
    go_enter Tryd.func54, Tryd.ntmps54
    go_wp2
    all_goals go_ret
    all_goals refine ⟨?_, (by repeat (first | exact Below.refl _ _ | refine Below.alloc ?_ (by simp) _))⟩
    all_goals simp_all [Vt.formed]
    all_goals first | done | omega | (intros; omega)
  have d0 : (x == 0) = false := beq_eq_false_iff_ne.2 x0
  have d1 : (x == 1) = false := beq_eq_false_iff_ne.2 x1
  go_enter Tryd.func54, Tryd.ntmps54
  go_wp2
  all_goals go_ret
  all_goals refine ⟨?_, (by repeat (first | exact Below.refl _ _ | refine Below.alloc ?_ (by simp) _))⟩
  all_goals simp_all [Vt.formed]
  all_goals first | done | omega | (intros; omega)

set_option maxRecDepth 100000 in
set_option maxHeartbeats 4000000 in
theorem Rv.shape2 (x : Int) (b : Nat) (s : ByteArray) (ai : Option Addr) (n c : Nat) (m : Nat) (ks : Nat → ByteArray) (ak : Option Addr) (d : Nat) (w : World) :
    Calls Tryd.prog 54 #[.agg #[.int .i64 2, .int .i64 x, .int .u64 (b : Int), .string s, .slice ai n c, .slice ak m d]] w fun e w' => e = .returned (.bool (Vt.formed 2 x b s n m ks)) ∧ Below w.heap.size w w' := by
  by_cases hb : ¬ (b = 0)
  · have hb' : ((b : Int) == 0) = false := beq_eq_false_iff_ne.2 (by omega)
    go_enter Tryd.func54, Tryd.ntmps54
    go_wp2
    all_goals go_ret
    all_goals refine ⟨?_, (by repeat (first | exact Below.refl _ _ | refine Below.alloc ?_ (by simp) _))⟩
    all_goals simp_all [Vt.formed]
    all_goals first | done | omega | (intros; omega)
  replace hb := Decidable.not_not.1 hb
  subst hb
  by_cases hs : ¬ (s.toList = [])
  · have hs' : (s.toList == []) = false := beq_eq_false_iff_ne.2 hs
    go_enter Tryd.func54, Tryd.ntmps54
    go_wp2
    all_goals go_ret
    all_goals refine ⟨?_, (by repeat (first | exact Below.refl _ _ | refine Below.alloc ?_ (by simp) _))⟩
    all_goals simp_all [Vt.formed]
    all_goals first | done | omega | (intros; omega)
  replace hs := Decidable.not_not.1 hs
  have hs0 : s.size = 0 := by have := congrArg List.length hs; rw [Lib.toList_data] at this; simpa using this
  have hs' : (s.toList == []) = true := beq_iff_eq.2 hs
  by_cases hn : ¬ (n = 0)
  · have hn' : decide (0 < (n : Int)) = true := decide_eq_true (by omega)
    go_enter Tryd.func54, Tryd.ntmps54
    go_wp2
    all_goals go_ret
    all_goals refine ⟨?_, (by repeat (first | exact Below.refl _ _ | refine Below.alloc ?_ (by simp) _))⟩
    all_goals simp_all [Vt.formed]
    all_goals first | done | omega | (intros; omega)
  replace hn := Decidable.not_not.1 hn
  subst hn
  by_cases hm : ¬ (m = 0)
  · have hm' : decide (0 < (m : Int)) = true := decide_eq_true (by omega)
    go_enter Tryd.func54, Tryd.ntmps54
    go_wp2
    all_goals go_ret
    all_goals refine ⟨?_, (by repeat (first | exact Below.refl _ _ | refine Below.alloc ?_ (by simp) _))⟩
    all_goals simp_all [Vt.formed]
    all_goals first | done | omega | (intros; omega)
  replace hm := Decidable.not_not.1 hm
  subst hm
  by_cases x0 : -9007199254740991 ≤ x
  · have d0 : decide (-9007199254740991 ≤ x) = true := decide_eq_true x0
    by_cases x1 : x ≤ 9007199254740991
    · have d1 : decide (x ≤ 9007199254740991) = true := decide_eq_true x1
      go_enter Tryd.func54, Tryd.ntmps54
      go_wp2
      all_goals go_ret
      all_goals refine ⟨?_, (by repeat (first | exact Below.refl _ _ | refine Below.alloc ?_ (by simp) _))⟩
      all_goals simp_all [Vt.formed]
      all_goals first | done | omega | (intros; omega)
    · have d1 : decide (x ≤ 9007199254740991) = false := decide_eq_false x1
      go_enter Tryd.func54, Tryd.ntmps54
      go_wp2
      all_goals go_ret
      all_goals refine ⟨?_, (by repeat (first | exact Below.refl _ _ | refine Below.alloc ?_ (by simp) _))⟩
      all_goals simp_all [Vt.formed]
      all_goals first | done | omega | (intros; omega)
  · have d0 : decide (-9007199254740991 ≤ x) = false := decide_eq_false x0
    go_enter Tryd.func54, Tryd.ntmps54
    go_wp2
    all_goals go_ret
    all_goals refine ⟨?_, (by repeat (first | exact Below.refl _ _ | refine Below.alloc ?_ (by simp) _))⟩
    all_goals simp_all [Vt.formed]
    all_goals first | done | omega | (intros; omega)

set_option maxRecDepth 100000 in
set_option maxHeartbeats 4000000 in
theorem Rv.shapeN (k : Int) (hk : k < 0 ∨ 6 < k) (x : Int) (b : Nat) (s : ByteArray) (ai : Option Addr) (n c : Nat) (m : Nat) (ks : Nat → ByteArray) (ak : Option Addr) (d : Nat) (w : World) :
    Calls Tryd.prog 54 #[.agg #[.int .i64 k, .int .i64 x, .int .u64 (b : Int), .string s, .slice ai n c, .slice ak m d]] w fun e w' => e = .returned (.bool (Vt.formed k x b s n m ks)) ∧ Below w.heap.size w w' := by
  have k0 : ¬ k = 0 := by omega
  have k1 : ¬ k = 1 := by omega
  have k2 : ¬ k = 2 := by omega
  have k3 : ¬ k = 3 := by omega
  have k4 : ¬ k = 4 := by omega
  have k5 : ¬ k = 5 := by omega
  have k6 : ¬ k = 6 := by omega
  have d5 : (k == 5) = false := beq_eq_false_iff_ne.2 k5
  have d6 : (k == 6) = false := beq_eq_false_iff_ne.2 k6
  by_cases hn : k < 0
  · have hn' : decide (k < 0) = true := decide_eq_true hn
    clear hk k0 k1 k2 k3 k4
    go_enter Tryd.func54, Tryd.ntmps54
    go_wp2
    go_ret
    refine ⟨?_, (by repeat (first | exact Below.refl _ _ | refine Below.alloc ?_ (by simp) _))⟩
    unfold Vt.formed
    rw [if_neg (by omega), if_neg (by omega), if_neg (by omega), if_neg (by omega), if_neg (by omega), if_neg (by omega), if_neg (by omega)]
    rfl
  · have hn' : decide (k < 0) = false := decide_eq_false hn
    have hp : 6 < k := by omega
    have hp' : decide (6 < k) = true := decide_eq_true hp
    clear hk k0 k1 k2 k3 k4
    go_enter Tryd.func54, Tryd.ntmps54
    go_wp2
    go_ret
    refine ⟨?_, (by repeat (first | exact Below.refl _ _ | refine Below.alloc ?_ (by simp) _))⟩
    unfold Vt.formed
    rw [if_neg (by omega), if_neg (by omega), if_neg (by omega), if_neg (by omega), if_neg (by omega), if_neg (by omega), if_neg (by omega)]
    rfl
end Go.Proofs.YtggfemdnoccmeaaDoor

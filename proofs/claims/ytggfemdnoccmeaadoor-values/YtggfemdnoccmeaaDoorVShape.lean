/-
  THE WALKS of the reference's shape, count, ValueMay.
-/
import Derived.Test.YtggfemdnoccmeaaDoorVMay
import Derived.Lib.Strings
import Derived.BigQuiet
namespace Go.Proofs.YtggfemdnoccmeaaDoor
open Go.RowKit


set_option maxRecDepth 100000 in
set_option maxHeartbeats 4000000 in
theorem Rv.shape0 (x : Int) (b : Nat) (s : ByteArray) (ai : Option Addr) (n c : Nat) (m : Nat) (ks : Nat → ByteArray) (ak : Option Addr) (d : Nat) (w : World) :
    Calls Tryd.prog 54 #[.agg #[.int .i64 0, .int .i64 x, .int .u64 (b : Int), .string s, .slice ai n c, .slice ak m d]] w fun e w' => e = .returned (.bool (Vt.formed 0 x b s n m ks)) ∧ Below w.heap.size w w' := by
  by_cases hb : ¬ (b = 0)
  · have hb' : ((b : Int) == 0) = false := beq_eq_false_iff_ne.2 (by omega)
    go_enter Tryd.func54, Tryd.ntmps54
    go_wp2
    all_goals go_ret
    all_goals refine ⟨?_, (by repeat (first | exact Below.refl _ _ | refine Below.alloc ?_ (by simp) _))⟩
    all_goals simp_all [Vt.formed]
    all_goals first | done | omega | (intros; omega)
  replace hb := Decidable.not_not.1 hb
  subst hb
  by_cases hs : ¬ (s.toList = [])
  · have hs' : (s.toList == []) = false := beq_eq_false_iff_ne.2 hs
    go_enter Tryd.func54, Tryd.ntmps54
    go_wp2
    all_goals go_ret
    all_goals refine ⟨?_, (by repeat (first | exact Below.refl _ _ | refine Below.alloc ?_ (by simp) _))⟩
    all_goals simp_all [Vt.formed]
    all_goals first | done | omega | (intros; omega)
  replace hs := Decidable.not_not.1 hs
  have hs0 : s.size = 0 := by have := congrArg List.length hs; rw [Lib.toList_data] at this; simpa using this
  have hs' : (s.toList == []) = true := beq_iff_eq.2 hs
  by_cases hn : ¬ (n = 0)
  · have hn' : decide (0 < (n : Int)) = true := decide_eq_true (by omega)
    go_enter Tryd.func54, Tryd.ntmps54
    go_wp2
    all_goals go_ret
    all_goals refine ⟨?_, (by repeat (first | exact Below.refl _ _ | refine Below.alloc ?_ (by simp) _))⟩
    all_goals simp_all [Vt.formed]
    all_goals first | done | omega | (intros; omega)
  replace hn := Decidable.not_not.1 hn
  subst hn
  by_cases hm : ¬ (m = 0)
  · have hm' : decide (0 < (m : Int)) = true := decide_eq_true (by omega)
    go_enter Tryd.func54, Tryd.ntmps54
    go_wp2
    all_goals go_ret
    all_goals refine ⟨?_, (by repeat (first | exact Below.refl _ _ | refine Below.alloc ?_ (by simp) _))⟩
    all_goals simp_all [Vt.formed]
    all_goals first | done | omega | (intros; omega)
  replace hm := Decidable.not_not.1 hm
  subst hm
  go_enter Tryd.func54, Tryd.ntmps54
  go_wp2_with fail
  go_loopw [4] (fun i wr => i = .int .i64 0 ∧ wr = w.alloc (.cells #[.int .i64 0, .int .i64 x, .int .u64 (0 : Int), .string s, .slice ai 0 c, .slice ak 0 d] 26)) (fun _ _ => 0)
  case atStart => exact ⟨by go_num, by simp⟩
  case round =>
    obtain ⟨rfl, rfl⟩ := hrel
    go_wp2
    go_ret
    refine ⟨?_, (by repeat (first | exact Below.refl _ _ | refine Below.alloc ?_ (by simp) _))⟩
    simp_all [Vt.formed]
    rfl

set_option maxRecDepth 100000 in
set_option maxHeartbeats 4000000 in
theorem Rv.shape3 (x : Int) (b : Nat) (s : ByteArray) (ai : Option Addr) (n c : Nat) (m : Nat) (ks : Nat → ByteArray) (ak : Option Addr) (d : Nat) (w : World) :
    Calls Tryd.prog 54 #[.agg #[.int .i64 3, .int .i64 x, .int .u64 (b : Int), .string s, .slice ai n c, .slice ak m d]] w fun e w' => e = .returned (.bool (Vt.formed 3 x b s n m ks)) ∧ Below w.heap.size w w' := by
  by_cases hs : ¬ (s.toList = [])
  · have hs' : (s.toList == []) = false := beq_eq_false_iff_ne.2 hs
    go_enter Tryd.func54, Tryd.ntmps54
    go_wp2
    all_goals go_ret
    all_goals refine ⟨?_, (by repeat (first | exact Below.refl _ _ | refine Below.alloc ?_ (by simp) _))⟩
    all_goals simp_all [Vt.formed]
    all_goals first | done | omega | (intros; omega)
  replace hs := Decidable.not_not.1 hs
  have hs0 : s.size = 0 := by have := congrArg List.length hs; rw [Lib.toList_data] at this; simpa using this
  have hs' : (s.toList == []) = true := beq_iff_eq.2 hs
  by_cases hn : ¬ (n = 0)
  · have hn' : decide (0 < (n : Int)) = true := decide_eq_true (by omega)
    go_enter Tryd.func54, Tryd.ntmps54
    go_wp2
    all_goals go_ret
    all_goals refine ⟨?_, (by repeat (first | exact Below.refl _ _ | refine Below.alloc ?_ (by simp) _))⟩
    all_goals simp_all [Vt.formed]
    all_goals first | done | omega | (intros; omega)
  replace hn := Decidable.not_not.1 hn
  subst hn
  by_cases hm : ¬ (m = 0)
  · have hm' : decide (0 < (m : Int)) = true := decide_eq_true (by omega)
    go_enter Tryd.func54, Tryd.ntmps54
    go_wp2
    all_goals go_ret
    all_goals refine ⟨?_, (by repeat (first | exact Below.refl _ _ | refine Below.alloc ?_ (by simp) _))⟩
    all_goals simp_all [Vt.formed]
    all_goals first | done | omega | (intros; omega)
  replace hm := Decidable.not_not.1 hm
  subst hm
  go_enter Tryd.func54, Tryd.ntmps54
  go_wp2_with fail
  go_loopw [4] (fun i wr => i = .int .i64 0 ∧ wr = w.alloc (.cells #[.int .i64 3, .int .i64 x, .int .u64 (b : Int), .string s, .slice ai 0 c, .slice ak 0 d] 26)) (fun _ _ => 0)
  case atStart => exact ⟨by go_num, by simp⟩
  case round =>
    obtain ⟨rfl, rfl⟩ := hrel
    go_wp2
    go_ret
    refine ⟨?_, (by repeat (first | exact Below.refl _ _ | refine Below.alloc ?_ (by simp) _))⟩
    simp_all [Vt.formed]
    rfl

set_option maxRecDepth 100000 in
set_option maxHeartbeats 4000000 in
theorem Rv.shape4 (x : Int) (b : Nat) (s : ByteArray) (ai : Option Addr) (n c : Nat) (m : Nat) (ks : Nat → ByteArray) (ak : Option Addr) (d : Nat) (w : World) :
    Calls Tryd.prog 54 #[.agg #[.int .i64 4, .int .i64 x, .int .u64 (b : Int), .string s, .slice ai n c, .slice ak m d]] w fun e w' => e = .returned (.bool (Vt.formed 4 x b s n m ks)) ∧ Below w.heap.size w w' := by
  by_cases hb : ¬ (b = 0)
  · have hb' : ((b : Int) == 0) = false := beq_eq_false_iff_ne.2 (by omega)
    go_enter Tryd.func54, Tryd.ntmps54
    go_wp2
    all_goals go_ret
    all_goals refine ⟨?_, (by repeat (first | exact Below.refl _ _ | refine Below.alloc ?_ (by simp) _))⟩
    all_goals simp_all [Vt.formed]
    all_goals first | done | omega | (intros; omega)
  replace hb := Decidable.not_not.1 hb
  subst hb
  by_cases hz : ¬ (s.size ≤ 65536)
  · have hz' : decide (65536 < (s.size : Int)) = true := decide_eq_true (by omega)
    go_enter Tryd.func54, Tryd.ntmps54
    go_wp2
    all_goals go_ret
    all_goals refine ⟨?_, (by repeat (first | exact Below.refl _ _ | refine Below.alloc ?_ (by simp) _))⟩
    all_goals simp_all [Vt.formed]
    all_goals first | done | omega | (intros; omega)
  replace hz := Decidable.not_not.1 hz
  have hz' : decide (65536 < (s.size : Int)) = false := decide_eq_false (by omega)
  by_cases hn : ¬ (n = 0)
  · have hn' : decide (0 < (n : Int)) = true := decide_eq_true (by omega)
    go_enter Tryd.func54, Tryd.ntmps54
    go_wp2
    all_goals go_ret
    all_goals refine ⟨?_, (by repeat (first | exact Below.refl _ _ | refine Below.alloc ?_ (by simp) _))⟩
    all_goals simp_all [Vt.formed]
    all_goals first | done | omega | (intros; omega)
  replace hn := Decidable.not_not.1 hn
  subst hn
  by_cases hm : ¬ (m = 0)
  · have hm' : decide (0 < (m : Int)) = true := decide_eq_true (by omega)
    go_enter Tryd.func54, Tryd.ntmps54
    go_wp2
    all_goals go_ret
    all_goals refine ⟨?_, (by repeat (first | exact Below.refl _ _ | refine Below.alloc ?_ (by simp) _))⟩
    all_goals simp_all [Vt.formed]
    all_goals first | done | omega | (intros; omega)
  replace hm := Decidable.not_not.1 hm
  subst hm
  go_enter Tryd.func54, Tryd.ntmps54
  go_wp2_with fail
  have HZ := Lib.hid hz
  clear hz
  go_loopw [4] (fun i wr => i = .int .i64 0 ∧ wr = w.alloc (.cells #[.int .i64 4, .int .i64 x, .int .u64 (0 : Int), .string s, .slice ai 0 c, .slice ak 0 d] 26)) (fun _ _ => 0)
  case atStart => exact ⟨by go_num, by simp⟩
  case round =>
    obtain ⟨rfl, rfl⟩ := hrel
    go_wp2
    go_ret
    refine ⟨?_, (by repeat (first | exact Below.refl _ _ | refine Below.alloc ?_ (by simp) _))⟩
    simp_all [Vt.formed]
    rw [decide_eq_true HZ.out]; rfl

set_option maxRecDepth 100000 in
set_option maxHeartbeats 4000000 in
theorem Rv.shape5 (x : Int) (b : Nat) (s : ByteArray) (ai : Option Addr) (n c : Nat) (m : Nat) (ks : Nat → ByteArray) (ak : Option Addr) (d : Nat) (w : World) :
    Calls Tryd.prog 54 #[.agg #[.int .i64 5, .int .i64 x, .int .u64 (b : Int), .string s, .slice ai n c, .slice ak m d]] w fun e w' => e = .returned (.bool (Vt.formed 5 x b s n m ks)) ∧ Below w.heap.size w w' := by
  by_cases hb : ¬ (b = 0)
  · have hb' : ((b : Int) == 0) = false := beq_eq_false_iff_ne.2 (by omega)
    go_enter Tryd.func54, Tryd.ntmps54
    go_wp2
    all_goals go_ret
    all_goals refine ⟨?_, (by repeat (first | exact Below.refl _ _ | refine Below.alloc ?_ (by simp) _))⟩
    all_goals simp_all [Vt.formed]
    all_goals first | done | omega | (intros; omega)
  replace hb := Decidable.not_not.1 hb
  subst hb
  by_cases hs : ¬ (s.toList = [])
  · have hs' : (s.toList == []) = false := beq_eq_false_iff_ne.2 hs
    go_enter Tryd.func54, Tryd.ntmps54
    go_wp2
    all_goals go_ret
    all_goals refine ⟨?_, (by repeat (first | exact Below.refl _ _ | refine Below.alloc ?_ (by simp) _))⟩
    all_goals simp_all [Vt.formed]
    all_goals first | done | omega | (intros; omega)
  replace hs := Decidable.not_not.1 hs
  have hs0 : s.size = 0 := by have := congrArg List.length hs; rw [Lib.toList_data] at this; simpa using this
  have hs' : (s.toList == []) = true := beq_iff_eq.2 hs
  by_cases hn : ¬ (n ≤ 64)
  · have hn' : decide (64 < (n : Int)) = true := decide_eq_true (by omega)
    go_enter Tryd.func54, Tryd.ntmps54
    go_wp2
    all_goals go_ret
    all_goals refine ⟨?_, (by repeat (first | exact Below.refl _ _ | refine Below.alloc ?_ (by simp) _))⟩
    all_goals simp_all [Vt.formed]
    all_goals first | done | omega | (intros; omega)
  replace hn := Decidable.not_not.1 hn
  have hn' : decide (64 < (n : Int)) = false := decide_eq_false (by omega)
  by_cases hm : ¬ (m = 0)
  · have hm' : decide (0 < (m : Int)) = true := decide_eq_true (by omega)
    go_enter Tryd.func54, Tryd.ntmps54
    go_wp2
    all_goals go_ret
    all_goals refine ⟨?_, (by repeat (first | exact Below.refl _ _ | refine Below.alloc ?_ (by simp) _))⟩
    all_goals simp_all [Vt.formed]
    all_goals first | done | omega | (intros; omega)
  replace hm := Decidable.not_not.1 hm
  subst hm
  go_enter Tryd.func54, Tryd.ntmps54
  go_wp2_with fail
  have HZ := Lib.hid hn
  clear hn
  go_loopw [4] (fun i wr => i = .int .i64 0 ∧ wr = w.alloc (.cells #[.int .i64 5, .int .i64 x, .int .u64 (0 : Int), .string s, .slice ai n c, .slice ak 0 d] 26)) (fun _ _ => 0)
  case atStart => exact ⟨by go_num, by simp⟩
  case round =>
    obtain ⟨rfl, rfl⟩ := hrel
    go_wp2
    go_ret
    refine ⟨?_, (by repeat (first | exact Below.refl _ _ | refine Below.alloc ?_ (by simp) _))⟩
    simp_all [Vt.formed]
    rw [decide_eq_true HZ.out]; rfl
end Go.Proofs.YtggfemdnoccmeaaDoor

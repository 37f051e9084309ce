/-
  THE WALK of the landed argument (gen15/genkarg2.py).
-/
import Derived.Test.YtjppobeomocgbaaGreatDoorTGSpoiltoKArg
import Derived.Test.YtjppobeomocgbaaGreatDoorTKCur
import Derived.Laws.OwnMore
namespace Go.Proofs.YtjppobeomocgbaaGreatDoor
open Go.RowKit
set_option maxRecDepth 100000 in
set_option maxHeartbeats 4000000 in
theorem Ka.arg1a (tx : ByteArray) (p : List (List UInt8)) (m : Int) (a : Option Addr) (d : Nat) (w : World) (_t1 : tx.toList.isEmpty = false) (_t2 : (tx.toList == []) = false) :
    Calls Tryz.prog 160 #[.agg #[.int .i64 1, .string tx, .slice a p.length d, .int .i64 m]] w fun e w' => e = .returned (.tuple #[.agg #[.int .i64 0, .string ⟨#[]⟩, .slice a p.length d, .int .i64 0, .string ⟨#[]⟩], .bool false]) ∧ Below w.heap.size w w' := by
  go_enter Tryz.func160, Tryz.ntmps160
  go_wp2_with fail
  go_region
  all_goals go_wp2_with fail
  all_goals refine bodyPost_ret (v := .tuple #[.agg #[.int .i64 0, .string ⟨#[]⟩, .slice a p.length d, .int .i64 0, .string ⟨#[]⟩], .bool false]) (by simp [results, Tryz.results160, go_sem]) rfl ?_
  all_goals exact ⟨rfl, by first | exact Pr.boxed2 _ _ _ | exact (Pr.boxed2 _ _ _).drew⟩
set_option maxRecDepth 100000 in
set_option maxHeartbeats 4000000 in
theorem Ka.arg1b (tx : ByteArray) (p : List (List UInt8)) (m : Int) (a : Option Addr) (d : Nat) (w : World) (B : Bool) (_t1 : tx.toList.isEmpty = true) (_t2 : (tx.toList == []) = true) (_m1 : (m == 0) = B) :
    Calls Tryz.prog 160 #[.agg #[.int .i64 1, .string tx, .slice a p.length d, .int .i64 m]] w fun e w' => e = .returned (.tuple #[.agg #[.int .i64 0, .string ⟨#[]⟩, .slice a p.length d, .int .i64 0, .string ⟨#[]⟩], .bool B]) ∧ Below w.heap.size w w' := by
  go_enter Tryz.func160, Tryz.ntmps160
  go_wp2_with fail
  go_region
  all_goals go_wp2_with fail
  all_goals refine bodyPost_ret (v := .tuple #[.agg #[.int .i64 0, .string ⟨#[]⟩, .slice a p.length d, .int .i64 0, .string ⟨#[]⟩], .bool B]) (by simp [results, Tryz.results160, go_sem]) rfl ?_
  all_goals exact ⟨rfl, by first | exact Pr.boxed2 _ _ _ | exact (Pr.boxed2 _ _ _).drew⟩
set_option maxRecDepth 100000 in
set_option maxHeartbeats 4000000 in
theorem Ka.arg2 (tx : ByteArray) (p : List (List UInt8)) (m : Int) (a : Option Addr) (d : Nat) (w : World) (B : Bool) (_m1 : (m == 0) = B) :
    Calls Tryz.prog 160 #[.agg #[.int .i64 2, .string tx, .slice a p.length d, .int .i64 m]] w fun e w' => e = .returned (.tuple #[.agg #[.int .i64 1, .string tx, .slice a p.length d, .int .i64 0, .string ⟨#[]⟩], .bool B]) ∧ Below w.heap.size w w' := by
  go_enter Tryz.func160, Tryz.ntmps160
  go_wp2_with fail
  go_region
  all_goals go_wp2_with fail
  all_goals refine bodyPost_ret (v := .tuple #[.agg #[.int .i64 1, .string tx, .slice a p.length d, .int .i64 0, .string ⟨#[]⟩], .bool B]) (by simp [results, Tryz.results160, go_sem]) rfl ?_
  all_goals exact ⟨rfl, by first | exact Pr.boxed2 _ _ _ | exact (Pr.boxed2 _ _ _).drew⟩
set_option maxRecDepth 100000 in
set_option maxHeartbeats 4000000 in
theorem Ka.arg3a (tx : ByteArray) (p : List (List UInt8)) (m : Int) (a : Option Addr) (d : Nat) (w : World) (_t1 : tx.toList.isEmpty = false) (_t2 : (tx.toList == []) = false) :
    Calls Tryz.prog 160 #[.agg #[.int .i64 3, .string tx, .slice a p.length d, .int .i64 m]] w fun e w' => e = .returned (.tuple #[.agg #[.int .i64 2, .string ⟨#[]⟩, .slice none 0 0, .int .i64 m, .string ⟨#[]⟩], .bool false]) ∧ Below w.heap.size w w' := by
  go_enter Tryz.func160, Tryz.ntmps160
  go_wp2_with fail
  go_region
  all_goals go_wp2_with fail
  all_goals refine bodyPost_ret (v := .tuple #[.agg #[.int .i64 2, .string ⟨#[]⟩, .slice none 0 0, .int .i64 m, .string ⟨#[]⟩], .bool false]) (by simp [results, Tryz.results160, go_sem]) rfl ?_
  all_goals exact ⟨rfl, by first | exact Pr.boxed2 _ _ _ | exact (Pr.boxed2 _ _ _).drew⟩
set_option maxRecDepth 100000 in
set_option maxHeartbeats 4000000 in
theorem Ka.arg3b (tx : ByteArray) (p : List (List UInt8)) (m : Int) (a : Option Addr) (d : Nat) (w : World) (B : Bool) (_t1 : tx.toList.isEmpty = true) (_t2 : (tx.toList == []) = true) (_p1 : ((p.length : Int) == 0) = B) :
    Calls Tryz.prog 160 #[.agg #[.int .i64 3, .string tx, .slice a p.length d, .int .i64 m]] w fun e w' => e = .returned (.tuple #[.agg #[.int .i64 2, .string ⟨#[]⟩, .slice none 0 0, .int .i64 m, .string ⟨#[]⟩], .bool B]) ∧ Below w.heap.size w w' := by
  go_enter Tryz.func160, Tryz.ntmps160
  go_wp2_with fail
  go_region
  all_goals go_wp2_with fail
  all_goals refine bodyPost_ret (v := .tuple #[.agg #[.int .i64 2, .string ⟨#[]⟩, .slice none 0 0, .int .i64 m, .string ⟨#[]⟩], .bool B]) (by simp [results, Tryz.results160, go_sem]) rfl ?_
  all_goals exact ⟨rfl, by first | exact Pr.boxed2 _ _ _ | exact (Pr.boxed2 _ _ _).drew⟩
set_option maxRecDepth 100000 in
set_option maxHeartbeats 4000000 in
theorem Ka.argO (k : Int) (tx : ByteArray) (p : List (List UInt8)) (m : Int) (a : Option Addr) (d : Nat) (w : World) (_q0 : (k == 0) = false) (_q1 : (k == 1) = false) (_q2 : (k == 2) = false) (_q3 : (k == 3) = false) (_q4 : (k == 4) = false) :
    Calls Tryz.prog 160 #[.agg #[.int .i64 k, .string tx, .slice a p.length d, .int .i64 m]] w fun e w' => e = .returned (.tuple #[.agg #[.int .i64 0, .string ⟨#[]⟩, .slice none 0 0, .int .i64 0, .string ⟨#[]⟩], .bool false]) ∧ Below w.heap.size w w' := by
  go_enter Tryz.func160, Tryz.ntmps160
  go_wp2_with fail
  refine bodyPost_ret (v := .tuple #[.agg #[.int .i64 0, .string ⟨#[]⟩, .slice none 0 0, .int .i64 0, .string ⟨#[]⟩], .bool false]) (by simp [results, Tryz.results160, go_sem]) rfl ?_
  exact ⟨rfl, by first | exact Pr.boxed2 _ _ _ | exact (Pr.boxed2 _ _ _).drew⟩
set_option maxRecDepth 100000 in
set_option maxHeartbeats 4000000 in
theorem Ka.arg4 (tx : ByteArray) (p : List (List UInt8)) (m : Int) (a : Option Addr) (d : Nat) (w : World) (B : Bool) (ho : ∀ u, Calls Tryz.prog 161 #[.agg #[.int .i64 4, .string tx, .slice a p.length d, .int .i64 m], .int .i64 4] u fun e w' => e = .returned (.bool B) ∧ Below u.heap.size u w') :
    Calls Tryz.prog 160 #[.agg #[.int .i64 4, .string tx, .slice a p.length d, .int .i64 m]] w fun e w' => e = .returned (.tuple #[.agg #[.int .i64 3, .string ⟨#[]⟩, .slice none 0 0, .int .i64 0, .string tx], .bool B]) ∧ Below w.heap.size w w' := by
  go_enter Tryz.func160, Tryz.ntmps160
  go_wp2_with fail
  go_region_with (go_at_call 161; refine (ho _).mono ?_; rintro e w1 ⟨rfl, b1⟩; have HX1 : Hid (Bs.Box w1 w.heap.size #[.int .i64 4, .string tx, .slice a p.length d, .int .i64 m] 91) := (b1.block _ (by simp <;> omega)).trans (by exact Bs.Box.alloc (Bs.Box.new w _ _ _ rfl) _); have HQ1 : Hid (Bs.Box w1 (w.heap.size + 1) #[.int .i64 0, .string ⟨#[]⟩, .slice none 0 0, .int .i64 0, .string ⟨#[]⟩] 43) := (b1.block _ (by simp)).trans (by exact Bs.Box.new _ _ _ _ (by simp)); have B1 : Hid (Below w.heap.size w w1) := (Pr.boxed2 w _ _).drew.trans (b1.mono (by simp <;> omega)); clear b1; have x1 := HX1.out.cell 1 rfl; have q0 := HQ1.out.cell 0 rfl; have q1 := HQ1.out.cell 1 rfl; have q2 := HQ1.out.cell 2 rfl; have q3 := HQ1.out.cell 3 rfl; have q4 := HQ1.out.cell 4 rfl; have qf := HQ1.out.frozen; have HQ5 : Hid (Bs.Box (((((w1.setCell ⟨w.heap.size + 1, 0, none⟩ (.int .i64 3)).setCell ⟨w.heap.size + 1, 1, none⟩ (.string ⟨#[]⟩)).setCell ⟨w.heap.size + 1, 2, none⟩ (.slice none 0 0)).setCell ⟨w.heap.size + 1, 3, none⟩ (.int .i64 0)).setCell ⟨w.heap.size + 1, 4, none⟩ (.string tx)) (w.heap.size + 1) #[.int .i64 3, .string ⟨#[]⟩, .slice none 0 0, .int .i64 0, .string tx] 43) := ((((HQ1.out.set 0 _).set 1 _).set 2 _).set 3 _).set 4 _; have B5 : Hid (Below w.heap.size w (((((w1.setCell ⟨w.heap.size + 1, 0, none⟩ (.int .i64 3)).setCell ⟨w.heap.size + 1, 1, none⟩ (.string ⟨#[]⟩)).setCell ⟨w.heap.size + 1, 2, none⟩ (.slice none 0 0)).setCell ⟨w.heap.size + 1, 3, none⟩ (.int .i64 0)).setCell ⟨w.heap.size + 1, 4, none⟩ (.string tx))) := ((((B1.out.setCell (p := ⟨w.heap.size + 1, 0, none⟩) (by simp) _).setCell (p := ⟨w.heap.size + 1, 1, none⟩) (by simp) _).setCell (p := ⟨w.heap.size + 1, 2, none⟩) (by simp) _).setCell (p := ⟨w.heap.size + 1, 3, none⟩) (by simp) _).setCell (p := ⟨w.heap.size + 1, 4, none⟩) (by simp) _)
  all_goals generalize (((((w1.setCell ⟨w.heap.size + 1, 0, none⟩ (.int .i64 3)).setCell ⟨w.heap.size + 1, 1, none⟩ (.string ⟨#[]⟩)).setCell ⟨w.heap.size + 1, 2, none⟩ (.slice none 0 0)).setCell ⟨w.heap.size + 1, 3, none⟩ (.int .i64 0)).setCell ⟨w.heap.size + 1, 4, none⟩ (.string tx)) = w5 at HQ5 B5 ⊢
  all_goals have r0 := HQ5.out.cell 0 rfl
  all_goals have r1 := HQ5.out.cell 1 rfl
  all_goals have r2 := HQ5.out.cell 2 rfl
  all_goals have r3 := HQ5.out.cell 3 rfl
  all_goals have r4 := HQ5.out.cell 4 rfl
  all_goals go_wp2_with fail
  all_goals refine bodyPost_ret (v := .tuple #[.agg #[.int .i64 3, .string ⟨#[]⟩, .slice none 0 0, .int .i64 0, .string tx], .bool B]) (by simp [results, Tryz.results160, go_sem, r0, r1, r2, r3, r4]) rfl ?_
  all_goals exact ⟨rfl, B5.out⟩
set_option maxRecDepth 100000 in
set_option maxHeartbeats 4000000 in
theorem Ka.arg0a (tx : ByteArray) (p : List (List UInt8)) (m : Int) (a : Option Addr) (d : Nat) (w : World) (xk xm : Int) (xn xt : ByteArray) (kc : ∀ u, Calls Tryz.prog 169 #[.string tx] u fun e w' => e = .returned (.tuple #[.agg #[.int .i64 xk, .string xn, .slice none 0 0, .int .i64 xm, .string xt], .bool false]) ∧ Below u.heap.size u w') :
    Calls Tryz.prog 160 #[.agg #[.int .i64 0, .string tx, .slice a p.length d, .int .i64 m]] w fun e w' => e = .returned (.tuple #[.agg #[.int .i64 xk, .string xn, .slice none 0 0, .int .i64 xm, .string xt], .bool false]) ∧ Below w.heap.size w w' := by
  go_enter Tryz.func160, Tryz.ntmps160
  go_upto_region 4 with (go_at_call 169; refine (kc _).mono ?_; rintro e w1 ⟨rfl, b1⟩; have HX1 : Hid (Bs.Box w1 w.heap.size #[.int .i64 0, .string tx, .slice a p.length d, .int .i64 m] 91) := (b1.block _ (by simp <;> omega)).trans (by exact Bs.Box.alloc (Bs.Box.new w _ _ _ rfl) _); have HQ1 : Hid (Bs.Box w1 (w.heap.size + 1) #[.int .i64 0, .string ⟨#[]⟩, .slice none 0 0, .int .i64 0, .string ⟨#[]⟩] 43) := (b1.block _ (by simp)).trans (by exact Bs.Box.new _ _ _ _ (by simp)); have hs1 : w.heap.size + 2 ≤ w1.heap.size := (by have := b1.size; simp at this; omega); have B1 : Hid (Below w.heap.size w w1) := (Pr.boxed2 w _ _).trans (b1.mono (by simp <;> omega)); clear b1)
  have HX2 := Lib.hid (HX1.out.alloc (.cells #[.int .i64 xk, .string xn, .slice none 0 0, .int .i64 xm, .string xt] 43))
  have HQ2 := Lib.hid (HQ1.out.alloc (.cells #[.int .i64 xk, .string xn, .slice none 0 0, .int .i64 xm, .string xt] 43))
  have HY2 : Hid (Bs.Box (w1.alloc (.cells #[.int .i64 xk, .string xn, .slice none 0 0, .int .i64 xm, .string xt] 43)) w1.heap.size #[.int .i64 xk, .string xn, .slice none 0 0, .int .i64 xm, .string xt] 43) := Bs.Box.new w1 _ _ _ rfl
  have B2 := Lib.hid (B1.out.alloc B1.out.size (.cells #[.int .i64 xk, .string xn, .slice none 0 0, .int .i64 xm, .string xt] 43))
  have hsz : (w1.alloc (.cells #[.int .i64 xk, .string xn, .slice none 0 0, .int .i64 xm, .string xt] 43)).heap.size = w1.heap.size + 1 := by simp
  have hne : w1.heap.size ≠ w.heap.size + 1 := by omega
  generalize w1.alloc (.cells #[.int .i64 xk, .string xn, .slice none 0 0, .int .i64 xm, .string xt] 43) = w2 at *
  have x0 := HX2.out.cell 0 rfl
  have x1 := HX2.out.cell 1 rfl
  have x2 := HX2.out.cell 2 rfl
  have x3 := HX2.out.cell 3 rfl
  have y0 := HY2.out.cell 0 rfl
  have y1 := HY2.out.cell 1 rfl
  have y2 := HY2.out.cell 2 rfl
  have y3 := HY2.out.cell 3 rfl
  have y4 := HY2.out.cell 4 rfl
  have q0 := HQ2.out.cell 0 rfl
  have q1 := HQ2.out.cell 1 rfl
  have q2 := HQ2.out.cell 2 rfl
  have q3 := HQ2.out.cell 3 rfl
  have q4 := HQ2.out.cell 4 rfl
  have qf := HQ2.out.frozen
  have HQ5 : Hid (Bs.Box (((((w2.setCell ⟨w.heap.size + 1, 0, none⟩ (.int .i64 xk)).setCell ⟨w.heap.size + 1, 1, none⟩ (.string xn)).setCell ⟨w.heap.size + 1, 2, none⟩ (.slice none 0 0)).setCell ⟨w.heap.size + 1, 3, none⟩ (.int .i64 xm)).setCell ⟨w.heap.size + 1, 4, none⟩ (.string xt)).drew (w.heap.size + 1) #[.int .i64 xk, .string xn, .slice none 0 0, .int .i64 xm, .string xt] 43) := ((((HQ2.out.set 0 _).set 1 _).set 2 _).set 3 _).set 4 _
  have B5 : Hid (Below w.heap.size w (((((w2.setCell ⟨w.heap.size + 1, 0, none⟩ (.int .i64 xk)).setCell ⟨w.heap.size + 1, 1, none⟩ (.string xn)).setCell ⟨w.heap.size + 1, 2, none⟩ (.slice none 0 0)).setCell ⟨w.heap.size + 1, 3, none⟩ (.int .i64 xm)).setCell ⟨w.heap.size + 1, 4, none⟩ (.string xt)).drew) := (((((B2.out.setCell (p := ⟨w.heap.size + 1, 0, none⟩) (by simp) _).setCell (p := ⟨w.heap.size + 1, 1, none⟩) (by simp) _).setCell (p := ⟨w.heap.size + 1, 2, none⟩) (by simp) _).setCell (p := ⟨w.heap.size + 1, 3, none⟩) (by simp) _).setCell (p := ⟨w.heap.size + 1, 4, none⟩) (by simp) _).drew
  clear HX1 HQ1 B1 HX2 HY2
  go_region
  all_goals generalize (((((w2.setCell ⟨w.heap.size + 1, 0, none⟩ (.int .i64 xk)).setCell ⟨w.heap.size + 1, 1, none⟩ (.string xn)).setCell ⟨w.heap.size + 1, 2, none⟩ (.slice none 0 0)).setCell ⟨w.heap.size + 1, 3, none⟩ (.int .i64 xm)).setCell ⟨w.heap.size + 1, 4, none⟩ (.string xt)).drew = w5 at HQ5 B5 ⊢
  all_goals have r0 := HQ5.out.cell 0 rfl
  all_goals have r1 := HQ5.out.cell 1 rfl
  all_goals have r2 := HQ5.out.cell 2 rfl
  all_goals have r3 := HQ5.out.cell 3 rfl
  all_goals have r4 := HQ5.out.cell 4 rfl
  all_goals go_wp2_with fail
  all_goals refine bodyPost_ret (v := .tuple #[.agg #[.int .i64 xk, .string xn, .slice none 0 0, .int .i64 xm, .string xt], .bool false]) (by simp [results, Tryz.results160, go_sem, r0, r1, r2, r3, r4]) rfl ?_
  all_goals exact ⟨rfl, B5.out⟩
set_option maxRecDepth 100000 in
set_option maxHeartbeats 4000000 in
theorem Ka.arg0b (tx : ByteArray) (p : List (List UInt8)) (m : Int) (a : Option Addr) (d : Nat) (w : World) (xk xm : Int) (xn xt : ByteArray) (B : Bool) (kc : ∀ u, Calls Tryz.prog 169 #[.string tx] u fun e w' => e = .returned (.tuple #[.agg #[.int .i64 xk, .string xn, .slice none 0 0, .int .i64 xm, .string xt], .bool true]) ∧ Below u.heap.size u w') (ho : ∀ u, Calls Tryz.prog 161 #[.agg #[.int .i64 0, .string tx, .slice a p.length d, .int .i64 m], .int .i64 0] u fun e w' => e = .returned (.bool B) ∧ Below u.heap.size u w') :
    Calls Tryz.prog 160 #[.agg #[.int .i64 0, .string tx, .slice a p.length d, .int .i64 m]] w fun e w' => e = .returned (.tuple #[.agg #[.int .i64 xk, .string xn, .slice none 0 0, .int .i64 xm, .string xt], .bool B]) ∧ Below w.heap.size w w' := by
  go_enter Tryz.func160, Tryz.ntmps160
  go_upto_region 4 with (go_at_call 169; refine (kc _).mono ?_; rintro e w1 ⟨rfl, b1⟩; have HX1 : Hid (Bs.Box w1 w.heap.size #[.int .i64 0, .string tx, .slice a p.length d, .int .i64 m] 91) := (b1.block _ (by simp <;> omega)).trans (by exact Bs.Box.alloc (Bs.Box.new w _ _ _ rfl) _); have HQ1 : Hid (Bs.Box w1 (w.heap.size + 1) #[.int .i64 0, .string ⟨#[]⟩, .slice none 0 0, .int .i64 0, .string ⟨#[]⟩] 43) := (b1.block _ (by simp)).trans (by exact Bs.Box.new _ _ _ _ (by simp)); have hs1 : w.heap.size + 2 ≤ w1.heap.size := (by have := b1.size; simp at this; omega); have B1 : Hid (Below w.heap.size w w1) := (Pr.boxed2 w _ _).trans (b1.mono (by simp <;> omega)); clear b1)
  have HX2 := Lib.hid (HX1.out.alloc (.cells #[.int .i64 xk, .string xn, .slice none 0 0, .int .i64 xm, .string xt] 43))
  have HQ2 := Lib.hid (HQ1.out.alloc (.cells #[.int .i64 xk, .string xn, .slice none 0 0, .int .i64 xm, .string xt] 43))
  have HY2 : Hid (Bs.Box (w1.alloc (.cells #[.int .i64 xk, .string xn, .slice none 0 0, .int .i64 xm, .string xt] 43)) w1.heap.size #[.int .i64 xk, .string xn, .slice none 0 0, .int .i64 xm, .string xt] 43) := Bs.Box.new w1 _ _ _ rfl
  have B2 := Lib.hid (B1.out.alloc B1.out.size (.cells #[.int .i64 xk, .string xn, .slice none 0 0, .int .i64 xm, .string xt] 43))
  have hsz : (w1.alloc (.cells #[.int .i64 xk, .string xn, .slice none 0 0, .int .i64 xm, .string xt] 43)).heap.size = w1.heap.size + 1 := by simp
  have hne : w1.heap.size ≠ w.heap.size + 1 := by omega
  generalize w1.alloc (.cells #[.int .i64 xk, .string xn, .slice none 0 0, .int .i64 xm, .string xt] 43) = w2 at *
  have x0 := HX2.out.cell 0 rfl
  have x1 := HX2.out.cell 1 rfl
  have x2 := HX2.out.cell 2 rfl
  have x3 := HX2.out.cell 3 rfl
  have y0 := HY2.out.cell 0 rfl
  have y1 := HY2.out.cell 1 rfl
  have y2 := HY2.out.cell 2 rfl
  have y3 := HY2.out.cell 3 rfl
  have y4 := HY2.out.cell 4 rfl
  clear HX1 HQ1 B1 HX2 kc
  go_region_with (go_at_call 161; refine (ho _).mono ?_; rintro e w3 ⟨rfl, b3⟩; have HY3 : Hid (Bs.Box w3 w1.heap.size #[.int .i64 xk, .string xn, .slice none 0 0, .int .i64 xm, .string xt] 43) := (b3.block _ (by show w1.heap.size < w2.heap.size; omega)).trans (by exact HY2.out); have HQ3 : Hid (Bs.Box w3 (w.heap.size + 1) #[.int .i64 0, .string ⟨#[]⟩, .slice none 0 0, .int .i64 0, .string ⟨#[]⟩] 43) := (b3.block _ (by show w.heap.size + 1 < w2.heap.size; omega)).trans (by exact HQ2.out); have B3 : Hid (Below w.heap.size w w3) := B2.out.drew.trans (b3.mono (by show w.heap.size ≤ w2.heap.size; omega)); clear b3; have z0 := HY3.out.cell 0 rfl; have z1 := HY3.out.cell 1 rfl; have z2 := HY3.out.cell 2 rfl; have z3 := HY3.out.cell 3 rfl; have z4 := HY3.out.cell 4 rfl; have q0 := HQ3.out.cell 0 rfl; have q1 := HQ3.out.cell 1 rfl; have q2 := HQ3.out.cell 2 rfl; have q3 := HQ3.out.cell 3 rfl; have q4 := HQ3.out.cell 4 rfl; have qf := HQ3.out.frozen; have HQ5 : Hid (Bs.Box (((((w3.setCell ⟨w.heap.size + 1, 0, none⟩ (.int .i64 xk)).setCell ⟨w.heap.size + 1, 1, none⟩ (.string xn)).setCell ⟨w.heap.size + 1, 2, none⟩ (.slice none 0 0)).setCell ⟨w.heap.size + 1, 3, none⟩ (.int .i64 xm)).setCell ⟨w.heap.size + 1, 4, none⟩ (.string xt)) (w.heap.size + 1) #[.int .i64 xk, .string xn, .slice none 0 0, .int .i64 xm, .string xt] 43) := ((((HQ3.out.set 0 _).set 1 _).set 2 _).set 3 _).set 4 _; have B5 : Hid (Below w.heap.size w (((((w3.setCell ⟨w.heap.size + 1, 0, none⟩ (.int .i64 xk)).setCell ⟨w.heap.size + 1, 1, none⟩ (.string xn)).setCell ⟨w.heap.size + 1, 2, none⟩ (.slice none 0 0)).setCell ⟨w.heap.size + 1, 3, none⟩ (.int .i64 xm)).setCell ⟨w.heap.size + 1, 4, none⟩ (.string xt))) := ((((B3.out.setCell (p := ⟨w.heap.size + 1, 0, none⟩) (by simp) _).setCell (p := ⟨w.heap.size + 1, 1, none⟩) (by simp) _).setCell (p := ⟨w.heap.size + 1, 2, none⟩) (by simp) _).setCell (p := ⟨w.heap.size + 1, 3, none⟩) (by simp) _).setCell (p := ⟨w.heap.size + 1, 4, none⟩) (by simp) _)
  all_goals generalize (((((w3.setCell ⟨w.heap.size + 1, 0, none⟩ (.int .i64 xk)).setCell ⟨w.heap.size + 1, 1, none⟩ (.string xn)).setCell ⟨w.heap.size + 1, 2, none⟩ (.slice none 0 0)).setCell ⟨w.heap.size + 1, 3, none⟩ (.int .i64 xm)).setCell ⟨w.heap.size + 1, 4, none⟩ (.string xt)) = w5 at HQ5 B5 ⊢
  all_goals have r0 := HQ5.out.cell 0 rfl
  all_goals have r1 := HQ5.out.cell 1 rfl
  all_goals have r2 := HQ5.out.cell 2 rfl
  all_goals have r3 := HQ5.out.cell 3 rfl
  all_goals have r4 := HQ5.out.cell 4 rfl
  all_goals go_wp2_with fail
  all_goals refine bodyPost_ret (v := .tuple #[.agg #[.int .i64 xk, .string xn, .slice none 0 0, .int .i64 xm, .string xt], .bool B]) (by simp [results, Tryz.results160, go_sem, r0, r1, r2, r3, r4]) rfl ?_
  all_goals exact ⟨rfl, B5.out⟩
end Go.Proofs.YtjppobeomocgbaaGreatDoor
/-
  THE WALK of the landed argument, at any word.
-/
namespace Go.Proofs.YtjppobeomocgbaaGreatDoor
open Go.RowKit
/-- the path of an argument: the word's own, or none -/
def Ka.pv (x : Wi) (pv : Value) : Value := if x.kind = 1 ∨ x.kind = 2 then pv else .slice none 0 0
theorem Ka.const_zero (t : List UInt8) : (Ka.const t).1.path = [] ∧ (Ka.const t).1.name = [] ∧ (Ka.const t).1.text = [] := by
  unfold Ka.const Ka.zero
  repeat' split
  all_goals exact ⟨rfl, rfl, rfl⟩
theorem Ka.path {w : World} {R : Nat → Prop} {x : Wi} {pv : Value} (h : St.Lies w R x.path pv) : St.Lies w R (Ka.arg x).1.path (Ka.pv x pv) := by
  have hnil : St.Lies w R [] (.slice none 0 0) := St.Lies.nil _ _
  unfold Ka.arg Ka.pv
  by_cases k0 : x.kind = 0
  · rw [if_pos k0, if_neg (show ¬ (x.kind = 1 ∨ x.kind = 2) by omega)]
    show St.Lies w R (Ka.const x.text).1.path _
    rw [(Ka.const_zero _).1]
    exact hnil
  rw [if_neg k0]
  by_cases k1 : x.kind = 1
  · rw [if_pos k1, if_pos (.inl k1)]; exact h
  rw [if_neg k1]
  by_cases k2 : x.kind = 2
  · rw [if_pos k2, if_pos (.inr k2)]; exact h
  rw [if_neg k2, if_neg (show ¬ (x.kind = 1 ∨ x.kind = 2) by omega)]
  by_cases k3 : x.kind = 3
  · rw [if_pos k3]; exact hnil
  rw [if_neg k3]
  by_cases k4 : x.kind = 4
  · rw [if_pos k4]; exact hnil
  · rw [if_neg k4]; exact hnil
/-- an argument as a value -/
def Ka.five (x : Ar) (pv : Value) : Value := .agg #[.int .i64 x.kind, .string ⟨x.name.toArray⟩, pv, .int .i64 x.num, .string ⟨x.text.toArray⟩]
set_option maxHeartbeats 2000000 in
theorem Ka.argument (x : Wi) (a : Option Addr) (d : Nat) (w : World) :
    Calls Tryz.prog 160 #[.agg #[.int .i64 x.kind, .string ⟨x.text.toArray⟩, .slice a x.path.length d, .int .i64 x.num]] w fun e w' => e = .returned (.tuple #[Ka.five (Ka.arg x).1 (Ka.pv x (.slice a x.path.length d)), .bool (Ka.arg x).2]) ∧ Below w.heap.size w w' := by
  obtain ⟨k, tl, p, m⟩ := x
  simp only
  have tx1 : ∀ b, tl.isEmpty = b → (⟨tl.toArray⟩ : ByteArray).toList.isEmpty = b ∧ ((⟨tl.toArray⟩ : ByteArray).toList == []) = b := fun b h => ⟨(Pi.isEmpty_list _).trans h, (Pi.beq_nil _).trans h⟩
  have m1 : (m == 0) = decide (m = 0) := by by_cases q : m = 0 <;> simp [q]
  have p1 := Pi.len0 p
  have ho := fun k u => Ka.hasOnly k k ⟨tl.toArray⟩ p m a d u
  have kc := fun u => Ka.constant ⟨tl.toArray⟩ u
  have efn : (⟨tl.toArray⟩ : ByteArray).data.toList = tl := rfl
  rw [efn] at kc
  simp only at ho
  unfold Ka.arg Ka.pv Ka.five
  simp only
  by_cases k0 : k = 0
  · subst k0
    simp only [if_pos, Int.reduceEq, or_self, if_false]
    have hp := Ka.const_zero tl
    have ho := ho 0
    generalize Ka.only ⟨0, tl, p, m⟩ 0 = B at *
    generalize Ka.const tl = C at *
    obtain ⟨⟨xk, xn, xp, xm, xt⟩, ok⟩ := C
    obtain ⟨rfl, _, _⟩ := hp
    cases ok with
    | false => exact (Ka.arg0a _ p m a d w xk xm _ _ kc).mono fun e w' h => h
    | true => exact (Ka.arg0b _ p m a d w xk xm _ _ B kc ho).mono fun e w' h => h
  rw [if_neg k0]
  by_cases k1 : k = 1
  · subst k1
    simp only [if_pos, true_or]
    cases ht : tl.isEmpty with
    | false =>
      obtain ⟨t1, t2⟩ := tx1 _ ht
      exact (Ka.arg1a _ p m a d w t1 t2).mono fun e w' h => h
    | true =>
      obtain ⟨t1, t2⟩ := tx1 _ ht
      exact (Ka.arg1b _ p m a d w _ t1 t2 m1).mono fun e w' h => h
  rw [if_neg k1]
  by_cases k2 : k = 2
  · subst k2
    simp only [if_pos, or_true]
    exact (Ka.arg2 _ p m a d w _ m1).mono fun e w' h => h
  rw [if_neg k2, if_neg (show ¬ (k = 1 ∨ k = 2) by omega)]
  by_cases k3 : k = 3
  · subst k3
    simp only [if_pos]
    cases ht : tl.isEmpty with
    | false =>
      obtain ⟨t1, t2⟩ := tx1 _ ht
      exact (Ka.arg3a _ p m a d w t1 t2).mono fun e w' h => h
    | true =>
      obtain ⟨t1, t2⟩ := tx1 _ ht
      exact (Ka.arg3b _ p m a d w _ t1 t2 p1).mono fun e w' h => h
  rw [if_neg k3]
  by_cases k4 : k = 4
  · subst k4
    simp only [if_pos]
    exact (Ka.arg4 _ p m a d w _ (ho 4)).mono fun e w' h => h
  rw [if_neg k4]
  exact (Ka.argO k _ p m a d w (beq_eq_false_iff_ne.2 k0) (beq_eq_false_iff_ne.2 k1) (beq_eq_false_iff_ne.2 k2) (beq_eq_false_iff_ne.2 k3) (beq_eq_false_iff_ne.2 k4)).mono fun e w' h => h
end Go.Proofs.YtjppobeomocgbaaGreatDoor
/-
  ROWS OF ARGUMENTS whose paths are still the input's.
-/
namespace Go.Proofs.YtjppobeomocgbaaGreatDoor
open Go.RowKit
/-- arguments in a row of their own; their paths lie in w0 -/
structure Kr.Args (w0 w : World) (base : Nat) (l : List Ar) (v : Value) (xs : List Value) : Prop where
  own : w.ownsRow base 43 5 v l.length xs
  arg : ∀ i x, l[i]? = some x → ∃ pv, St.Lies w0 (fun _ => True) x.path pv ∧ ∀ r u, (Ar.five x pv)[r]? = some u → xs[i * 5 + r]? = some u
theorem Kr.Args.nil (w0 w : World) (base : Nat) : Kr.Args w0 w base [] (.slice none 0 0) [] := ⟨World.ownsRow_nil _ _ _ _, fun i x h => by simp at h⟩
theorem Kr.low {w : World} {b1 b2 : Nat} {e : TypeId} {size n : Nat} {v : Value} {xs : List Value} (h : w.ownsRow b1 e size v n xs) (hb : b2 ≤ b1) : w.ownsRow b2 e size v n xs :=
  ⟨h.1, h.2.imp id fun ⟨g, cap, cur, e, hbg, rest⟩ => ⟨g, cap, cur, e, Nat.le_trans hb hbg, rest⟩⟩
section
variable {w0 w w' : World} {base : Nat} {l : List Ar} {v : Value} {xs : List Value}
theorem Kr.Args.on (h : Kr.Args w0 w base l v xs) (hb : ∀ k, v.ownBlock = some k → w'.heap[k]? = w.heap[k]?) : Kr.Args w0 w' base l v xs := ⟨Rm.own_on h.own hb, h.arg⟩
theorem Kr.Args.below (h : Kr.Args w0 w base l v xs) (hb : Below w.heap.size w w') : Kr.Args w0 w' base l v xs := h.on fun k hk => hb.block k (h.own.lt k hk).2
theorem Kr.Args.lower (h : Kr.Args w0 w base l v xs) {b2 : Nat} (hb : b2 ≤ base) : Kr.Args w0 w b2 l v xs := ⟨Kr.low h.own hb, h.arg⟩
theorem Kr.Args.set (h : Kr.Args w0 w base l v xs) {b i : Nat} (hb : b < base) (u : Value) : Kr.Args w0 (w.setCell ⟨b, i, none⟩ u) base l v xs := h.on fun k hk => Below.heap_setCell _ _ _ _ (by have := (h.own.lt k hk).1; show k ≠ b; omega)
theorem Kr.Args.push (h : Kr.Args w0 w base l v xs) {x : Ar} {pv v' : Value} (hp : St.Lies w0 (fun _ => True) x.path pv) (hown : w'.ownsRow base 43 5 v' (l.length + 1) (xs ++ Ar.five x pv)) : Kr.Args w0 w' base (l ++ [x]) v' (xs ++ Ar.five x pv) := by
  have hl : xs.length = l.length * 5 := h.own.1
  refine ⟨by rw [List.length_append]; exact hown, fun i y hi => ?_⟩
  by_cases hlt : i < l.length
  · rw [List.getElem?_append_left hlt] at hi
    obtain ⟨q, h1, h2⟩ := h.arg i y hi
    refine ⟨q, h1, fun r u hr => ?_⟩
    have hr5 : r < 5 := (List.getElem?_eq_some_iff.1 hr).1
    rw [List.getElem?_append_left (by omega)]
    exact h2 r u hr
  · rw [List.getElem?_append_right (by omega)] at hi
    have h0 : i - l.length = 0 := by
      have := (List.getElem?_eq_some_iff.1 hi).1
      simp at this
      omega
    rw [h0] at hi
    have hi : x = y := Option.some.inj hi
    subst hi
    refine ⟨pv, hp, fun r u hr => ?_⟩
    rw [List.getElem?_append_right (by omega), show i * 5 + r - xs.length = r by omega]
    exact hr
end
theorem Kp.args_step {ws : List Wi} {j : Nat} (h : j < ws.length) : Kp.args (ws.drop j) = if (Ka.arg ws[j]).2 = true then (Ka.arg ws[j]).1 :: Kp.args (ws.drop (j + 1)) else [] := by
  rw [List.drop_eq_getElem_cons h]
  rfl
theorem Kp.behind_at {ws : List Wi} {i i1 : Nat} (h : (if Kp.isf (ws.drop i) = true then i + 1 else i) = i1) : Kp.behind (ws.drop i) = ws.drop i1 := by
  unfold Kp.behind
  subst h
  split
  · rw [List.tail_drop]
  · rfl
end Go.Proofs.YtjppobeomocgbaaGreatDoor

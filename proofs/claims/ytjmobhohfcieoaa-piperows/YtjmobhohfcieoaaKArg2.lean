/-
  THE WALK of the landed argument (gen15/genkarg2.py).
-/
import Derived.Test.YtjmobhohfcieoaaKArg
namespace Go.Proofs.Ytjmobhohfcieoaa
open Go.RowKit
set_option maxRecDepth 100000 in
set_option maxHeartbeats 4000000 in
theorem Ka.arg1a (tx : ByteArray) (p : List (List UInt8)) (m : Int) (a : Option Addr) (d : Nat) (w : World) (_t1 : tx.toList.isEmpty = false) (_t2 : (tx.toList == []) = false) :
    Calls Try.prog 36 #[.agg #[.int .i64 1, .string tx, .slice a p.length d, .int .i64 m]] w fun e w' => e = .returned (.tuple #[.agg #[.int .i64 0, .string ⟨#[]⟩, .slice a p.length d, .int .i64 0, .string ⟨#[]⟩], .bool false]) ∧ Below w.heap.size w w' := by
  go_enter Try.func36, Try.ntmps36
  go_wp2_with fail
  go_region
  all_goals go_wp2_with fail
  all_goals refine bodyPost_ret (v := .tuple #[.agg #[.int .i64 0, .string ⟨#[]⟩, .slice a p.length d, .int .i64 0, .string ⟨#[]⟩], .bool false]) (by simp [results, Try.results36, go_sem]) rfl ?_
  all_goals exact ⟨rfl, by first | exact Pr.boxed2 _ _ _ | exact (Pr.boxed2 _ _ _).drew⟩
set_option maxRecDepth 100000 in
set_option maxHeartbeats 4000000 in
theorem Ka.arg1b (tx : ByteArray) (p : List (List UInt8)) (m : Int) (a : Option Addr) (d : Nat) (w : World) (B : Bool) (_t1 : tx.toList.isEmpty = true) (_t2 : (tx.toList == []) = true) (_m1 : (m == 0) = B) :
    Calls Try.prog 36 #[.agg #[.int .i64 1, .string tx, .slice a p.length d, .int .i64 m]] w fun e w' => e = .returned (.tuple #[.agg #[.int .i64 0, .string ⟨#[]⟩, .slice a p.length d, .int .i64 0, .string ⟨#[]⟩], .bool B]) ∧ Below w.heap.size w w' := by
  go_enter Try.func36, Try.ntmps36
  go_wp2_with fail
  go_region
  all_goals go_wp2_with fail
  all_goals refine bodyPost_ret (v := .tuple #[.agg #[.int .i64 0, .string ⟨#[]⟩, .slice a p.length d, .int .i64 0, .string ⟨#[]⟩], .bool B]) (by simp [results, Try.results36, go_sem]) rfl ?_
  all_goals exact ⟨rfl, by first | exact Pr.boxed2 _ _ _ | exact (Pr.boxed2 _ _ _).drew⟩
set_option maxRecDepth 100000 in
set_option maxHeartbeats 4000000 in
theorem Ka.arg2 (tx : ByteArray) (p : List (List UInt8)) (m : Int) (a : Option Addr) (d : Nat) (w : World) (B : Bool) (_m1 : (m == 0) = B) :
    Calls Try.prog 36 #[.agg #[.int .i64 2, .string tx, .slice a p.length d, .int .i64 m]] w fun e w' => e = .returned (.tuple #[.agg #[.int .i64 1, .string tx, .slice a p.length d, .int .i64 0, .string ⟨#[]⟩], .bool B]) ∧ Below w.heap.size w w' := by
  go_enter Try.func36, Try.ntmps36
  go_wp2_with fail
  go_region
  all_goals go_wp2_with fail
  all_goals refine bodyPost_ret (v := .tuple #[.agg #[.int .i64 1, .string tx, .slice a p.length d, .int .i64 0, .string ⟨#[]⟩], .bool B]) (by simp [results, Try.results36, go_sem]) rfl ?_
  all_goals exact ⟨rfl, by first | exact Pr.boxed2 _ _ _ | exact (Pr.boxed2 _ _ _).drew⟩
set_option maxRecDepth 100000 in
set_option maxHeartbeats 4000000 in
theorem Ka.arg3a (tx : ByteArray) (p : List (List UInt8)) (m : Int) (a : Option Addr) (d : Nat) (w : World) (_t1 : tx.toList.isEmpty = false) (_t2 : (tx.toList == []) = false) :
    Calls Try.prog 36 #[.agg #[.int .i64 3, .string tx, .slice a p.length d, .int .i64 m]] w fun e w' => e = .returned (.tuple #[.agg #[.int .i64 2, .string ⟨#[]⟩, .slice none 0 0, .int .i64 m, .string ⟨#[]⟩], .bool false]) ∧ Below w.heap.size w w' := by
  go_enter Try.func36, Try.ntmps36
  go_wp2_with fail
  go_region
  all_goals go_wp2_with fail
  all_goals refine bodyPost_ret (v := .tuple #[.agg #[.int .i64 2, .string ⟨#[]⟩, .slice none 0 0, .int .i64 m, .string ⟨#[]⟩], .bool false]) (by simp [results, Try.results36, go_sem]) rfl ?_
  all_goals exact ⟨rfl, by first | exact Pr.boxed2 _ _ _ | exact (Pr.boxed2 _ _ _).drew⟩
set_option maxRecDepth 100000 in
set_option maxHeartbeats 4000000 in
theorem Ka.arg3b (tx : ByteArray) (p : List (List UInt8)) (m : Int) (a : Option Addr) (d : Nat) (w : World) (B : Bool) (_t1 : tx.toList.isEmpty = true) (_t2 : (tx.toList == []) = true) (_p1 : ((p.length : Int) == 0) = B) :
    Calls Try.prog 36 #[.agg #[.int .i64 3, .string tx, .slice a p.length d, .int .i64 m]] w fun e w' => e = .returned (.tuple #[.agg #[.int .i64 2, .string ⟨#[]⟩, .slice none 0 0, .int .i64 m, .string ⟨#[]⟩], .bool B]) ∧ Below w.heap.size w w' := by
  go_enter Try.func36, Try.ntmps36
  go_wp2_with fail
  go_region
  all_goals go_wp2_with fail
  all_goals refine bodyPost_ret (v := .tuple #[.agg #[.int .i64 2, .string ⟨#[]⟩, .slice none 0 0, .int .i64 m, .string ⟨#[]⟩], .bool B]) (by simp [results, Try.results36, go_sem]) rfl ?_
  all_goals exact ⟨rfl, by first | exact Pr.boxed2 _ _ _ | exact (Pr.boxed2 _ _ _).drew⟩
set_option maxRecDepth 100000 in
set_option maxHeartbeats 4000000 in
theorem Ka.argO (k : Int) (tx : ByteArray) (p : List (List UInt8)) (m : Int) (a : Option Addr) (d : Nat) (w : World) (_q0 : (k == 0) = false) (_q1 : (k == 1) = false) (_q2 : (k == 2) = false) (_q3 : (k == 3) = false) (_q4 : (k == 4) = false) :
    Calls Try.prog 36 #[.agg #[.int .i64 k, .string tx, .slice a p.length d, .int .i64 m]] w fun e w' => e = .returned (.tuple #[.agg #[.int .i64 0, .string ⟨#[]⟩, .slice none 0 0, .int .i64 0, .string ⟨#[]⟩], .bool false]) ∧ Below w.heap.size w w' := by
  go_enter Try.func36, Try.ntmps36
  go_wp2_with fail
  refine bodyPost_ret (v := .tuple #[.agg #[.int .i64 0, .string ⟨#[]⟩, .slice none 0 0, .int .i64 0, .string ⟨#[]⟩], .bool false]) (by simp [results, Try.results36, go_sem]) rfl ?_
  exact ⟨rfl, by first | exact Pr.boxed2 _ _ _ | exact (Pr.boxed2 _ _ _).drew⟩
set_option maxRecDepth 100000 in
set_option maxHeartbeats 4000000 in
theorem Ka.arg4 (tx : ByteArray) (p : List (List UInt8)) (m : Int) (a : Option Addr) (d : Nat) (w : World) (B : Bool) (ho : ∀ u, Calls Try.prog 37 #[.agg #[.int .i64 4, .string tx, .slice a p.length d, .int .i64 m], .int .i64 4] u fun e w' => e = .returned (.bool B) ∧ Below u.heap.size u w') :
    Calls Try.prog 36 #[.agg #[.int .i64 4, .string tx, .slice a p.length d, .int .i64 m]] w fun e w' => e = .returned (.tuple #[.agg #[.int .i64 3, .string ⟨#[]⟩, .slice none 0 0, .int .i64 0, .string tx], .bool B]) ∧ Below w.heap.size w w' := by
  go_enter Try.func36, Try.ntmps36
  go_wp2_with fail
  go_region_with (go_at_call 37; refine (ho _).mono ?_; rintro e w1 ⟨rfl, b1⟩; have HX1 : Hid (Bs.Box w1 w.heap.size #[.int .i64 4, .string tx, .slice a p.length d, .int .i64 m] 45) := (b1.block _ (by simp <;> omega)).trans (by exact Bs.Box.alloc (Bs.Box.new w _ _ _ rfl) _); have HQ1 : Hid (Bs.Box w1 (w.heap.size + 1) #[.int .i64 0, .string ⟨#[]⟩, .slice none 0 0, .int .i64 0, .string ⟨#[]⟩] 41) := (b1.block _ (by simp)).trans (by exact Bs.Box.new _ _ _ _ (by simp)); have B1 : Hid (Below w.heap.size w w1) := (Pr.boxed2 w _ _).drew.trans (b1.mono (by simp <;> omega)); clear b1; have x1 := HX1.out.cell 1 rfl; have q0 := HQ1.out.cell 0 rfl; have q1 := HQ1.out.cell 1 rfl; have q2 := HQ1.out.cell 2 rfl; have q3 := HQ1.out.cell 3 rfl; have q4 := HQ1.out.cell 4 rfl; have qf := HQ1.out.frozen; have HQ5 : Hid (Bs.Box (((((w1.setCell ⟨w.heap.size + 1, 0, none⟩ (.int .i64 3)).setCell ⟨w.heap.size + 1, 1, none⟩ (.string ⟨#[]⟩)).setCell ⟨w.heap.size + 1, 2, none⟩ (.slice none 0 0)).setCell ⟨w.heap.size + 1, 3, none⟩ (.int .i64 0)).setCell ⟨w.heap.size + 1, 4, none⟩ (.string tx)) (w.heap.size + 1) #[.int .i64 3, .string ⟨#[]⟩, .slice none 0 0, .int .i64 0, .string tx] 41) := ((((HQ1.out.set 0 _).set 1 _).set 2 _).set 3 _).set 4 _; have B5 : Hid (Below w.heap.size w (((((w1.setCell ⟨w.heap.size + 1, 0, none⟩ (.int .i64 3)).setCell ⟨w.heap.size + 1, 1, none⟩ (.string ⟨#[]⟩)).setCell ⟨w.heap.size + 1, 2, none⟩ (.slice none 0 0)).setCell ⟨w.heap.size + 1, 3, none⟩ (.int .i64 0)).setCell ⟨w.heap.size + 1, 4, none⟩ (.string tx))) := ((((B1.out.setCell (p := ⟨w.heap.size + 1, 0, none⟩) (by simp) _).setCell (p := ⟨w.heap.size + 1, 1, none⟩) (by simp) _).setCell (p := ⟨w.heap.size + 1, 2, none⟩) (by simp) _).setCell (p := ⟨w.heap.size + 1, 3, none⟩) (by simp) _).setCell (p := ⟨w.heap.size + 1, 4, none⟩) (by simp) _)
  all_goals generalize (((((w1.setCell ⟨w.heap.size + 1, 0, none⟩ (.int .i64 3)).setCell ⟨w.heap.size + 1, 1, none⟩ (.string ⟨#[]⟩)).setCell ⟨w.heap.size + 1, 2, none⟩ (.slice none 0 0)).setCell ⟨w.heap.size + 1, 3, none⟩ (.int .i64 0)).setCell ⟨w.heap.size + 1, 4, none⟩ (.string tx)) = w5 at HQ5 B5 ⊢
  all_goals have r0 := HQ5.out.cell 0 rfl
  all_goals have r1 := HQ5.out.cell 1 rfl
  all_goals have r2 := HQ5.out.cell 2 rfl
  all_goals have r3 := HQ5.out.cell 3 rfl
  all_goals have r4 := HQ5.out.cell 4 rfl
  all_goals go_wp2_with fail
  all_goals refine bodyPost_ret (v := .tuple #[.agg #[.int .i64 3, .string ⟨#[]⟩, .slice none 0 0, .int .i64 0, .string tx], .bool B]) (by simp [results, Try.results36, go_sem, r0, r1, r2, r3, r4]) rfl ?_
  all_goals exact ⟨rfl, B5.out⟩
set_option maxRecDepth 100000 in
set_option maxHeartbeats 4000000 in
theorem Ka.arg0a (tx : ByteArray) (p : List (List UInt8)) (m : Int) (a : Option Addr) (d : Nat) (w : World) (xk xm : Int) (xn xt : ByteArray) (kc : ∀ u, Calls Try.prog 43 #[.string tx] u fun e w' => e = .returned (.tuple #[.agg #[.int .i64 xk, .string xn, .slice none 0 0, .int .i64 xm, .string xt], .bool false]) ∧ Below u.heap.size u w') :
    Calls Try.prog 36 #[.agg #[.int .i64 0, .string tx, .slice a p.length d, .int .i64 m]] w fun e w' => e = .returned (.tuple #[.agg #[.int .i64 xk, .string xn, .slice none 0 0, .int .i64 xm, .string xt], .bool false]) ∧ Below w.heap.size w w' := by
  go_enter Try.func36, Try.ntmps36
  go_upto_region 4 with (go_at_call 43; refine (kc _).mono ?_; rintro e w1 ⟨rfl, b1⟩; have HX1 : Hid (Bs.Box w1 w.heap.size #[.int .i64 0, .string tx, .slice a p.length d, .int .i64 m] 45) := (b1.block _ (by simp <;> omega)).trans (by exact Bs.Box.alloc (Bs.Box.new w _ _ _ rfl) _); have HQ1 : Hid (Bs.Box w1 (w.heap.size + 1) #[.int .i64 0, .string ⟨#[]⟩, .slice none 0 0, .int .i64 0, .string ⟨#[]⟩] 41) := (b1.block _ (by simp)).trans (by exact Bs.Box.new _ _ _ _ (by simp)); have hs1 : w.heap.size + 2 ≤ w1.heap.size := (by have := b1.size; simp at this; omega); have B1 : Hid (Below w.heap.size w w1) := (Pr.boxed2 w _ _).trans (b1.mono (by simp <;> omega)); clear b1)
  have HX2 := Lib.hid (HX1.out.alloc (.cells #[.int .i64 xk, .string xn, .slice none 0 0, .int .i64 xm, .string xt] 41))
  have HQ2 := Lib.hid (HQ1.out.alloc (.cells #[.int .i64 xk, .string xn, .slice none 0 0, .int .i64 xm, .string xt] 41))
  have HY2 : Hid (Bs.Box (w1.alloc (.cells #[.int .i64 xk, .string xn, .slice none 0 0, .int .i64 xm, .string xt] 41)) w1.heap.size #[.int .i64 xk, .string xn, .slice none 0 0, .int .i64 xm, .string xt] 41) := Bs.Box.new w1 _ _ _ rfl
  have B2 := Lib.hid (B1.out.alloc B1.out.size (.cells #[.int .i64 xk, .string xn, .slice none 0 0, .int .i64 xm, .string xt] 41))
  have hsz : (w1.alloc (.cells #[.int .i64 xk, .string xn, .slice none 0 0, .int .i64 xm, .string xt] 41)).heap.size = w1.heap.size + 1 := by simp
  have hne : w1.heap.size ≠ w.heap.size + 1 := by omega
  generalize w1.alloc (.cells #[.int .i64 xk, .string xn, .slice none 0 0, .int .i64 xm, .string xt] 41) = w2 at *
  have x0 := HX2.out.cell 0 rfl
  have x1 := HX2.out.cell 1 rfl
  have x2 := HX2.out.cell 2 rfl
  have x3 := HX2.out.cell 3 rfl
  have y0 := HY2.out.cell 0 rfl
  have y1 := HY2.out.cell 1 rfl
  have y2 := HY2.out.cell 2 rfl
  have y3 := HY2.out.cell 3 rfl
  have y4 := HY2.out.cell 4 rfl
  have q0 := HQ2.out.cell 0 rfl
  have q1 := HQ2.out.cell 1 rfl
  have q2 := HQ2.out.cell 2 rfl
  have q3 := HQ2.out.cell 3 rfl
  have q4 := HQ2.out.cell 4 rfl
  have qf := HQ2.out.frozen
  have HQ5 : Hid (Bs.Box (((((w2.setCell ⟨w.heap.size + 1, 0, none⟩ (.int .i64 xk)).setCell ⟨w.heap.size + 1, 1, none⟩ (.string xn)).setCell ⟨w.heap.size + 1, 2, none⟩ (.slice none 0 0)).setCell ⟨w.heap.size + 1, 3, none⟩ (.int .i64 xm)).setCell ⟨w.heap.size + 1, 4, none⟩ (.string xt)).drew (w.heap.size + 1) #[.int .i64 xk, .string xn, .slice none 0 0, .int .i64 xm, .string xt] 41) := ((((HQ2.out.set 0 _).set 1 _).set 2 _).set 3 _).set 4 _
  have B5 : Hid (Below w.heap.size w (((((w2.setCell ⟨w.heap.size + 1, 0, none⟩ (.int .i64 xk)).setCell ⟨w.heap.size + 1, 1, none⟩ (.string xn)).setCell ⟨w.heap.size + 1, 2, none⟩ (.slice none 0 0)).setCell ⟨w.heap.size + 1, 3, none⟩ (.int .i64 xm)).setCell ⟨w.heap.size + 1, 4, none⟩ (.string xt)).drew) := (((((B2.out.setCell (p := ⟨w.heap.size + 1, 0, none⟩) (by simp) _).setCell (p := ⟨w.heap.size + 1, 1, none⟩) (by simp) _).setCell (p := ⟨w.heap.size + 1, 2, none⟩) (by simp) _).setCell (p := ⟨w.heap.size + 1, 3, none⟩) (by simp) _).setCell (p := ⟨w.heap.size + 1, 4, none⟩) (by simp) _).drew
  clear HX1 HQ1 B1 HX2 HY2
  go_region
  all_goals generalize (((((w2.setCell ⟨w.heap.size + 1, 0, none⟩ (.int .i64 xk)).setCell ⟨w.heap.size + 1, 1, none⟩ (.string xn)).setCell ⟨w.heap.size + 1, 2, none⟩ (.slice none 0 0)).setCell ⟨w.heap.size + 1, 3, none⟩ (.int .i64 xm)).setCell ⟨w.heap.size + 1, 4, none⟩ (.string xt)).drew = w5 at HQ5 B5 ⊢
  all_goals have r0 := HQ5.out.cell 0 rfl
  all_goals have r1 := HQ5.out.cell 1 rfl
  all_goals have r2 := HQ5.out.cell 2 rfl
  all_goals have r3 := HQ5.out.cell 3 rfl
  all_goals have r4 := HQ5.out.cell 4 rfl
  all_goals go_wp2_with fail
  all_goals refine bodyPost_ret (v := .tuple #[.agg #[.int .i64 xk, .string xn, .slice none 0 0, .int .i64 xm, .string xt], .bool false]) (by simp [results, Try.results36, go_sem, r0, r1, r2, r3, r4]) rfl ?_
  all_goals exact ⟨rfl, B5.out⟩
set_option maxRecDepth 100000 in
set_option maxHeartbeats 4000000 in
theorem Ka.arg0b (tx : ByteArray) (p : List (List UInt8)) (m : Int) (a : Option Addr) (d : Nat) (w : World) (xk xm : Int) (xn xt : ByteArray) (B : Bool) (kc : ∀ u, Calls Try.prog 43 #[.string tx] u fun e w' => e = .returned (.tuple #[.agg #[.int .i64 xk, .string xn, .slice none 0 0, .int .i64 xm, .string xt], .bool true]) ∧ Below u.heap.size u w') (ho : ∀ u, Calls Try.prog 37 #[.agg #[.int .i64 0, .string tx, .slice a p.length d, .int .i64 m], .int .i64 0] u fun e w' => e = .returned (.bool B) ∧ Below u.heap.size u w') :
    Calls Try.prog 36 #[.agg #[.int .i64 0, .string tx, .slice a p.length d, .int .i64 m]] w fun e w' => e = .returned (.tuple #[.agg #[.int .i64 xk, .string xn, .slice none 0 0, .int .i64 xm, .string xt], .bool B]) ∧ Below w.heap.size w w' := by
  go_enter Try.func36, Try.ntmps36
  go_upto_region 4 with (go_at_call 43; refine (kc _).mono ?_; rintro e w1 ⟨rfl, b1⟩; have HX1 : Hid (Bs.Box w1 w.heap.size #[.int .i64 0, .string tx, .slice a p.length d, .int .i64 m] 45) := (b1.block _ (by simp <;> omega)).trans (by exact Bs.Box.alloc (Bs.Box.new w _ _ _ rfl) _); have HQ1 : Hid (Bs.Box w1 (w.heap.size + 1) #[.int .i64 0, .string ⟨#[]⟩, .slice none 0 0, .int .i64 0, .string ⟨#[]⟩] 41) := (b1.block _ (by simp)).trans (by exact Bs.Box.new _ _ _ _ (by simp)); have hs1 : w.heap.size + 2 ≤ w1.heap.size := (by have := b1.size; simp at this; omega); have B1 : Hid (Below w.heap.size w w1) := (Pr.boxed2 w _ _).trans (b1.mono (by simp <;> omega)); clear b1)
  have HX2 := Lib.hid (HX1.out.alloc (.cells #[.int .i64 xk, .string xn, .slice none 0 0, .int .i64 xm, .string xt] 41))
  have HQ2 := Lib.hid (HQ1.out.alloc (.cells #[.int .i64 xk, .string xn, .slice none 0 0, .int .i64 xm, .string xt] 41))
  have HY2 : Hid (Bs.Box (w1.alloc (.cells #[.int .i64 xk, .string xn, .slice none 0 0, .int .i64 xm, .string xt] 41)) w1.heap.size #[.int .i64 xk, .string xn, .slice none 0 0, .int .i64 xm, .string xt] 41) := Bs.Box.new w1 _ _ _ rfl
  have B2 := Lib.hid (B1.out.alloc B1.out.size (.cells #[.int .i64 xk, .string xn, .slice none 0 0, .int .i64 xm, .string xt] 41))
  have hsz : (w1.alloc (.cells #[.int .i64 xk, .string xn, .slice none 0 0, .int .i64 xm, .string xt] 41)).heap.size = w1.heap.size + 1 := by simp
  have hne : w1.heap.size ≠ w.heap.size + 1 := by omega
  generalize w1.alloc (.cells #[.int .i64 xk, .string xn, .slice none 0 0, .int .i64 xm, .string xt] 41) = w2 at *
  have x0 := HX2.out.cell 0 rfl
  have x1 := HX2.out.cell 1 rfl
  have x2 := HX2.out.cell 2 rfl
  have x3 := HX2.out.cell 3 rfl
  have y0 := HY2.out.cell 0 rfl
  have y1 := HY2.out.cell 1 rfl
  have y2 := HY2.out.cell 2 rfl
  have y3 := HY2.out.cell 3 rfl
  have y4 := HY2.out.cell 4 rfl
  clear HX1 HQ1 B1 HX2 kc
  go_region_with (go_at_call 37; refine (ho _).mono ?_; rintro e w3 ⟨rfl, b3⟩; have HY3 : Hid (Bs.Box w3 w1.heap.size #[.int .i64 xk, .string xn, .slice none 0 0, .int .i64 xm, .string xt] 41) := (b3.block _ (by show w1.heap.size < w2.heap.size; omega)).trans (by exact HY2.out); have HQ3 : Hid (Bs.Box w3 (w.heap.size + 1) #[.int .i64 0, .string ⟨#[]⟩, .slice none 0 0, .int .i64 0, .string ⟨#[]⟩] 41) := (b3.block _ (by show w.heap.size + 1 < w2.heap.size; omega)).trans (by exact HQ2.out); have B3 : Hid (Below w.heap.size w w3) := B2.out.drew.trans (b3.mono (by show w.heap.size ≤ w2.heap.size; omega)); clear b3; have z0 := HY3.out.cell 0 rfl; have z1 := HY3.out.cell 1 rfl; have z2 := HY3.out.cell 2 rfl; have z3 := HY3.out.cell 3 rfl; have z4 := HY3.out.cell 4 rfl; have q0 := HQ3.out.cell 0 rfl; have q1 := HQ3.out.cell 1 rfl; have q2 := HQ3.out.cell 2 rfl; have q3 := HQ3.out.cell 3 rfl; have q4 := HQ3.out.cell 4 rfl; have qf := HQ3.out.frozen; have HQ5 : Hid (Bs.Box (((((w3.setCell ⟨w.heap.size + 1, 0, none⟩ (.int .i64 xk)).setCell ⟨w.heap.size + 1, 1, none⟩ (.string xn)).setCell ⟨w.heap.size + 1, 2, none⟩ (.slice none 0 0)).setCell ⟨w.heap.size + 1, 3, none⟩ (.int .i64 xm)).setCell ⟨w.heap.size + 1, 4, none⟩ (.string xt)) (w.heap.size + 1) #[.int .i64 xk, .string xn, .slice none 0 0, .int .i64 xm, .string xt] 41) := ((((HQ3.out.set 0 _).set 1 _).set 2 _).set 3 _).set 4 _; have B5 : Hid (Below w.heap.size w (((((w3.setCell ⟨w.heap.size + 1, 0, none⟩ (.int .i64 xk)).setCell ⟨w.heap.size + 1, 1, none⟩ (.string xn)).setCell ⟨w.heap.size + 1, 2, none⟩ (.slice none 0 0)).setCell ⟨w.heap.size + 1, 3, none⟩ (.int .i64 xm)).setCell ⟨w.heap.size + 1, 4, none⟩ (.string xt))) := ((((B3.out.setCell (p := ⟨w.heap.size + 1, 0, none⟩) (by simp) _).setCell (p := ⟨w.heap.size + 1, 1, none⟩) (by simp) _).setCell (p := ⟨w.heap.size + 1, 2, none⟩) (by simp) _).setCell (p := ⟨w.heap.size + 1, 3, none⟩) (by simp) _).setCell (p := ⟨w.heap.size + 1, 4, none⟩) (by simp) _)
  all_goals generalize (((((w3.setCell ⟨w.heap.size + 1, 0, none⟩ (.int .i64 xk)).setCell ⟨w.heap.size + 1, 1, none⟩ (.string xn)).setCell ⟨w.heap.size + 1, 2, none⟩ (.slice none 0 0)).setCell ⟨w.heap.size + 1, 3, none⟩ (.int .i64 xm)).setCell ⟨w.heap.size + 1, 4, none⟩ (.string xt)) = w5 at HQ5 B5 ⊢
  all_goals have r0 := HQ5.out.cell 0 rfl
  all_goals have r1 := HQ5.out.cell 1 rfl
  all_goals have r2 := HQ5.out.cell 2 rfl
  all_goals have r3 := HQ5.out.cell 3 rfl
  all_goals have r4 := HQ5.out.cell 4 rfl
  all_goals go_wp2_with fail
  all_goals refine bodyPost_ret (v := .tuple #[.agg #[.int .i64 xk, .string xn, .slice none 0 0, .int .i64 xm, .string xt], .bool B]) (by simp [results, Try.results36, go_sem, r0, r1, r2, r3, r4]) rfl ?_
  all_goals exact ⟨rfl, B5.out⟩
end Go.Proofs.Ytjmobhohfcieoaa

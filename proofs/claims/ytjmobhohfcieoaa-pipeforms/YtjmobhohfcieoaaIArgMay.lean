/-
  THE WALK of the reference's argMay (gen15/genargmay.py).
-/
import Derived.Test.YtjmobhohfcieoaaIPath
namespace Go.Proofs.Ytjmobhohfcieoaa
open Go.RowKit
theorem St.Lies.boxed {w : World} {R : Nat → Prop} {ts : List (List UInt8)} {v : Value} (h : St.Lies w R ts v) (o : Obj) : St.Lies (w.alloc o) (fun _ => True) ts v := by
  obtain ⟨a, d, e, h1, h2, hx⟩ := h
  refine ⟨a, d, e, h1, h2, fun i t hi => ?_⟩
  obtain ⟨b, q, ea, _, c0⟩ := hx i t hi
  exact ⟨b, q, ea, trivial, Tp.keep ((Below.refl _ _).alloc (Nat.le_refl _) o) c0⟩
theorem Pr.boxed (w : World) (o : Obj) : Below w.heap.size w (w.alloc o) := (Below.refl _ _).alloc (Nat.le_refl _) o
theorem Pi.ne_list (s : ByteArray) : (s.toList != []) = decide (s.data.toList ≠ []) := by
  rw [ByteArray.toList_eq]
  cases s.data.toList <;> rfl
set_option maxRecDepth 100000 in
set_option maxHeartbeats 4000000 in
theorem Pr.argMay0 (nx tx : ByteArray) (p : List (List UInt8)) (m : Int) (a : Option Addr) (d : Nat) (w : World) (_pm : ∀ o, Calls Try.prog 33 #[.slice a p.length d] (w.alloc o) fun e w' => e = .returned (.bool (Pi.path p)) ∧ w' = w.alloc o) (_nm : ∀ u, Calls Try.prog 34 #[.string nx] u fun e w' => e = .returned (.bool (Pi.name nx.data.toList)) ∧ w' = u) :
    Calls Try.prog 26 #[.agg #[.int .i64 0, .string nx, .slice a p.length d, .int .i64 m, .string tx]] w fun e w' => e = .returned (.bool (Pi.argMay ⟨0, nx.data.toList, p, m, tx.data.toList⟩)) ∧ Below w.heap.size w w' := by
  have etx := Pi.ne_list tx
  have enx := Pi.ne_list nx
  have emx : (m != 0) = decide (m ≠ 0) := by by_cases h : m = 0 <;> simp [h]
  have epx : decide ((0 : Int) < (p.length : Int)) = decide (p ≠ []) := by cases p <;> simp
  obtain ⟨B, hB⟩ : ∃ B, Pi.argMay ⟨0, nx.data.toList, p, m, tx.data.toList⟩ = B := ⟨_, rfl⟩
  rw [hB]
  unfold Pi.argMay at hB
  simp only at hB
  by_cases ctx : tx.data.toList ≠ []
  · have htx : (tx.toList != []) = true := etx.trans (decide_eq_true ctx)
    have htx2 : (tx.toList == []) = false := by rw [bne] at htx; cases hh : (tx.toList == []) <;> simp_all
    have htx3 : tx.toList.isEmpty = false := by rw [← htx2]; cases tx.toList <;> rfl
    rw [if_pos (by simp [ctx])] at hB
    subst hB
    clear etx enx emx epx ctx
    go_enter Try.func26, Try.ntmps26
    go_wp2_with fail
    go_ret
    exact ⟨rfl, Pr.boxed _ _⟩
  have htx : (tx.toList != []) = false := etx.trans (decide_eq_false ctx)
  have htx2 : (tx.toList == []) = true := by rw [bne] at htx; cases hh : (tx.toList == []) <;> simp_all
  have htx3 : tx.toList.isEmpty = true := by rw [← htx2]; cases tx.toList <;> rfl
  by_cases cnx : nx.data.toList ≠ []
  · have hnx : (nx.toList != []) = true := enx.trans (decide_eq_true cnx)
    have hnx2 : (nx.toList == []) = false := by rw [bne] at hnx; cases hh : (nx.toList == []) <;> simp_all
    have hnx3 : nx.toList.isEmpty = false := by rw [← hnx2]; cases nx.toList <;> rfl
    rw [if_pos (by simp [cnx])] at hB
    subst hB
    clear etx enx emx epx ctx cnx
    go_enter Try.func26, Try.ntmps26
    go_wp2_with fail
    go_ret
    exact ⟨rfl, Pr.boxed _ _⟩
  have hnx : (nx.toList != []) = false := enx.trans (decide_eq_false cnx)
  have hnx2 : (nx.toList == []) = true := by rw [bne] at hnx; cases hh : (nx.toList == []) <;> simp_all
  have hnx3 : nx.toList.isEmpty = true := by rw [← hnx2]; cases nx.toList <;> rfl
  by_cases cmx : m ≠ 0
  · have hmx : (m != 0) = true := emx.trans (decide_eq_true cmx)
    have hmx2 : (m == 0) = false := by rw [bne] at hmx; cases hh : (m == 0) <;> simp_all
    rw [if_pos (by simp [cmx])] at hB
    subst hB
    clear etx enx emx epx ctx cnx cmx
    go_enter Try.func26, Try.ntmps26
    go_wp2_with fail
    go_ret
    exact ⟨rfl, Pr.boxed _ _⟩
  have hmx : (m != 0) = false := emx.trans (decide_eq_false cmx)
  have hmx2 : (m == 0) = true := by rw [bne] at hmx; cases hh : (m == 0) <;> simp_all
  rw [if_neg (by simp at ctx cnx cmx; simp [ctx, cnx, cmx])] at hB
  rw [if_pos (by simp)] at hB
  have pm := fun o => _pm o
  rw [hB] at pm
  clear etx enx emx epx hB _pm _nm ctx cnx cmx
  go_enter Try.func26, Try.ntmps26
  go_wp2_with (go_at_call 33; refine (pm _).mono ?_; rintro e w1 ⟨rfl, hw⟩; have hw := hw.symm; subst hw)
  go_ret
  exact ⟨rfl, Pr.boxed _ _⟩
set_option maxRecDepth 100000 in
set_option maxHeartbeats 4000000 in
theorem Pr.argMay1 (nx tx : ByteArray) (p : List (List UInt8)) (m : Int) (a : Option Addr) (d : Nat) (w : World) (_pm : ∀ o, Calls Try.prog 33 #[.slice a p.length d] (w.alloc o) fun e w' => e = .returned (.bool (Pi.path p)) ∧ w' = w.alloc o) (_nm : ∀ u, Calls Try.prog 34 #[.string nx] u fun e w' => e = .returned (.bool (Pi.name nx.data.toList)) ∧ w' = u) :
    Calls Try.prog 26 #[.agg #[.int .i64 1, .string nx, .slice a p.length d, .int .i64 m, .string tx]] w fun e w' => e = .returned (.bool (Pi.argMay ⟨1, nx.data.toList, p, m, tx.data.toList⟩)) ∧ Below w.heap.size w w' := by
  have etx := Pi.ne_list tx
  have enx := Pi.ne_list nx
  have emx : (m != 0) = decide (m ≠ 0) := by by_cases h : m = 0 <;> simp [h]
  have epx : decide ((0 : Int) < (p.length : Int)) = decide (p ≠ []) := by cases p <;> simp
  obtain ⟨B, hB⟩ : ∃ B, Pi.argMay ⟨1, nx.data.toList, p, m, tx.data.toList⟩ = B := ⟨_, rfl⟩
  rw [hB]
  unfold Pi.argMay at hB
  simp only at hB
  by_cases ctx : tx.data.toList ≠ []
  · have htx : (tx.toList != []) = true := etx.trans (decide_eq_true ctx)
    have htx2 : (tx.toList == []) = false := by rw [bne] at htx; cases hh : (tx.toList == []) <;> simp_all
    have htx3 : tx.toList.isEmpty = false := by rw [← htx2]; cases tx.toList <;> rfl
    rw [if_pos (by simp [ctx])] at hB
    subst hB
    clear etx enx emx epx ctx
    go_enter Try.func26, Try.ntmps26
    go_wp2_with fail
    go_ret
    exact ⟨rfl, Pr.boxed _ _⟩
  have htx : (tx.toList != []) = false := etx.trans (decide_eq_false ctx)
  have htx2 : (tx.toList == []) = true := by rw [bne] at htx; cases hh : (tx.toList == []) <;> simp_all
  have htx3 : tx.toList.isEmpty = true := by rw [← htx2]; cases tx.toList <;> rfl
  by_cases cmx : m ≠ 0
  · have hmx : (m != 0) = true := emx.trans (decide_eq_true cmx)
    have hmx2 : (m == 0) = false := by rw [bne] at hmx; cases hh : (m == 0) <;> simp_all
    rw [if_pos (by simp [cmx])] at hB
    subst hB
    clear etx enx emx epx ctx cmx
    go_enter Try.func26, Try.ntmps26
    go_wp2_with fail
    go_ret
    exact ⟨rfl, Pr.boxed _ _⟩
  have hmx : (m != 0) = false := emx.trans (decide_eq_false cmx)
  have hmx2 : (m == 0) = true := by rw [bne] at hmx; cases hh : (m == 0) <;> simp_all
  rw [if_neg (by simp at ctx cmx; simp [ctx, cmx])] at hB
  rw [if_neg (by simp), if_pos (by trivial)] at hB
  have pm := fun o => _pm o
  have nm := fun o => _nm o
  cases hn : Pi.name nx.data.toList with
  | true =>
    rw [hn] at nm hB
    have hB2 : Pi.path p = B := hB
    rw [hB2] at pm
    clear etx enx emx epx hB hB2 hn _pm _nm ctx cmx
    go_enter Try.func26, Try.ntmps26
    go_wp2_with (first | (go_at_call 33; refine (pm _).mono ?_; rintro e w1 ⟨rfl, hw⟩; have hw := hw.symm; subst hw) | (go_at_call 34; refine (nm _).mono ?_; rintro e w1 ⟨rfl, hw⟩; have hw := hw.symm; subst hw))
    go_ret
    exact ⟨rfl, Pr.boxed _ _⟩
  | false =>
    rw [hn] at nm hB
    have hB2 : false = B := hB
    subst hB2
    clear etx enx emx epx hB hn _pm _nm ctx cmx
    go_enter Try.func26, Try.ntmps26
    go_wp2_with (first | (go_at_call 33; refine (pm _).mono ?_; rintro e w1 ⟨rfl, hw⟩; have hw := hw.symm; subst hw) | (go_at_call 34; refine (nm _).mono ?_; rintro e w1 ⟨rfl, hw⟩; have hw := hw.symm; subst hw))
    go_ret
    exact ⟨rfl, Pr.boxed _ _⟩
set_option maxRecDepth 100000 in
set_option maxHeartbeats 4000000 in
theorem Pr.argMay2 (nx tx : ByteArray) (p : List (List UInt8)) (m : Int) (a : Option Addr) (d : Nat) (w : World) (_pm : ∀ o, Calls Try.prog 33 #[.slice a p.length d] (w.alloc o) fun e w' => e = .returned (.bool (Pi.path p)) ∧ w' = w.alloc o) (_nm : ∀ u, Calls Try.prog 34 #[.string nx] u fun e w' => e = .returned (.bool (Pi.name nx.data.toList)) ∧ w' = u) :
    Calls Try.prog 26 #[.agg #[.int .i64 2, .string nx, .slice a p.length d, .int .i64 m, .string tx]] w fun e w' => e = .returned (.bool (Pi.argMay ⟨2, nx.data.toList, p, m, tx.data.toList⟩)) ∧ Below w.heap.size w w' := by
  have etx := Pi.ne_list tx
  have enx := Pi.ne_list nx
  have emx : (m != 0) = decide (m ≠ 0) := by by_cases h : m = 0 <;> simp [h]
  have epx : decide ((0 : Int) < (p.length : Int)) = decide (p ≠ []) := by cases p <;> simp
  obtain ⟨B, hB⟩ : ∃ B, Pi.argMay ⟨2, nx.data.toList, p, m, tx.data.toList⟩ = B := ⟨_, rfl⟩
  rw [hB]
  unfold Pi.argMay at hB
  simp only at hB
  by_cases ctx : tx.data.toList ≠ []
  · have htx : (tx.toList != []) = true := etx.trans (decide_eq_true ctx)
    have htx2 : (tx.toList == []) = false := by rw [bne] at htx; cases hh : (tx.toList == []) <;> simp_all
    have htx3 : tx.toList.isEmpty = false := by rw [← htx2]; cases tx.toList <;> rfl
    rw [if_pos (by simp [ctx])] at hB
    subst hB
    clear etx enx emx epx ctx
    go_enter Try.func26, Try.ntmps26
    go_wp2_with fail
    go_ret
    exact ⟨rfl, Pr.boxed _ _⟩
  have htx : (tx.toList != []) = false := etx.trans (decide_eq_false ctx)
  have htx2 : (tx.toList == []) = true := by rw [bne] at htx; cases hh : (tx.toList == []) <;> simp_all
  have htx3 : tx.toList.isEmpty = true := by rw [← htx2]; cases tx.toList <;> rfl
  by_cases cnx : nx.data.toList ≠ []
  · have hnx : (nx.toList != []) = true := enx.trans (decide_eq_true cnx)
    have hnx2 : (nx.toList == []) = false := by rw [bne] at hnx; cases hh : (nx.toList == []) <;> simp_all
    have hnx3 : nx.toList.isEmpty = false := by rw [← hnx2]; cases nx.toList <;> rfl
    rw [if_pos (by simp [cnx])] at hB
    subst hB
    clear etx enx emx epx ctx cnx
    go_enter Try.func26, Try.ntmps26
    go_wp2_with fail
    go_ret
    exact ⟨rfl, Pr.boxed _ _⟩
  have hnx : (nx.toList != []) = false := enx.trans (decide_eq_false cnx)
  have hnx2 : (nx.toList == []) = true := by rw [bne] at hnx; cases hh : (nx.toList == []) <;> simp_all
  have hnx3 : nx.toList.isEmpty = true := by rw [← hnx2]; cases nx.toList <;> rfl
  by_cases cpx : p ≠ []
  · have hpx : decide ((0 : Int) < (p.length : Int)) = true := epx.trans (decide_eq_true cpx)
    have hpx2 : decide (0 < p.length) = true := by rw [← hpx]; exact decide_eq_decide.2 (by omega)
    rw [if_pos (by simp [cpx])] at hB
    subst hB
    clear etx enx emx epx ctx cnx cpx
    go_enter Try.func26, Try.ntmps26
    go_wp2_with fail
    go_ret
    exact ⟨rfl, Pr.boxed _ _⟩
  have hpx : decide ((0 : Int) < (p.length : Int)) = false := epx.trans (decide_eq_false cpx)
  have hpx2 : decide (0 < p.length) = false := by rw [← hpx]; exact decide_eq_decide.2 (by omega)
  rw [if_neg (by simp at ctx cnx cpx; simp [ctx, cnx, cpx])] at hB
  rw [if_neg (by simp), if_neg (by simp), if_pos (by trivial)] at hB
  unfold Pi.small at hB
  by_cases s1 : -9007199254740991 ≤ m
  · have d1 : decide ((-9007199254740991 : Int) ≤ m) = true := decide_eq_true s1
    rw [d1] at hB
    have hB2 : decide (m ≤ 9007199254740991) = B := hB
    clear etx enx emx epx hB s1 _pm _nm ctx cnx cpx
    go_enter Try.func26, Try.ntmps26
    go_wp2_with fail
    go_ret
    exact ⟨by first | rfl | rw [← hB2] | (rw [hB2]), Pr.boxed _ _⟩
  · have d1 : decide ((-9007199254740991 : Int) ≤ m) = false := decide_eq_false s1
    rw [d1] at hB
    have hB2 : false = B := hB
    subst hB2
    clear etx enx emx epx hB s1 _pm _nm ctx cnx cpx
    go_enter Try.func26, Try.ntmps26
    go_wp2_with fail
    go_ret
    exact ⟨rfl, Pr.boxed _ _⟩
set_option maxRecDepth 100000 in
set_option maxHeartbeats 4000000 in
theorem Pr.argMay3 (nx tx : ByteArray) (p : List (List UInt8)) (m : Int) (a : Option Addr) (d : Nat) (w : World) (_pm : ∀ o, Calls Try.prog 33 #[.slice a p.length d] (w.alloc o) fun e w' => e = .returned (.bool (Pi.path p)) ∧ w' = w.alloc o) (_nm : ∀ u, Calls Try.prog 34 #[.string nx] u fun e w' => e = .returned (.bool (Pi.name nx.data.toList)) ∧ w' = u) :
    Calls Try.prog 26 #[.agg #[.int .i64 3, .string nx, .slice a p.length d, .int .i64 m, .string tx]] w fun e w' => e = .returned (.bool (Pi.argMay ⟨3, nx.data.toList, p, m, tx.data.toList⟩)) ∧ Below w.heap.size w w' := by
  have etx := Pi.ne_list tx
  have enx := Pi.ne_list nx
  have emx : (m != 0) = decide (m ≠ 0) := by by_cases h : m = 0 <;> simp [h]
  have epx : decide ((0 : Int) < (p.length : Int)) = decide (p ≠ []) := by cases p <;> simp
  obtain ⟨B, hB⟩ : ∃ B, Pi.argMay ⟨3, nx.data.toList, p, m, tx.data.toList⟩ = B := ⟨_, rfl⟩
  rw [hB]
  unfold Pi.argMay at hB
  simp only at hB
  by_cases cnx : nx.data.toList ≠ []
  · have hnx : (nx.toList != []) = true := enx.trans (decide_eq_true cnx)
    have hnx2 : (nx.toList == []) = false := by rw [bne] at hnx; cases hh : (nx.toList == []) <;> simp_all
    have hnx3 : nx.toList.isEmpty = false := by rw [← hnx2]; cases nx.toList <;> rfl
    rw [if_pos (by simp [cnx])] at hB
    subst hB
    clear etx enx emx epx cnx
    go_enter Try.func26, Try.ntmps26
    go_wp2_with fail
    go_ret
    exact ⟨rfl, Pr.boxed _ _⟩
  have hnx : (nx.toList != []) = false := enx.trans (decide_eq_false cnx)
  have hnx2 : (nx.toList == []) = true := by rw [bne] at hnx; cases hh : (nx.toList == []) <;> simp_all
  have hnx3 : nx.toList.isEmpty = true := by rw [← hnx2]; cases nx.toList <;> rfl
  by_cases cmx : m ≠ 0
  · have hmx : (m != 0) = true := emx.trans (decide_eq_true cmx)
    have hmx2 : (m == 0) = false := by rw [bne] at hmx; cases hh : (m == 0) <;> simp_all
    rw [if_pos (by simp [cmx])] at hB
    subst hB
    clear etx enx emx epx cnx cmx
    go_enter Try.func26, Try.ntmps26
    go_wp2_with fail
    go_ret
    exact ⟨rfl, Pr.boxed _ _⟩
  have hmx : (m != 0) = false := emx.trans (decide_eq_false cmx)
  have hmx2 : (m == 0) = true := by rw [bne] at hmx; cases hh : (m == 0) <;> simp_all
  by_cases cpx : p ≠ []
  · have hpx : decide ((0 : Int) < (p.length : Int)) = true := epx.trans (decide_eq_true cpx)
    have hpx2 : decide (0 < p.length) = true := by rw [← hpx]; exact decide_eq_decide.2 (by omega)
    rw [if_pos (by simp [cpx])] at hB
    subst hB
    clear etx enx emx epx cnx cmx cpx
    go_enter Try.func26, Try.ntmps26
    go_wp2_with fail
    go_ret
    exact ⟨rfl, Pr.boxed _ _⟩
  have hpx : decide ((0 : Int) < (p.length : Int)) = false := epx.trans (decide_eq_false cpx)
  have hpx2 : decide (0 < p.length) = false := by rw [← hpx]; exact decide_eq_decide.2 (by omega)
  rw [if_neg (by simp at cnx cmx cpx; simp [cnx, cmx, cpx])] at hB
  rw [if_neg (by simp), if_neg (by simp), if_neg (by simp), if_pos (by trivial), Wk.len_data] at hB
  have d1 : decide ((tx.size : Int) ≤ 65536) = B := by rw [← hB]; exact decide_eq_decide.2 (by omega)
  clear etx enx emx epx _pm _nm cnx cmx cpx
  go_enter Try.func26, Try.ntmps26
  go_wp2_with fail
  go_ret
  exact ⟨by first | rfl | rw [d1] | rw [hB], Pr.boxed _ _⟩
set_option maxRecDepth 100000 in
set_option maxHeartbeats 4000000 in
theorem Pr.argMay4 (nx tx : ByteArray) (p : List (List UInt8)) (m : Int) (a : Option Addr) (d : Nat) (w : World) (_pm : ∀ o, Calls Try.prog 33 #[.slice a p.length d] (w.alloc o) fun e w' => e = .returned (.bool (Pi.path p)) ∧ w' = w.alloc o) (_nm : ∀ u, Calls Try.prog 34 #[.string nx] u fun e w' => e = .returned (.bool (Pi.name nx.data.toList)) ∧ w' = u) :
    Calls Try.prog 26 #[.agg #[.int .i64 4, .string nx, .slice a p.length d, .int .i64 m, .string tx]] w fun e w' => e = .returned (.bool (Pi.argMay ⟨4, nx.data.toList, p, m, tx.data.toList⟩)) ∧ Below w.heap.size w w' := by
  have etx := Pi.ne_list tx
  have enx := Pi.ne_list nx
  have emx : (m != 0) = decide (m ≠ 0) := by by_cases h : m = 0 <;> simp [h]
  have epx : decide ((0 : Int) < (p.length : Int)) = decide (p ≠ []) := by cases p <;> simp
  obtain ⟨B, hB⟩ : ∃ B, Pi.argMay ⟨4, nx.data.toList, p, m, tx.data.toList⟩ = B := ⟨_, rfl⟩
  rw [hB]
  unfold Pi.argMay at hB
  simp only at hB
  by_cases ctx : tx.data.toList ≠ []
  · have htx : (tx.toList != []) = true := etx.trans (decide_eq_true ctx)
    have htx2 : (tx.toList == []) = false := by rw [bne] at htx; cases hh : (tx.toList == []) <;> simp_all
    have htx3 : tx.toList.isEmpty = false := by rw [← htx2]; cases tx.toList <;> rfl
    rw [if_pos (by simp [ctx])] at hB
    subst hB
    clear etx enx emx epx ctx
    go_enter Try.func26, Try.ntmps26
    go_wp2_with fail
    go_ret
    exact ⟨rfl, Pr.boxed _ _⟩
  have htx : (tx.toList != []) = false := etx.trans (decide_eq_false ctx)
  have htx2 : (tx.toList == []) = true := by rw [bne] at htx; cases hh : (tx.toList == []) <;> simp_all
  have htx3 : tx.toList.isEmpty = true := by rw [← htx2]; cases tx.toList <;> rfl
  by_cases cnx : nx.data.toList ≠ []
  · have hnx : (nx.toList != []) = true := enx.trans (decide_eq_true cnx)
    have hnx2 : (nx.toList == []) = false := by rw [bne] at hnx; cases hh : (nx.toList == []) <;> simp_all
    have hnx3 : nx.toList.isEmpty = false := by rw [← hnx2]; cases nx.toList <;> rfl
    rw [if_pos (by simp [cnx])] at hB
    subst hB
    clear etx enx emx epx ctx cnx
    go_enter Try.func26, Try.ntmps26
    go_wp2_with fail
    go_ret
    exact ⟨rfl, Pr.boxed _ _⟩
  have hnx : (nx.toList != []) = false := enx.trans (decide_eq_false cnx)
  have hnx2 : (nx.toList == []) = true := by rw [bne] at hnx; cases hh : (nx.toList == []) <;> simp_all
  have hnx3 : nx.toList.isEmpty = true := by rw [← hnx2]; cases nx.toList <;> rfl
  by_cases cpx : p ≠ []
  · have hpx : decide ((0 : Int) < (p.length : Int)) = true := epx.trans (decide_eq_true cpx)
    have hpx2 : decide (0 < p.length) = true := by rw [← hpx]; exact decide_eq_decide.2 (by omega)
    rw [if_pos (by simp [cpx])] at hB
    subst hB
    clear etx enx emx epx ctx cnx cpx
    go_enter Try.func26, Try.ntmps26
    go_wp2_with fail
    go_ret
    exact ⟨rfl, Pr.boxed _ _⟩
  have hpx : decide ((0 : Int) < (p.length : Int)) = false := epx.trans (decide_eq_false cpx)
  have hpx2 : decide (0 < p.length) = false := by rw [← hpx]; exact decide_eq_decide.2 (by omega)
  rw [if_neg (by simp at ctx cnx cpx; simp [ctx, cnx, cpx])] at hB
  rw [if_neg (by simp), if_neg (by simp), if_neg (by simp), if_neg (by simp), if_pos (by trivial)] at hB
  by_cases s0 : m = 0
  · subst s0
    have hB2 : true = B := hB
    subst hB2
    clear etx enx emx epx hB _pm _nm ctx cnx cpx
    go_enter Try.func26, Try.ntmps26
    go_wp2_with fail
    go_ret
    exact ⟨rfl, Pr.boxed _ _⟩
  · have d0 : (m == 0) = false := beq_eq_false_iff_ne.2 s0
    rw [decide_eq_false s0] at hB
    have hB2 : decide (m = 1) = B := hB
    have d1 : (m == 1) = B := by rw [← hB2]; by_cases q : m = 1 <;> simp [q]
    clear etx enx emx epx hB hB2 s0 _pm _nm ctx cnx cpx
    go_enter Try.func26, Try.ntmps26
    go_wp2_with fail
    go_ret
    exact ⟨by first | rfl | rw [d1], Pr.boxed _ _⟩
set_option maxRecDepth 100000 in
set_option maxHeartbeats 4000000 in
theorem Pr.argMay5 (nx tx : ByteArray) (p : List (List UInt8)) (m : Int) (a : Option Addr) (d : Nat) (w : World) (_pm : ∀ o, Calls Try.prog 33 #[.slice a p.length d] (w.alloc o) fun e w' => e = .returned (.bool (Pi.path p)) ∧ w' = w.alloc o) (_nm : ∀ u, Calls Try.prog 34 #[.string nx] u fun e w' => e = .returned (.bool (Pi.name nx.data.toList)) ∧ w' = u) :
    Calls Try.prog 26 #[.agg #[.int .i64 5, .string nx, .slice a p.length d, .int .i64 m, .string tx]] w fun e w' => e = .returned (.bool (Pi.argMay ⟨5, nx.data.toList, p, m, tx.data.toList⟩)) ∧ Below w.heap.size w w' := by
  have etx := Pi.ne_list tx
  have enx := Pi.ne_list nx
  have emx : (m != 0) = decide (m ≠ 0) := by by_cases h : m = 0 <;> simp [h]
  have epx : decide ((0 : Int) < (p.length : Int)) = decide (p ≠ []) := by cases p <;> simp
  obtain ⟨B, hB⟩ : ∃ B, Pi.argMay ⟨5, nx.data.toList, p, m, tx.data.toList⟩ = B := ⟨_, rfl⟩
  rw [hB]
  unfold Pi.argMay at hB
  simp only at hB
  by_cases ctx : tx.data.toList ≠ []
  · have htx : (tx.toList != []) = true := etx.trans (decide_eq_true ctx)
    have htx2 : (tx.toList == []) = false := by rw [bne] at htx; cases hh : (tx.toList == []) <;> simp_all
    have htx3 : tx.toList.isEmpty = false := by rw [← htx2]; cases tx.toList <;> rfl
    rw [if_pos (by simp [ctx])] at hB
    subst hB
    clear etx enx emx epx ctx
    go_enter Try.func26, Try.ntmps26
    go_wp2_with fail
    go_ret
    exact ⟨rfl, Pr.boxed _ _⟩
  have htx : (tx.toList != []) = false := etx.trans (decide_eq_false ctx)
  have htx2 : (tx.toList == []) = true := by rw [bne] at htx; cases hh : (tx.toList == []) <;> simp_all
  have htx3 : tx.toList.isEmpty = true := by rw [← htx2]; cases tx.toList <;> rfl
  by_cases cnx : nx.data.toList ≠ []
  · have hnx : (nx.toList != []) = true := enx.trans (decide_eq_true cnx)
    have hnx2 : (nx.toList == []) = false := by rw [bne] at hnx; cases hh : (nx.toList == []) <;> simp_all
    have hnx3 : nx.toList.isEmpty = false := by rw [← hnx2]; cases nx.toList <;> rfl
    rw [if_pos (by simp [cnx])] at hB
    subst hB
    clear etx enx emx epx ctx cnx
    go_enter Try.func26, Try.ntmps26
    go_wp2_with fail
    go_ret
    exact ⟨rfl, Pr.boxed _ _⟩
  have hnx : (nx.toList != []) = false := enx.trans (decide_eq_false cnx)
  have hnx2 : (nx.toList == []) = true := by rw [bne] at hnx; cases hh : (nx.toList == []) <;> simp_all
  have hnx3 : nx.toList.isEmpty = true := by rw [← hnx2]; cases nx.toList <;> rfl
  by_cases cmx : m ≠ 0
  · have hmx : (m != 0) = true := emx.trans (decide_eq_true cmx)
    have hmx2 : (m == 0) = false := by rw [bne] at hmx; cases hh : (m == 0) <;> simp_all
    rw [if_pos (by simp [cmx])] at hB
    subst hB
    clear etx enx emx epx ctx cnx cmx
    go_enter Try.func26, Try.ntmps26
    go_wp2_with fail
    go_ret
    exact ⟨rfl, Pr.boxed _ _⟩
  have hmx : (m != 0) = false := emx.trans (decide_eq_false cmx)
  have hmx2 : (m == 0) = true := by rw [bne] at hmx; cases hh : (m == 0) <;> simp_all
  by_cases cpx : p ≠ []
  · have hpx : decide ((0 : Int) < (p.length : Int)) = true := epx.trans (decide_eq_true cpx)
    have hpx2 : decide (0 < p.length) = true := by rw [← hpx]; exact decide_eq_decide.2 (by omega)
    rw [if_pos (by simp [cpx])] at hB
    subst hB
    clear etx enx emx epx ctx cnx cmx cpx
    go_enter Try.func26, Try.ntmps26
    go_wp2_with fail
    go_ret
    exact ⟨rfl, Pr.boxed _ _⟩
  have hpx : decide ((0 : Int) < (p.length : Int)) = false := epx.trans (decide_eq_false cpx)
  have hpx2 : decide (0 < p.length) = false := by rw [← hpx]; exact decide_eq_decide.2 (by omega)
  rw [if_neg (by simp at ctx cnx cmx cpx; simp [ctx, cnx, cmx, cpx])] at hB
  rw [if_pos (by simp)] at hB
  have pm := fun o => _pm o
  rw [hB] at pm
  clear etx enx emx epx hB _pm _nm ctx cnx cmx cpx
  go_enter Try.func26, Try.ntmps26
  go_wp2_with (go_at_call 33; refine (pm _).mono ?_; rintro e w1 ⟨rfl, hw⟩; have hw := hw.symm; subst hw)
  go_ret
  exact ⟨rfl, Pr.boxed _ _⟩
set_option maxRecDepth 100000 in
set_option maxHeartbeats 4000000 in
theorem Pr.argMayo (k : Int) (nx tx : ByteArray) (p : List (List UInt8)) (m : Int) (a : Option Addr) (d : Nat) (w : World) (k0 : k ≠ 0) (k1 : k ≠ 1) (k2 : k ≠ 2) (k3 : k ≠ 3) (k4 : k ≠ 4) (k5 : k ≠ 5) (_pm : ∀ o, Calls Try.prog 33 #[.slice a p.length d] (w.alloc o) fun e w' => e = .returned (.bool (Pi.path p)) ∧ w' = w.alloc o) (_nm : ∀ u, Calls Try.prog 34 #[.string nx] u fun e w' => e = .returned (.bool (Pi.name nx.data.toList)) ∧ w' = u) :
    Calls Try.prog 26 #[.agg #[.int .i64 k, .string nx, .slice a p.length d, .int .i64 m, .string tx]] w fun e w' => e = .returned (.bool (Pi.argMay ⟨k, nx.data.toList, p, m, tx.data.toList⟩)) ∧ Below w.heap.size w w' := by
  have etx := Pi.ne_list tx
  have enx := Pi.ne_list nx
  have emx : (m != 0) = decide (m ≠ 0) := by by_cases h : m = 0 <;> simp [h]
  have epx : decide ((0 : Int) < (p.length : Int)) = decide (p ≠ []) := by cases p <;> simp
  obtain ⟨B, hB⟩ : ∃ B, Pi.argMay ⟨k, nx.data.toList, p, m, tx.data.toList⟩ = B := ⟨_, rfl⟩
  rw [hB]
  unfold Pi.argMay at hB
  simp only at hB
  have q0 : (k == 0) = false := beq_eq_false_iff_ne.2 k0
  have q1 : (k == 1) = false := beq_eq_false_iff_ne.2 k1
  have q2 : (k == 2) = false := beq_eq_false_iff_ne.2 k2
  have q3 : (k == 3) = false := beq_eq_false_iff_ne.2 k3
  have q4 : (k == 4) = false := beq_eq_false_iff_ne.2 k4
  have q5 : (k == 5) = false := beq_eq_false_iff_ne.2 k5
  have r0 : (k != 0) = true := bne_iff_ne.2 k0
  have r1 : (k != 1) = true := bne_iff_ne.2 k1
  have r2 : (k != 2) = true := bne_iff_ne.2 k2
  have r3 : (k != 3) = true := bne_iff_ne.2 k3
  have r4 : (k != 4) = true := bne_iff_ne.2 k4
  by_cases ctx : tx.data.toList ≠ []
  · have htx : (tx.toList != []) = true := etx.trans (decide_eq_true ctx)
    have htx2 : (tx.toList == []) = false := by rw [bne] at htx; cases hh : (tx.toList == []) <;> simp_all
    have htx3 : tx.toList.isEmpty = false := by rw [← htx2]; cases tx.toList <;> rfl
    rw [if_pos (by simp [k0, k1, k2, k3, k4, ctx])] at hB
    subst hB
    clear etx enx emx epx ctx k0 k1 k2 k3 k4 k5
    go_enter Try.func26, Try.ntmps26
    go_wp2_with fail
    go_ret
    exact ⟨rfl, Pr.boxed _ _⟩
  have htx : (tx.toList != []) = false := etx.trans (decide_eq_false ctx)
  have htx2 : (tx.toList == []) = true := by rw [bne] at htx; cases hh : (tx.toList == []) <;> simp_all
  have htx3 : tx.toList.isEmpty = true := by rw [← htx2]; cases tx.toList <;> rfl
  by_cases cnx : nx.data.toList ≠ []
  · have hnx : (nx.toList != []) = true := enx.trans (decide_eq_true cnx)
    have hnx2 : (nx.toList == []) = false := by rw [bne] at hnx; cases hh : (nx.toList == []) <;> simp_all
    have hnx3 : nx.toList.isEmpty = false := by rw [← hnx2]; cases nx.toList <;> rfl
    rw [if_pos (by simp [k0, k1, k2, k3, k4, cnx])] at hB
    subst hB
    clear etx enx emx epx ctx cnx k0 k1 k2 k3 k4 k5
    go_enter Try.func26, Try.ntmps26
    go_wp2_with fail
    go_ret
    exact ⟨rfl, Pr.boxed _ _⟩
  have hnx : (nx.toList != []) = false := enx.trans (decide_eq_false cnx)
  have hnx2 : (nx.toList == []) = true := by rw [bne] at hnx; cases hh : (nx.toList == []) <;> simp_all
  have hnx3 : nx.toList.isEmpty = true := by rw [← hnx2]; cases nx.toList <;> rfl
  by_cases cmx : m ≠ 0
  · have hmx : (m != 0) = true := emx.trans (decide_eq_true cmx)
    have hmx2 : (m == 0) = false := by rw [bne] at hmx; cases hh : (m == 0) <;> simp_all
    rw [if_pos (by simp [k0, k1, k2, k3, k4, cmx])] at hB
    subst hB
    clear etx enx emx epx ctx cnx cmx k0 k1 k2 k3 k4 k5
    go_enter Try.func26, Try.ntmps26
    go_wp2_with fail
    go_ret
    exact ⟨rfl, Pr.boxed _ _⟩
  have hmx : (m != 0) = false := emx.trans (decide_eq_false cmx)
  have hmx2 : (m == 0) = true := by rw [bne] at hmx; cases hh : (m == 0) <;> simp_all
  by_cases cpx : p ≠ []
  · have hpx : decide ((0 : Int) < (p.length : Int)) = true := epx.trans (decide_eq_true cpx)
    have hpx2 : decide (0 < p.length) = true := by rw [← hpx]; exact decide_eq_decide.2 (by omega)
    rw [if_pos (by simp [k0, k1, k2, k3, k4, cpx])] at hB
    subst hB
    clear etx enx emx epx ctx cnx cmx cpx k0 k1 k2 k3 k4 k5
    go_enter Try.func26, Try.ntmps26
    go_wp2_with fail
    go_ret
    exact ⟨rfl, Pr.boxed _ _⟩
  have hpx : decide ((0 : Int) < (p.length : Int)) = false := epx.trans (decide_eq_false cpx)
  have hpx2 : decide (0 < p.length) = false := by rw [← hpx]; exact decide_eq_decide.2 (by omega)
  rw [if_neg (by simp at ctx cnx cmx cpx; simp [k0, k1, k2, k3, k4, ctx, cnx, cmx, cpx])] at hB
  rw [if_neg (by simp [k0, k5]), if_neg k1, if_neg k2, if_neg k3, if_neg k4] at hB
  subst hB
  clear etx enx emx epx _pm _nm ctx cnx cmx cpx k0 k1 k2 k3 k4 k5
  go_enter Try.func26, Try.ntmps26
  go_wp2_with fail
  go_ret
  exact ⟨rfl, Pr.boxed _ _⟩
theorem Pr.argMay (x : Ar) (v : Value) (R : Nat → Prop) (w : World) (h : St.Lies w R x.path v) (hz : ∀ t ∈ x.path, t.length ≤ 4611686018427387904) (hn : x.name.length ≤ 4611686018427387904) :
    Calls Try.prog 26 #[.agg #[.int .i64 x.kind, .string ⟨x.name.toArray⟩, v, .int .i64 x.num, .string ⟨x.text.toArray⟩]] w fun e w' => e = .returned (.bool (Pi.argMay x)) ∧ Below w.heap.size w w' := by
  obtain ⟨k, nx, p, m, tx⟩ := x
  have pm := fun o => Pr.path p v _ (w.alloc o) (h.boxed o) hz
  have nm := fun u => Pr.name ⟨nx.toArray⟩ u (by show nx.toArray.size ≤ _; rw [List.size_toArray]; exact hn)
  obtain ⟨a, d, rfl, _⟩ := h
  by_cases k0 : k = 0
  · subst k0; exact Pr.argMay0 ⟨nx.toArray⟩ ⟨tx.toArray⟩ p m a d w pm nm
  by_cases k1 : k = 1
  · subst k1; exact Pr.argMay1 ⟨nx.toArray⟩ ⟨tx.toArray⟩ p m a d w pm nm
  by_cases k2 : k = 2
  · subst k2; exact Pr.argMay2 ⟨nx.toArray⟩ ⟨tx.toArray⟩ p m a d w pm nm
  by_cases k3 : k = 3
  · subst k3; exact Pr.argMay3 ⟨nx.toArray⟩ ⟨tx.toArray⟩ p m a d w pm nm
  by_cases k4 : k = 4
  · subst k4; exact Pr.argMay4 ⟨nx.toArray⟩ ⟨tx.toArray⟩ p m a d w pm nm
  by_cases k5 : k = 5
  · subst k5; exact Pr.argMay5 ⟨nx.toArray⟩ ⟨tx.toArray⟩ p m a d w pm nm
  exact Pr.argMayo k ⟨nx.toArray⟩ ⟨tx.toArray⟩ p m a d w k0 k1 k2 k3 k4 k5 pm nm
end Go.Proofs.Ytjmobhohfcieoaa

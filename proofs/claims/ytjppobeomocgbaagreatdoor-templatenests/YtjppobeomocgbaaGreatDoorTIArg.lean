/-
  THE WALK of the reference's arg (gen15/genarg.py).
-/
import Derived.Test.YtjppobeomocgbaaGreatDoorTOPlaintoIArgMay
import Derived.BigRegion
import Derived.Deep.RegionHeld3
namespace Go.Proofs.YtjppobeomocgbaaGreatDoor
open Go.RowKit
theorem St.Lies.later {w u : World} {R : Nat → Prop} {ts : List (List UInt8)} {v : Value} (h : St.Lies w R ts v) (hb : Below w.heap.size w u) : St.Lies u (fun _ => True) ts v := by
  obtain ⟨a, d, e, h1, h2, hx⟩ := h
  refine ⟨a, d, e, h1, h2, fun i t hi => ?_⟩
  obtain ⟨b, q, ea, _, c0⟩ := hx i t hi
  exact ⟨b, q, ea, trivial, Tp.keep hb c0⟩
theorem Pr.boxed2 (w : World) (o q : Obj) : Below w.heap.size w ((w.alloc o).alloc q) := (Pr.boxed w o).alloc (by simp) q
/-- an operation that is taken first, its slot said out -/
theorem Pr.take {P : Program} {ops : Array Oper} {Q : Exit → Act → World → Prop} {md : Region.Mode} {S : World → Prop} {i : Nat} {oi : Oper} {v : Value} {fuel : Nat} {listed : Array Bool} {tmps : Array Value} {w : World} (k : Nat) (hi : ops[i]? = some oi) (hk : oi.dst = some k)
    (hs : Region.noSelect ops = true) (hf : Region.free md ops listed i = true) (hr : (Region.ready md ops listed).contains i = true)
    (hQ : ∀ c a w, Q (.panic c) (a.put oi.dst v) w → Q (.panic c) a w) (hy : YieldsIf P ops S oi v ⟨tmps, []⟩) (hS : S w)
    (h : wpAnyH P md ops Q S fuel (listed.setIfInBounds i true) ⟨tmps.setIfInBounds k v, []⟩ w) : wpAnyH P md ops Q S (fuel + 1) listed ⟨tmps, []⟩ w :=
  wpAnyH_take hi hs hf hr hQ hy hS (by rw [hk]; exact h)
theorem Pi.len0 (p : List (List UInt8)) : ((p.length : Int) == 0) = p.isEmpty := by cases p <;> simp <;> omega
theorem Pi.isEmpty_list (s : ByteArray) : s.toList.isEmpty = s.data.toList.isEmpty := by rw [ByteArray.toList_eq]
theorem Pi.beq_nil (s : ByteArray) : (s.toList == []) = s.data.toList.isEmpty := by rw [ByteArray.toList_eq]; cases s.data.toList <;> rfl
set_option maxRecDepth 100000 in
set_option maxHeartbeats 4000000 in
theorem Pr.arg1a (tx : ByteArray) (p : List (List UInt8)) (m : Int) (a : Option Addr) (d : Nat) (w : World) (_htx : tx.toList.isEmpty = false) (_htx2 : (tx.toList == []) = false) :
    Calls Tryz.prog 143 #[.agg #[.int .i64 1, .string tx, .slice a p.length d, .int .i64 m]] w fun e w' => e = .returned (.tuple #[.agg #[.int .i64 0, .string ⟨#[]⟩, .slice a p.length d, .int .i64 0, .string ⟨#[]⟩], .bool false]) ∧ Below w.heap.size w w' := by
  go_enter Tryz.func143, Tryz.ntmps143
  go_wp2_with fail
  go_region
  go_wp2_with fail
  refine bodyPost_ret (v := .tuple #[.agg #[.int .i64 0, .string ⟨#[]⟩, .slice a p.length d, .int .i64 0, .string ⟨#[]⟩], .bool false]) (by simp [results, Tryz.results143, go_sem]) rfl ?_
  exact ⟨rfl, by first | exact Pr.boxed2 _ _ _ | exact (Pr.boxed2 _ _ _).drew⟩
set_option maxRecDepth 100000 in
set_option maxHeartbeats 4000000 in
theorem Pr.arg1b (tx : ByteArray) (p : List (List UInt8)) (m : Int) (a : Option Addr) (d : Nat) (w : World) (_htx : tx.toList.isEmpty = true) (_htx2 : (tx.toList == []) = true) (_hm : (m == 0) = false) (_hm2 : (m != 0) = true) :
    Calls Tryz.prog 143 #[.agg #[.int .i64 1, .string tx, .slice a p.length d, .int .i64 m]] w fun e w' => e = .returned (.tuple #[.agg #[.int .i64 0, .string ⟨#[]⟩, .slice a p.length d, .int .i64 0, .string ⟨#[]⟩], .bool false]) ∧ Below w.heap.size w w' := by
  go_enter Tryz.func143, Tryz.ntmps143
  go_wp2_with fail
  go_region
  go_wp2_with fail
  refine bodyPost_ret (v := .tuple #[.agg #[.int .i64 0, .string ⟨#[]⟩, .slice a p.length d, .int .i64 0, .string ⟨#[]⟩], .bool false]) (by simp [results, Tryz.results143, go_sem]) rfl ?_
  exact ⟨rfl, by first | exact Pr.boxed2 _ _ _ | exact (Pr.boxed2 _ _ _).drew⟩
set_option maxRecDepth 100000 in
set_option maxHeartbeats 4000000 in
theorem Pr.arg1c (tx : ByteArray) (p : List (List UInt8)) (m : Int) (a : Option Addr) (d : Nat) (w : World) (B : Bool) (_htx : tx.toList.isEmpty = true) (_htx2 : (tx.toList == []) = true) (_hm : (m == 0) = true) (_hm2 : (m != 0) = false) (pm : ∀ u, Below w.heap.size w u → Calls Tryz.prog 164 #[.slice a p.length d] u fun e w' => e = .returned (.bool B) ∧ w' = u) :
    Calls Tryz.prog 143 #[.agg #[.int .i64 1, .string tx, .slice a p.length d, .int .i64 m]] w fun e w' => e = .returned (.tuple #[.agg #[.int .i64 0, .string ⟨#[]⟩, .slice a p.length d, .int .i64 0, .string ⟨#[]⟩], .bool B]) ∧ Below w.heap.size w w' := by
  go_enter Tryz.func143, Tryz.ntmps143
  go_wp2_with fail
  go_region_held3 (fun u => u.cell? ⟨w.heap.size, 1, none⟩ = some (.string tx) ∧ u.cell? ⟨w.heap.size, 2, none⟩ = some (.slice a p.length d) ∧ u.cell? ⟨w.heap.size, 3, none⟩ = some (.int .i64 m)) (go_keep) (first | (go_at_call 164; refine (pm _ (by first | exact Pr.boxed2 _ _ _ | exact (Pr.boxed2 _ _ _).drew)).mono ?_; rintro e w1 ⟨rfl, hw⟩; have hw := hw.symm; subst hw))
  all_goals
    go_wp2_with fail
    refine bodyPost_ret (v := .tuple #[.agg #[.int .i64 0, .string ⟨#[]⟩, .slice a p.length d, .int .i64 0, .string ⟨#[]⟩], .bool B]) (by simp [results, Tryz.results143, go_sem]) rfl ?_
    exact ⟨rfl, by first | exact Pr.boxed2 _ _ _ | exact (Pr.boxed2 _ _ _).drew⟩
set_option maxRecDepth 100000 in
set_option maxHeartbeats 4000000 in
theorem Pr.arg2a (tx : ByteArray) (p : List (List UInt8)) (m : Int) (a : Option Addr) (d : Nat) (w : World) (_hm : (m == 0) = false) (_hm2 : (m != 0) = true) :
    Calls Tryz.prog 143 #[.agg #[.int .i64 2, .string tx, .slice a p.length d, .int .i64 m]] w fun e w' => e = .returned (.tuple #[.agg #[.int .i64 1, .string tx, .slice a p.length d, .int .i64 0, .string ⟨#[]⟩], .bool false]) ∧ Below w.heap.size w w' := by
  go_enter Tryz.func143, Tryz.ntmps143
  go_wp2_with fail
  go_region
  go_wp2_with fail
  refine bodyPost_ret (v := .tuple #[.agg #[.int .i64 1, .string tx, .slice a p.length d, .int .i64 0, .string ⟨#[]⟩], .bool false]) (by simp [results, Tryz.results143, go_sem]) rfl ?_
  exact ⟨rfl, by first | exact Pr.boxed2 _ _ _ | exact (Pr.boxed2 _ _ _).drew⟩
set_option maxRecDepth 100000 in
set_option maxHeartbeats 4000000 in
theorem Pr.arg2b (tx : ByteArray) (p : List (List UInt8)) (m : Int) (a : Option Addr) (d : Nat) (w : World) (_hm : (m == 0) = true) (_hm2 : (m != 0) = false) (nm : ∀ u, Calls Tryz.prog 165 #[.string tx] u fun e w' => e = .returned (.bool false) ∧ w' = u) :
    Calls Tryz.prog 143 #[.agg #[.int .i64 2, .string tx, .slice a p.length d, .int .i64 m]] w fun e w' => e = .returned (.tuple #[.agg #[.int .i64 1, .string tx, .slice a p.length d, .int .i64 0, .string ⟨#[]⟩], .bool false]) ∧ Below w.heap.size w w' := by
  go_enter Tryz.func143, Tryz.ntmps143
  go_wp2_with fail
  refine wp_region_held_drew (S := (fun u => u.cell? ⟨w.heap.size, 1, none⟩ = some (.string tx) ∧ u.cell? ⟨w.heap.size, 2, none⟩ = some (.slice a p.length d) ∧ u.cell? ⟨w.heap.size, 3, none⟩ = some (.int .i64 m))) (by kernel_rfl) (by go_keep) (fun hHeld => ?_)
  refine Pr.take (i := 0) (v := (.pointer (some ⟨w.heap.size, 1, none⟩))) 26 rfl rfl (by kernel_rfl) (by kernel_rfl) (by kernel_rfl) (fun _ _ _ h => h) (Or.inl ⟨by rfl, ?_⟩) (by assumption) ?_
  · intro w9 hSw
    go_simp
  simp only [List.setIfInBounds_toArray, List.set_cons_zero, List.set_cons_succ]
  refine Pr.take (i := 1) (v := .string tx) 27 rfl rfl (by kernel_rfl) (by kernel_rfl) (by kernel_rfl) (fun _ _ _ h => h) (Or.inl ⟨by rfl, ?_⟩) (by assumption) ?_
  · intro w9 hSw
    go_simp
  simp only [List.setIfInBounds_toArray, List.set_cons_zero, List.set_cons_succ]
  refine Pr.take (i := 2) (v := (.pointer (some ⟨w.heap.size, 2, none⟩))) 28 rfl rfl (by kernel_rfl) (by kernel_rfl) (by kernel_rfl) (fun _ _ _ h => h) (Or.inl ⟨by rfl, ?_⟩) (by assumption) ?_
  · intro w9 hSw
    go_simp
  simp only [List.setIfInBounds_toArray, List.set_cons_zero, List.set_cons_succ]
  refine Pr.take (i := 3) (v := .slice a p.length d) 29 rfl rfl (by kernel_rfl) (by kernel_rfl) (by kernel_rfl) (fun _ _ _ h => h) (Or.inl ⟨by rfl, ?_⟩) (by assumption) ?_
  · intro w9 hSw
    go_simp
  simp only [List.setIfInBounds_toArray, List.set_cons_zero, List.set_cons_succ]
  refine Pr.take (i := 4) (v := .agg #[.int .i64 1, .string tx, .slice a p.length d, .int .i64 0, .string ⟨#[]⟩]) 30 rfl rfl (by kernel_rfl) (by kernel_rfl) (by kernel_rfl) (fun _ _ _ h => h) (Or.inl ⟨by rfl, ?_⟩) (by assumption) ?_
  · intro w9 hSw
    go_simp
  simp only [List.setIfInBounds_toArray, List.set_cons_zero, List.set_cons_succ]
  refine Pr.take (i := 5) (v := (.pointer (some ⟨w.heap.size, 3, none⟩))) 31 rfl rfl (by kernel_rfl) (by kernel_rfl) (by kernel_rfl) (fun _ _ _ h => h) (Or.inl ⟨by rfl, ?_⟩) (by assumption) ?_
  · intro w9 hSw
    go_simp
  simp only [List.setIfInBounds_toArray, List.set_cons_zero, List.set_cons_succ]
  refine Pr.take (i := 6) (v := .int .i64 m) 32 rfl rfl (by kernel_rfl) (by kernel_rfl) (by kernel_rfl) (fun _ _ _ h => h) (Or.inl ⟨by rfl, ?_⟩) (by assumption) ?_
  · intro w9 hSw
    go_simp
  simp only [List.setIfInBounds_toArray, List.set_cons_zero, List.set_cons_succ]
  refine Pr.take (i := 7) (v := .bool true) 33 rfl rfl (by kernel_rfl) (by kernel_rfl) (by kernel_rfl) (fun _ _ _ h => h) (Or.inl ⟨by rfl, ?_⟩) (by assumption) ?_
  · intro w9 hSw
    go_simp
  simp only [List.setIfInBounds_toArray, List.set_cons_zero, List.set_cons_succ]
  refine Pr.take (i := 8) (v := .bool true) 34 rfl rfl (by kernel_rfl) (by kernel_rfl) (by kernel_rfl) (fun _ _ _ h => h) (Or.inl ⟨by rfl, ?_⟩) (by assumption) ?_
  · intro w9 hSw
    go_simp
  simp only [List.setIfInBounds_toArray, List.set_cons_zero, List.set_cons_succ]
  refine Pr.take (i := 9) (v := (.pointer (some ⟨w.heap.size, 1, none⟩))) 35 rfl rfl (by kernel_rfl) (by kernel_rfl) (by kernel_rfl) (fun _ _ _ h => h) (Or.inl ⟨by rfl, ?_⟩) (by assumption) ?_
  · intro w9 hSw
    go_simp
  simp only [List.setIfInBounds_toArray, List.set_cons_zero, List.set_cons_succ]
  refine Pr.take (i := 10) (v := .string tx) 36 rfl rfl (by kernel_rfl) (by kernel_rfl) (by kernel_rfl) (fun _ _ _ h => h) (Or.inl ⟨by rfl, ?_⟩) (by assumption) ?_
  · intro w9 hSw
    go_simp
  simp only [List.setIfInBounds_toArray, List.set_cons_zero, List.set_cons_succ]
  refine wpAnyH_ready (rs := [11]) (by kernel_rfl) (by simp) ?_
  refine AllReadyH.cons rfl (fun K hK => ?_) AllReadyH.nil
  rw [if_pos (by rfl)]
  go_simp
  go_at_call 165
  refine (nm _).mono ?_
  rintro e w1 ⟨rfl, hw⟩
  have hw := hw.symm
  subst hw
  go_wp2
  refine hK.out _ _ (by go_keep) (fun hHeld => ?_)
  clear hK K
  refine Pr.take (i := 12) (v := .bool false) 38 rfl rfl (by kernel_rfl) (by kernel_rfl) (by kernel_rfl) (fun _ _ _ h => h) (Or.inl ⟨by rfl, ?_⟩) (by assumption) ?_
  · intro w9 hSw
    go_simp
  simp only [List.setIfInBounds_toArray, List.set_cons_zero, List.set_cons_succ]
  refine Pr.take (i := 13) (v := .bool false) 39 rfl rfl (by kernel_rfl) (by kernel_rfl) (by kernel_rfl) (fun _ _ _ h => h) (Or.inl ⟨by rfl, ?_⟩) (by assumption) ?_
  · intro w9 hSw
    go_simp
  simp only [List.setIfInBounds_toArray, List.set_cons_zero, List.set_cons_succ]
  refine Pr.take (i := 14) (v := undef) 40 rfl rfl (by kernel_rfl) (by kernel_rfl) (by kernel_rfl) (fun _ _ _ h => h) (Or.inr ⟨by rfl, rfl⟩) (by assumption) ?_
  simp only [List.setIfInBounds_toArray, List.set_cons_zero, List.set_cons_succ]
  refine Pr.take (i := 15) (v := undef) 41 rfl rfl (by kernel_rfl) (by kernel_rfl) (by kernel_rfl) (fun _ _ _ h => h) (Or.inr ⟨by rfl, rfl⟩) (by assumption) ?_
  simp only [List.setIfInBounds_toArray, List.set_cons_zero, List.set_cons_succ]
  refine Pr.take (i := 16) (v := undef) 42 rfl rfl (by kernel_rfl) (by kernel_rfl) (by kernel_rfl) (fun _ _ _ h => h) (Or.inr ⟨by rfl, rfl⟩) (by assumption) ?_
  simp only [List.setIfInBounds_toArray, List.set_cons_zero, List.set_cons_succ]
  refine Pr.take (i := 17) (v := .bool false) 43 rfl rfl (by kernel_rfl) (by kernel_rfl) (by kernel_rfl) (fun _ _ _ h => h) (Or.inl ⟨by rfl, ?_⟩) (by assumption) ?_
  · intro w9 hSw
    go_simp
  simp only [List.setIfInBounds_toArray, List.set_cons_zero, List.set_cons_succ]
  refine wpAnyH_ready (rs := [18]) (by kernel_rfl) (by simp) ?_
  refine AllReadyH.cons rfl (fun K hK => ?_) AllReadyH.nil
  rw [if_pos (by rfl)]
  go_simp
  refine hK.out _ _ (by go_keep) (fun hHeld => ?_)
  clear hK K
  refine Pr.take (i := 19) (v := .bool false) 3 rfl rfl (by kernel_rfl) (by kernel_rfl) (by kernel_rfl) (fun _ _ _ h => h) (Or.inl ⟨by rfl, ?_⟩) (by assumption) ?_
  · intro w9 hSw
    go_simp
  simp only [List.setIfInBounds_toArray, List.set_cons_zero, List.set_cons_succ]
  refine wpAnyH_done (by kernel_rfl) ?_ _
  go_wp2_with fail
  refine bodyPost_ret (v := .tuple #[.agg #[.int .i64 1, .string tx, .slice a p.length d, .int .i64 0, .string ⟨#[]⟩], .bool false]) (by simp [results, Tryz.results143, go_sem]) rfl ?_
  exact ⟨rfl, by first | exact Pr.boxed2 _ _ _ | exact (Pr.boxed2 _ _ _).drew⟩
set_option maxRecDepth 100000 in
set_option maxHeartbeats 4000000 in
theorem Pr.arg2c (tx : ByteArray) (p : List (List UInt8)) (m : Int) (a : Option Addr) (d : Nat) (w : World) (B : Bool) (_hm : (m == 0) = true) (_hm2 : (m != 0) = false) (nm : ∀ u, Calls Tryz.prog 165 #[.string tx] u fun e w' => e = .returned (.bool true) ∧ w' = u) (pm : ∀ u, Below w.heap.size w u → Calls Tryz.prog 164 #[.slice a p.length d] u fun e w' => e = .returned (.bool B) ∧ w' = u) :
    Calls Tryz.prog 143 #[.agg #[.int .i64 2, .string tx, .slice a p.length d, .int .i64 m]] w fun e w' => e = .returned (.tuple #[.agg #[.int .i64 1, .string tx, .slice a p.length d, .int .i64 0, .string ⟨#[]⟩], .bool B]) ∧ Below w.heap.size w w' := by
  go_enter Tryz.func143, Tryz.ntmps143
  go_wp2_with fail
  go_region_held3 (fun u => u.cell? ⟨w.heap.size, 1, none⟩ = some (.string tx) ∧ u.cell? ⟨w.heap.size, 2, none⟩ = some (.slice a p.length d) ∧ u.cell? ⟨w.heap.size, 3, none⟩ = some (.int .i64 m)) (go_keep) (first | (go_at_call 165; refine (nm _).mono ?_; rintro e w1 ⟨rfl, hw⟩; have hw := hw.symm; subst hw) | (go_at_call 164; refine (pm _ (by first | exact Pr.boxed2 _ _ _ | exact (Pr.boxed2 _ _ _).drew)).mono ?_; rintro e w1 ⟨rfl, hw⟩; have hw := hw.symm; subst hw))
  all_goals
    go_wp2_with fail
    refine bodyPost_ret (v := .tuple #[.agg #[.int .i64 1, .string tx, .slice a p.length d, .int .i64 0, .string ⟨#[]⟩], .bool B]) (by simp [results, Tryz.results143, go_sem]) rfl ?_
    exact ⟨rfl, by first | exact Pr.boxed2 _ _ _ | exact (Pr.boxed2 _ _ _).drew⟩
set_option maxRecDepth 100000 in
set_option maxHeartbeats 4000000 in
theorem Pr.arg3a (tx : ByteArray) (p : List (List UInt8)) (m : Int) (a : Option Addr) (d : Nat) (w : World) (_htx : tx.toList.isEmpty = false) (_htx2 : (tx.toList == []) = false) :
    Calls Tryz.prog 143 #[.agg #[.int .i64 3, .string tx, .slice a p.length d, .int .i64 m]] w fun e w' => e = .returned (.tuple #[.agg #[.int .i64 2, .string ⟨#[]⟩, .slice none 0 0, .int .i64 m, .string ⟨#[]⟩], .bool false]) ∧ Below w.heap.size w w' := by
  go_enter Tryz.func143, Tryz.ntmps143
  go_wp2_with fail
  go_region
  go_wp2_with fail
  refine bodyPost_ret (v := .tuple #[.agg #[.int .i64 2, .string ⟨#[]⟩, .slice none 0 0, .int .i64 m, .string ⟨#[]⟩], .bool false]) (by simp [results, Tryz.results143, go_sem]) rfl ?_
  exact ⟨rfl, by first | exact Pr.boxed2 _ _ _ | exact (Pr.boxed2 _ _ _).drew⟩
set_option maxRecDepth 100000 in
set_option maxHeartbeats 4000000 in
theorem Pr.arg3b (tx : ByteArray) (p : List (List UInt8)) (m : Int) (a : Option Addr) (d : Nat) (w : World) (_htx : tx.toList.isEmpty = true) (_htx2 : (tx.toList == []) = true) (_hp : ((p.length : Int) == 0) = false) (_hp2 : ((p.length : Int) != 0) = true) :
    Calls Tryz.prog 143 #[.agg #[.int .i64 3, .string tx, .slice a p.length d, .int .i64 m]] w fun e w' => e = .returned (.tuple #[.agg #[.int .i64 2, .string ⟨#[]⟩, .slice none 0 0, .int .i64 m, .string ⟨#[]⟩], .bool false]) ∧ Below w.heap.size w w' := by
  go_enter Tryz.func143, Tryz.ntmps143
  go_wp2_with fail
  go_region
  go_wp2_with fail
  refine bodyPost_ret (v := .tuple #[.agg #[.int .i64 2, .string ⟨#[]⟩, .slice none 0 0, .int .i64 m, .string ⟨#[]⟩], .bool false]) (by simp [results, Tryz.results143, go_sem]) rfl ?_
  exact ⟨rfl, by first | exact Pr.boxed2 _ _ _ | exact (Pr.boxed2 _ _ _).drew⟩
set_option maxRecDepth 100000 in
set_option maxHeartbeats 4000000 in
theorem Pr.arg3c (tx : ByteArray) (p : List (List UInt8)) (m : Int) (a : Option Addr) (d : Nat) (w : World) (_htx : tx.toList.isEmpty = true) (_htx2 : (tx.toList == []) = true) (_hp : ((p.length : Int) == 0) = true) (_hp2 : ((p.length : Int) != 0) = false) (_s1 : decide ((-9007199254740991 : Int) ≤ m) = false) :
    Calls Tryz.prog 143 #[.agg #[.int .i64 3, .string tx, .slice a p.length d, .int .i64 m]] w fun e w' => e = .returned (.tuple #[.agg #[.int .i64 2, .string ⟨#[]⟩, .slice none 0 0, .int .i64 m, .string ⟨#[]⟩], .bool false]) ∧ Below w.heap.size w w' := by
  go_enter Tryz.func143, Tryz.ntmps143
  go_wp2_with fail
  go_region
  go_wp2_with fail
  refine bodyPost_ret (v := .tuple #[.agg #[.int .i64 2, .string ⟨#[]⟩, .slice none 0 0, .int .i64 m, .string ⟨#[]⟩], .bool false]) (by simp [results, Tryz.results143, go_sem]) rfl ?_
  exact ⟨rfl, by first | exact Pr.boxed2 _ _ _ | exact (Pr.boxed2 _ _ _).drew⟩
set_option maxRecDepth 100000 in
set_option maxHeartbeats 4000000 in
theorem Pr.arg3d (tx : ByteArray) (p : List (List UInt8)) (m : Int) (a : Option Addr) (d : Nat) (w : World) (B : Bool) (_htx : tx.toList.isEmpty = true) (_htx2 : (tx.toList == []) = true) (_hp : ((p.length : Int) == 0) = true) (_hp2 : ((p.length : Int) != 0) = false) (_s1 : decide ((-9007199254740991 : Int) ≤ m) = true) (_s2 : decide (m ≤ (9007199254740991 : Int)) = B) :
    Calls Tryz.prog 143 #[.agg #[.int .i64 3, .string tx, .slice a p.length d, .int .i64 m]] w fun e w' => e = .returned (.tuple #[.agg #[.int .i64 2, .string ⟨#[]⟩, .slice none 0 0, .int .i64 m, .string ⟨#[]⟩], .bool B]) ∧ Below w.heap.size w w' := by
  go_enter Tryz.func143, Tryz.ntmps143
  go_wp2_with fail
  go_region
  go_wp2_with fail
  refine bodyPost_ret (v := .tuple #[.agg #[.int .i64 2, .string ⟨#[]⟩, .slice none 0 0, .int .i64 m, .string ⟨#[]⟩], .bool B]) (by simp [results, Tryz.results143, go_sem]) rfl ?_
  exact ⟨rfl, by first | exact Pr.boxed2 _ _ _ | exact (Pr.boxed2 _ _ _).drew⟩
set_option maxRecDepth 100000 in
set_option maxHeartbeats 4000000 in
theorem Pr.arg4a (tx : ByteArray) (p : List (List UInt8)) (m : Int) (a : Option Addr) (d : Nat) (w : World) (_hm : (m == 0) = false) (_hm2 : (m != 0) = true) :
    Calls Tryz.prog 143 #[.agg #[.int .i64 4, .string tx, .slice a p.length d, .int .i64 m]] w fun e w' => e = .returned (.tuple #[.agg #[.int .i64 3, .string ⟨#[]⟩, .slice none 0 0, .int .i64 0, .string tx], .bool false]) ∧ Below w.heap.size w w' := by
  go_enter Tryz.func143, Tryz.ntmps143
  go_wp2_with fail
  go_region
  go_wp2_with fail
  refine bodyPost_ret (v := .tuple #[.agg #[.int .i64 3, .string ⟨#[]⟩, .slice none 0 0, .int .i64 0, .string tx], .bool false]) (by simp [results, Tryz.results143, go_sem]) rfl ?_
  exact ⟨rfl, by first | exact Pr.boxed2 _ _ _ | exact (Pr.boxed2 _ _ _).drew⟩
set_option maxRecDepth 100000 in
set_option maxHeartbeats 4000000 in
theorem Pr.arg4b (tx : ByteArray) (p : List (List UInt8)) (m : Int) (a : Option Addr) (d : Nat) (w : World) (_hm : (m == 0) = true) (_hm2 : (m != 0) = false) (_hp : ((p.length : Int) == 0) = false) (_hp2 : ((p.length : Int) != 0) = true) :
    Calls Tryz.prog 143 #[.agg #[.int .i64 4, .string tx, .slice a p.length d, .int .i64 m]] w fun e w' => e = .returned (.tuple #[.agg #[.int .i64 3, .string ⟨#[]⟩, .slice none 0 0, .int .i64 0, .string tx], .bool false]) ∧ Below w.heap.size w w' := by
  go_enter Tryz.func143, Tryz.ntmps143
  go_wp2_with fail
  go_region
  go_wp2_with fail
  refine bodyPost_ret (v := .tuple #[.agg #[.int .i64 3, .string ⟨#[]⟩, .slice none 0 0, .int .i64 0, .string tx], .bool false]) (by simp [results, Tryz.results143, go_sem]) rfl ?_
  exact ⟨rfl, by first | exact Pr.boxed2 _ _ _ | exact (Pr.boxed2 _ _ _).drew⟩
set_option maxRecDepth 100000 in
set_option maxHeartbeats 4000000 in
theorem Pr.arg4c (tx : ByteArray) (p : List (List UInt8)) (m : Int) (a : Option Addr) (d : Nat) (w : World) (B : Bool) (_hm : (m == 0) = true) (_hm2 : (m != 0) = false) (_hp : ((p.length : Int) == 0) = true) (_hp2 : ((p.length : Int) != 0) = false) (_s2 : decide ((tx.size : Int) ≤ 65536) = B) :
    Calls Tryz.prog 143 #[.agg #[.int .i64 4, .string tx, .slice a p.length d, .int .i64 m]] w fun e w' => e = .returned (.tuple #[.agg #[.int .i64 3, .string ⟨#[]⟩, .slice none 0 0, .int .i64 0, .string tx], .bool B]) ∧ Below w.heap.size w w' := by
  go_enter Tryz.func143, Tryz.ntmps143
  go_wp2_with fail
  go_region
  go_wp2_with fail
  refine bodyPost_ret (v := .tuple #[.agg #[.int .i64 3, .string ⟨#[]⟩, .slice none 0 0, .int .i64 0, .string tx], .bool B]) (by simp [results, Tryz.results143, go_sem]) rfl ?_
  exact ⟨rfl, by first | exact Pr.boxed2 _ _ _ | exact (Pr.boxed2 _ _ _).drew⟩
set_option maxRecDepth 100000 in
set_option maxHeartbeats 4000000 in
theorem Pr.argOa (k : Int) (tx : ByteArray) (p : List (List UInt8)) (m : Int) (a : Option Addr) (d : Nat) (w : World) (_q1 : (k == 1) = false) (_q2 : (k == 2) = false) (_q3 : (k == 3) = false) (_q4 : (k == 4) = false) (_q0 : (k == 0) = false) (_r0 : (k != 0) = true) :
    Calls Tryz.prog 143 #[.agg #[.int .i64 k, .string tx, .slice a p.length d, .int .i64 m]] w fun e w' => e = .returned (.tuple #[.agg #[.int .i64 0, .string ⟨#[]⟩, .slice none 0 0, .int .i64 0, .string ⟨#[]⟩], .bool false]) ∧ Below w.heap.size w w' := by
  go_enter Tryz.func143, Tryz.ntmps143
  go_wp2_with fail
  refine bodyPost_ret (v := .tuple #[.agg #[.int .i64 0, .string ⟨#[]⟩, .slice none 0 0, .int .i64 0, .string ⟨#[]⟩], .bool false]) (by simp [results, Tryz.results143, go_sem]) rfl ?_
  exact ⟨rfl, by first | exact Pr.boxed2 _ _ _ | exact (Pr.boxed2 _ _ _).drew⟩
set_option maxRecDepth 100000 in
set_option maxHeartbeats 4000000 in
theorem Pr.argOb (tx : ByteArray) (p : List (List UInt8)) (m : Int) (a : Option Addr) (d : Nat) (w : World) (_hm : (m == 0) = false) (_hm2 : (m != 0) = true) :
    Calls Tryz.prog 143 #[.agg #[.int .i64 0, .string tx, .slice a p.length d, .int .i64 m]] w fun e w' => e = .returned (.tuple #[.agg #[.int .i64 0, .string ⟨#[]⟩, .slice none 0 0, .int .i64 0, .string ⟨#[]⟩], .bool false]) ∧ Below w.heap.size w w' := by
  go_enter Tryz.func143, Tryz.ntmps143
  go_wp2_with fail
  refine bodyPost_ret (v := .tuple #[.agg #[.int .i64 0, .string ⟨#[]⟩, .slice none 0 0, .int .i64 0, .string ⟨#[]⟩], .bool false]) (by simp [results, Tryz.results143, go_sem]) rfl ?_
  exact ⟨rfl, by first | exact Pr.boxed2 _ _ _ | exact (Pr.boxed2 _ _ _).drew⟩
set_option maxRecDepth 100000 in
set_option maxHeartbeats 4000000 in
theorem Pr.argOc (tx : ByteArray) (p : List (List UInt8)) (m : Int) (a : Option Addr) (d : Nat) (w : World) (_hm : (m == 0) = true) (_hm2 : (m != 0) = false) (_hp : ((p.length : Int) == 0) = false) (_hp2 : ((p.length : Int) != 0) = true) :
    Calls Tryz.prog 143 #[.agg #[.int .i64 0, .string tx, .slice a p.length d, .int .i64 m]] w fun e w' => e = .returned (.tuple #[.agg #[.int .i64 0, .string ⟨#[]⟩, .slice none 0 0, .int .i64 0, .string ⟨#[]⟩], .bool false]) ∧ Below w.heap.size w w' := by
  go_enter Tryz.func143, Tryz.ntmps143
  go_wp2_with fail
  refine bodyPost_ret (v := .tuple #[.agg #[.int .i64 0, .string ⟨#[]⟩, .slice none 0 0, .int .i64 0, .string ⟨#[]⟩], .bool false]) (by simp [results, Tryz.results143, go_sem]) rfl ?_
  exact ⟨rfl, by first | exact Pr.boxed2 _ _ _ | exact (Pr.boxed2 _ _ _).drew⟩
set_option maxRecDepth 100000 in
set_option maxHeartbeats 4000000 in
theorem Pr.argOd (tx : ByteArray) (p : List (List UInt8)) (m : Int) (a : Option Addr) (d : Nat) (w : World) (_hm : (m == 0) = true) (_hm2 : (m != 0) = false) (_hp : ((p.length : Int) == 0) = true) (_hp2 : ((p.length : Int) != 0) = false) (_e1 : (tx.toList == [116, 114, 117, 101]) = true) :
    Calls Tryz.prog 143 #[.agg #[.int .i64 0, .string tx, .slice a p.length d, .int .i64 m]] w fun e w' => e = .returned (.tuple #[.agg #[.int .i64 4, .string ⟨#[]⟩, .slice none 0 0, .int .i64 1, .string ⟨#[]⟩], .bool true]) ∧ Below w.heap.size w w' := by
  go_enter Tryz.func143, Tryz.ntmps143
  go_wp2_with fail
  refine bodyPost_ret (v := .tuple #[.agg #[.int .i64 4, .string ⟨#[]⟩, .slice none 0 0, .int .i64 1, .string ⟨#[]⟩], .bool true]) (by simp [results, Tryz.results143, go_sem]) rfl ?_
  exact ⟨rfl, by first | exact Pr.boxed2 _ _ _ | exact (Pr.boxed2 _ _ _).drew⟩
set_option maxRecDepth 100000 in
set_option maxHeartbeats 4000000 in
theorem Pr.argOe (tx : ByteArray) (p : List (List UInt8)) (m : Int) (a : Option Addr) (d : Nat) (w : World) (_hm : (m == 0) = true) (_hm2 : (m != 0) = false) (_hp : ((p.length : Int) == 0) = true) (_hp2 : ((p.length : Int) != 0) = false) (_e1 : (tx.toList == [116, 114, 117, 101]) = false) (_e2 : (tx.toList == [102, 97, 108, 115, 101]) = true) :
    Calls Tryz.prog 143 #[.agg #[.int .i64 0, .string tx, .slice a p.length d, .int .i64 m]] w fun e w' => e = .returned (.tuple #[.agg #[.int .i64 4, .string ⟨#[]⟩, .slice none 0 0, .int .i64 0, .string ⟨#[]⟩], .bool true]) ∧ Below w.heap.size w w' := by
  go_enter Tryz.func143, Tryz.ntmps143
  go_wp2_with fail
  refine bodyPost_ret (v := .tuple #[.agg #[.int .i64 4, .string ⟨#[]⟩, .slice none 0 0, .int .i64 0, .string ⟨#[]⟩], .bool true]) (by simp [results, Tryz.results143, go_sem]) rfl ?_
  exact ⟨rfl, by first | exact Pr.boxed2 _ _ _ | exact (Pr.boxed2 _ _ _).drew⟩
set_option maxRecDepth 100000 in
set_option maxHeartbeats 4000000 in
theorem Pr.argOf (tx : ByteArray) (p : List (List UInt8)) (m : Int) (a : Option Addr) (d : Nat) (w : World) (B : Bool) (_hm : (m == 0) = true) (_hm2 : (m != 0) = false) (_hp : ((p.length : Int) == 0) = true) (_hp2 : ((p.length : Int) != 0) = false) (_e1 : (tx.toList == [116, 114, 117, 101]) = false) (_e2 : (tx.toList == [102, 97, 108, 115, 101]) = false) (_e3 : (tx.toList == [110, 117, 108, 108]) = B) :
    Calls Tryz.prog 143 #[.agg #[.int .i64 0, .string tx, .slice a p.length d, .int .i64 m]] w fun e w' => e = .returned (.tuple #[.agg #[.int .i64 5, .string ⟨#[]⟩, .slice none 0 0, .int .i64 0, .string ⟨#[]⟩], .bool B]) ∧ Below w.heap.size w w' := by
  go_enter Tryz.func143, Tryz.ntmps143
  go_wp2_with fail
  go_region
  go_wp2_with fail
  refine bodyPost_ret (v := .tuple #[.agg #[.int .i64 5, .string ⟨#[]⟩, .slice none 0 0, .int .i64 0, .string ⟨#[]⟩], .bool B]) (by simp [results, Tryz.results143, go_sem]) rfl ?_
  exact ⟨rfl, by first | exact Pr.boxed2 _ _ _ | exact (Pr.boxed2 _ _ _).drew⟩
end Go.Proofs.YtjppobeomocgbaaGreatDoor

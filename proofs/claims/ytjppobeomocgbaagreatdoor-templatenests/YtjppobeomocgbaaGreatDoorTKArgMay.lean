/-
  THE WALKS of the landed isFunction, isPath, isArgument (gen15/genkarg.py).
-/
import Derived.Test.YtjppobeomocgbaaGreatDoorTGDatatoGCopy
import Derived.Test.YtjppobeomocgbaaGreatDoorTKNames
namespace Go.Proofs.YtjppobeomocgbaaGreatDoor
open Go.RowKit
set_option maxRecDepth 100000 in
set_option maxHeartbeats 2000000 in
theorem Kf.fn (s : ByteArray) (w : World) : Calls Tryz.prog 162 #[.string s] w fun e w' => e = .returned (.bool (Pi.isFn s.data.toList)) ∧ w' = w := by
  rw [Pi.isFn_eq]
  cases t0 : (s.toList == [108, 101, 110]) with
  | true =>
    go_enter Tryz.func162, Tryz.ntmps162
    go_wp2_with fail
    go_ret
    exact ⟨rfl, rfl⟩
  | false =>
    cases t1 : (s.toList == [105, 110, 100, 101, 120]) with
    | true =>
      go_enter Tryz.func162, Tryz.ntmps162
      go_wp2_with fail
      go_ret
      exact ⟨rfl, rfl⟩
    | false =>
      cases t2 : (s.toList == [101, 113]) with
      | true =>
        go_enter Tryz.func162, Tryz.ntmps162
        go_wp2_with fail
        go_ret
        exact ⟨rfl, rfl⟩
      | false =>
        cases t3 : (s.toList == [108, 116]) with
        | true =>
          go_enter Tryz.func162, Tryz.ntmps162
          go_wp2_with fail
          go_ret
          exact ⟨rfl, rfl⟩
        | false =>
          cases t4 : (s.toList == [110, 111, 116]) with
          | true =>
            go_enter Tryz.func162, Tryz.ntmps162
            go_wp2_with fail
            go_ret
            exact ⟨rfl, rfl⟩
          | false =>
            cases t5 : (s.toList == [97, 110, 100]) with
            | true =>
              go_enter Tryz.func162, Tryz.ntmps162
              go_wp2_with fail
              go_ret
              exact ⟨rfl, rfl⟩
            | false =>
              cases t6 : (s.toList == [111, 114]) with
              | true =>
                go_enter Tryz.func162, Tryz.ntmps162
                go_wp2_with fail
                go_ret
                exact ⟨rfl, rfl⟩
              | false =>
                cases t7 : (s.toList == [99, 97, 116]) with
                | true =>
                  go_enter Tryz.func162, Tryz.ntmps162
                  go_wp2_with fail
                  go_ret
                  exact ⟨rfl, rfl⟩
                | false =>
                  go_enter Tryz.func162, Tryz.ntmps162
                  go_wp2_with fail
                  go_ret
                  exact ⟨rfl, rfl⟩
set_option maxRecDepth 100000 in
set_option maxHeartbeats 2000000 in
theorem Kf.path (p : List (List UInt8)) (v : Value) (R : Nat → Prop) (w : World) (h : St.Lies w R p v) (hz : ∀ t ∈ p, t.length ≤ 4611686018427387904) : Calls Tryz.prog 170 #[v] w fun e w' => e = .returned (.bool (Pi.path p)) ∧ w' = w := by
  obtain ⟨a, d, rfl, hd, hm, hx⟩ := h
  have hml : p.length ≤ 9223372036854775807 := by unfold maxLen at hm; omega
  obtain ⟨B, hB⟩ : ∃ B, Pi.path p = B := ⟨_, rfl⟩
  rw [hB]
  unfold Pi.path at hB
  have HX := Lib.hid hx
  have HZ := Lib.hid hz
  clear hx hz hm
  by_cases h8 : p.length ≤ 8
  · have d8 : decide ((8 : Int) < (p.length : Int)) = false := decide_eq_false (by omega)
    rw [decide_eq_true h8, Bool.and_true] at hB
    have HB := Lib.hid hB
    clear hB h8
    go_enter Tryz.func170, Tryz.ntmps170
    go_wp2_with fail
    go_loopw [10] (fun iv wr => ∃ i : Nat, i ≤ p.length ∧ iv = .int .i64 (i : Int) ∧ Hid ((p.drop i).all Pi.name = B) ∧ wr = w) (fun iv _ => p.length - (intOf iv).toNat)
    case atStart => exact ⟨0, Nat.zero_le _, rfl, HB, rfl⟩
    case round =>
      clear HB
      obtain ⟨i, hi, rfl, HS, hw⟩ := hrel
      have hw := hw.symm
      subst hw
      by_cases hlt : i < p.length
      · have d1 : decide ((i : Int) < (p.length : Int)) = true := decide_eq_true (by omega)
        have hid : i < d := by omega
        obtain ⟨b, o, rfl, _, c⟩ := HX.out i p[i] (List.getElem?_eq_getElem hlt)
        have nm := fun u => Kn.is ⟨p[i].toArray⟩ u (by show p[i].toArray.size ≤ _; rw [List.size_toArray]; exact HZ.out _ (List.getElem_mem hlt))
        have hst := (Pi.all_step hlt).symm.trans HS.out
        have e1 : (⟨p[i].toArray⟩ : ByteArray).data.toList = p[i] := rfl
        rw [e1] at nm
        clear HS HX HZ e1
        generalize (⟨p[i].toArray⟩ : ByteArray) = y at *
        obtain ⟨q, hq⟩ : ∃ q, Pi.name p[i] = q := ⟨_, rfl⟩
        rw [hq] at nm hst
        clear hq
        cases q with
        | true =>
          have HN : Hid ((p.drop (i + 1)).all Pi.name = B) := hst
          clear hst
          go_wp2_with (go_at_call 158; refine (nm _).mono ?_; rintro e w' ⟨rfl, hw⟩; have hw := hw.symm; subst hw)
          go_roundw
          case rel => exact ⟨i + 1, by omega, by go_num, HN, by first | rfl | trivial⟩
          case measure => simp [intOf]; omega
        | false =>
          have hB : false = B := hst
          subst hB
          clear hst
          go_wp2_with (go_at_call 158; refine (nm _).mono ?_; rintro e w' ⟨rfl, hw⟩; have hw := hw.symm; subst hw)
          go_ret
          exact ⟨rfl, rfl⟩
      · have d1 : decide ((i : Int) < (p.length : Int)) = false := decide_eq_false (by omega)
        have hB : true = B := by
          rw [← HS.out, List.drop_of_length_le (by omega)]
          rfl
        subst hB
        clear HS HX HZ
        go_wp2_with fail
        go_ret
        exact ⟨rfl, rfl⟩
  · have d8 : decide ((8 : Int) < (p.length : Int)) = true := decide_eq_true (by omega)
    rw [decide_eq_false h8, Bool.and_false] at hB
    subst hB
    clear HX HZ h8
    go_enter Tryz.func170, Tryz.ntmps170
    go_wp2_with fail
    go_ret
    exact ⟨rfl, rfl⟩
theorem Kf.may0 (n : List UInt8) (p : List (List UInt8)) (m : Int) (t : List UInt8) : Pi.argMay ⟨0, n, p, m, t⟩ = (Pi.path p && (n.isEmpty && (decide (m = 0) && t.isEmpty))) := by
  unfold Pi.argMay
  simp only
  cases n with
  | cons => simp
  | nil =>
    cases t with
    | cons => simp
    | nil =>
      by_cases hm : m = 0 <;> simp [hm]
theorem Kf.may1 (n : List UInt8) (p : List (List UInt8)) (m : Int) (t : List UInt8) : Pi.argMay ⟨1, n, p, m, t⟩ = ((Pi.name n && Pi.path p) && (decide (m = 0) && t.isEmpty)) := by
  unfold Pi.argMay
  simp only
  cases t with
  | cons => simp
  | nil =>
    by_cases hm : m = 0 <;> simp [hm]
theorem Kf.may2 (n : List UInt8) (p : List (List UInt8)) (m : Int) (t : List UInt8) : Pi.argMay ⟨2, n, p, m, t⟩ = (Pi.small m && (n.isEmpty && (p.isEmpty && t.isEmpty))) := by
  unfold Pi.argMay
  simp only
  cases n with
  | cons => simp
  | nil =>
    cases p with
    | cons => simp
    | nil =>
      cases t with
      | cons => simp
      | nil =>
        simp
theorem Kf.may3 (n : List UInt8) (p : List (List UInt8)) (m : Int) (t : List UInt8) : Pi.argMay ⟨3, n, p, m, t⟩ = (decide (t.length ≤ 65536) && (n.isEmpty && (p.isEmpty && decide (m = 0)))) := by
  unfold Pi.argMay
  simp only
  cases n with
  | cons => simp
  | nil =>
    cases p with
    | cons => simp
    | nil =>
      by_cases hm : m = 0 <;> simp [hm]
theorem Kf.may4 (n : List UInt8) (p : List (List UInt8)) (m : Int) (t : List UInt8) : Pi.argMay ⟨4, n, p, m, t⟩ = ((decide (m = 0) || decide (m = 1)) && (n.isEmpty && (p.isEmpty && t.isEmpty))) := by
  unfold Pi.argMay
  simp only
  cases n with
  | cons => simp
  | nil =>
    cases p with
    | cons => simp
    | nil =>
      cases t with
      | cons => simp
      | nil =>
        simp
theorem Kf.may5 (n : List UInt8) (p : List (List UInt8)) (m : Int) (t : List UInt8) : Pi.argMay ⟨5, n, p, m, t⟩ = (n.isEmpty && (p.isEmpty && (decide (m = 0) && t.isEmpty))) := by
  unfold Pi.argMay
  simp only
  cases n with
  | cons => simp
  | nil =>
    cases p with
    | cons => simp
    | nil =>
      cases t with
      | cons => simp
      | nil =>
        by_cases hm : m = 0 <;> simp [hm, Pi.path]
theorem Kf.mayo (k : Int) (n : List UInt8) (p : List (List UInt8)) (m : Int) (t : List UInt8) (k0 : k ≠ 0) (k1 : k ≠ 1) (k2 : k ≠ 2) (k3 : k ≠ 3) (k4 : k ≠ 4) (k5 : k ≠ 5) : Pi.argMay ⟨k, n, p, m, t⟩ = false := by
  unfold Pi.argMay
  simp [k0, k1, k2, k3, k4, k5]
set_option maxRecDepth 100000 in
set_option maxHeartbeats 4000000 in
theorem Kf.arg0 (nx tx : ByteArray) (p : List (List UInt8)) (m : Int) (a : Option Addr) (d : Nat) (w : World) (_pm : ∀ o, Calls Tryz.prog 170 #[.slice a p.length d] (w.alloc o) fun e w' => e = .returned (.bool (Pi.path p)) ∧ w' = w.alloc o) (_nm : ∀ u, Calls Tryz.prog 158 #[.string nx] u fun e w' => e = .returned (.bool (Pi.name nx.data.toList)) ∧ w' = u) :
    Calls Tryz.prog 163 #[.agg #[.int .i64 0, .string nx, .slice a p.length d, .int .i64 m, .string tx]] w fun e w' => e = .returned (.bool (Pi.argMay ⟨0, nx.data.toList, p, m, tx.data.toList⟩)) ∧ Below w.heap.size w w' := by
  have en : ∀ b, nx.data.toList.isEmpty = b → nx.toList.isEmpty = b ∧ (nx.toList == []) = b := fun b h => ⟨(Pi.isEmpty_list _).trans h, (Pi.beq_nil _).trans h⟩
  have et : ∀ b, tx.data.toList.isEmpty = b → tx.toList.isEmpty = b ∧ (tx.toList == []) = b := fun b h => ⟨(Pi.isEmpty_list _).trans h, (Pi.beq_nil _).trans h⟩
  have em : ∀ b, decide (m = 0) = b → (m == 0) = b := fun b h => by rw [← h]; by_cases q : m = 0 <;> simp [q]
  have ep : ∀ b, p.isEmpty = b → ((p.length : Int) == 0) = b := fun b h => (Pi.len0 p).trans h
  have ez : (tx.size : Int) = (tx.data.toList.length : Int) := by rw [Wk.len_data]
  rw [Kf.may0]
  obtain ⟨f, hf⟩ : ∃ f, Pi.path p = f := ⟨_, rfl⟩
  rw [hf] at _pm ⊢
  clear hf ez
  cases f with
  | false =>
    clear en et em ep
    go_enter Tryz.func163, Tryz.ntmps163
    go_wp2_with (go_at_call 170; refine (_pm _).mono ?_; rintro e w1 ⟨rfl, hw⟩; have hw := hw.symm; subst hw)
    go_ret
    exact ⟨rfl, Pr.boxed _ _⟩
  | true =>
    cases hn : nx.data.toList.isEmpty with
    | false =>
      obtain ⟨n1, n2⟩ := en _ hn
      clear en et em ep
      go_enter Tryz.func163, Tryz.ntmps163
      go_wp2_with (go_at_call 170; refine (_pm _).mono ?_; rintro e w1 ⟨rfl, hw⟩; have hw := hw.symm; subst hw)
      go_ret
      exact ⟨rfl, Pr.boxed _ _⟩
    | true =>
      obtain ⟨n1, n2⟩ := en _ hn
      cases hm : decide (m = 0) with
      | false =>
        have m1 := em _ hm
        clear en et em ep
        go_enter Tryz.func163, Tryz.ntmps163
        go_wp2_with (go_at_call 170; refine (_pm _).mono ?_; rintro e w1 ⟨rfl, hw⟩; have hw := hw.symm; subst hw)
        go_ret
        exact ⟨rfl, Pr.boxed _ _⟩
      | true =>
        have m1 := em _ hm
        cases ht : tx.data.toList.isEmpty with
        | false =>
          obtain ⟨t1, t2⟩ := et _ ht
          clear en et em ep
          go_enter Tryz.func163, Tryz.ntmps163
          go_wp2_with (go_at_call 170; refine (_pm _).mono ?_; rintro e w1 ⟨rfl, hw⟩; have hw := hw.symm; subst hw)
          go_ret
          exact ⟨rfl, Pr.boxed _ _⟩
        | true =>
          obtain ⟨t1, t2⟩ := et _ ht
          clear en et em ep
          go_enter Tryz.func163, Tryz.ntmps163
          go_wp2_with (go_at_call 170; refine (_pm _).mono ?_; rintro e w1 ⟨rfl, hw⟩; have hw := hw.symm; subst hw)
          go_ret
          exact ⟨rfl, Pr.boxed _ _⟩
set_option maxRecDepth 100000 in
set_option maxHeartbeats 4000000 in
theorem Kf.arg1 (nx tx : ByteArray) (p : List (List UInt8)) (m : Int) (a : Option Addr) (d : Nat) (w : World) (_pm : ∀ o, Calls Tryz.prog 170 #[.slice a p.length d] (w.alloc o) fun e w' => e = .returned (.bool (Pi.path p)) ∧ w' = w.alloc o) (_nm : ∀ u, Calls Tryz.prog 158 #[.string nx] u fun e w' => e = .returned (.bool (Pi.name nx.data.toList)) ∧ w' = u) :
    Calls Tryz.prog 163 #[.agg #[.int .i64 1, .string nx, .slice a p.length d, .int .i64 m, .string tx]] w fun e w' => e = .returned (.bool (Pi.argMay ⟨1, nx.data.toList, p, m, tx.data.toList⟩)) ∧ Below w.heap.size w w' := by
  have en : ∀ b, nx.data.toList.isEmpty = b → nx.toList.isEmpty = b ∧ (nx.toList == []) = b := fun b h => ⟨(Pi.isEmpty_list _).trans h, (Pi.beq_nil _).trans h⟩
  have et : ∀ b, tx.data.toList.isEmpty = b → tx.toList.isEmpty = b ∧ (tx.toList == []) = b := fun b h => ⟨(Pi.isEmpty_list _).trans h, (Pi.beq_nil _).trans h⟩
  have em : ∀ b, decide (m = 0) = b → (m == 0) = b := fun b h => by rw [← h]; by_cases q : m = 0 <;> simp [q]
  have ep : ∀ b, p.isEmpty = b → ((p.length : Int) == 0) = b := fun b h => (Pi.len0 p).trans h
  have ez : (tx.size : Int) = (tx.data.toList.length : Int) := by rw [Wk.len_data]
  rw [Kf.may1]
  obtain ⟨f, hf⟩ : ∃ f, Pi.name nx.data.toList = f := ⟨_, rfl⟩
  rw [hf] at _nm ⊢
  obtain ⟨q, hq⟩ : ∃ q, Pi.path p = q := ⟨_, rfl⟩
  rw [hq] at _pm ⊢
  clear hf hq ez
  cases f with
  | false =>
    clear en et em ep
    go_enter Tryz.func163, Tryz.ntmps163
    go_wp2_with (go_at_call 158; refine (_nm _).mono ?_; rintro e w1 ⟨rfl, hw⟩; have hw := hw.symm; subst hw)
    go_ret
    exact ⟨rfl, Pr.boxed _ _⟩
  | true =>
    cases q with
    | false =>
      clear en et em ep
      go_enter Tryz.func163, Tryz.ntmps163
      go_wp2_with (first | (go_at_call 158; refine (_nm _).mono ?_; rintro e w1 ⟨rfl, hw⟩; have hw := hw.symm; subst hw) | (go_at_call 170; refine (_pm _).mono ?_; rintro e w1 ⟨rfl, hw⟩; have hw := hw.symm; subst hw))
      go_ret
      exact ⟨rfl, Pr.boxed _ _⟩
    | true =>
      cases hm : decide (m = 0) with
      | false =>
        have m1 := em _ hm
        clear en et em ep
        go_enter Tryz.func163, Tryz.ntmps163
        go_wp2_with (first | (go_at_call 158; refine (_nm _).mono ?_; rintro e w1 ⟨rfl, hw⟩; have hw := hw.symm; subst hw) | (go_at_call 170; refine (_pm _).mono ?_; rintro e w1 ⟨rfl, hw⟩; have hw := hw.symm; subst hw))
        go_ret
        exact ⟨rfl, Pr.boxed _ _⟩
      | true =>
        have m1 := em _ hm
        cases ht : tx.data.toList.isEmpty with
        | false =>
          obtain ⟨t1, t2⟩ := et _ ht
          clear en et em ep
          go_enter Tryz.func163, Tryz.ntmps163
          go_wp2_with (first | (go_at_call 158; refine (_nm _).mono ?_; rintro e w1 ⟨rfl, hw⟩; have hw := hw.symm; subst hw) | (go_at_call 170; refine (_pm _).mono ?_; rintro e w1 ⟨rfl, hw⟩; have hw := hw.symm; subst hw))
          go_ret
          exact ⟨rfl, Pr.boxed _ _⟩
        | true =>
          obtain ⟨t1, t2⟩ := et _ ht
          clear en et em ep
          go_enter Tryz.func163, Tryz.ntmps163
          go_wp2_with (first | (go_at_call 158; refine (_nm _).mono ?_; rintro e w1 ⟨rfl, hw⟩; have hw := hw.symm; subst hw) | (go_at_call 170; refine (_pm _).mono ?_; rintro e w1 ⟨rfl, hw⟩; have hw := hw.symm; subst hw))
          go_ret
          exact ⟨rfl, Pr.boxed _ _⟩
set_option maxRecDepth 100000 in
set_option maxHeartbeats 4000000 in
theorem Kf.arg2 (nx tx : ByteArray) (p : List (List UInt8)) (m : Int) (a : Option Addr) (d : Nat) (w : World) (_pm : ∀ o, Calls Tryz.prog 170 #[.slice a p.length d] (w.alloc o) fun e w' => e = .returned (.bool (Pi.path p)) ∧ w' = w.alloc o) (_nm : ∀ u, Calls Tryz.prog 158 #[.string nx] u fun e w' => e = .returned (.bool (Pi.name nx.data.toList)) ∧ w' = u) :
    Calls Tryz.prog 163 #[.agg #[.int .i64 2, .string nx, .slice a p.length d, .int .i64 m, .string tx]] w fun e w' => e = .returned (.bool (Pi.argMay ⟨2, nx.data.toList, p, m, tx.data.toList⟩)) ∧ Below w.heap.size w w' := by
  have en : ∀ b, nx.data.toList.isEmpty = b → nx.toList.isEmpty = b ∧ (nx.toList == []) = b := fun b h => ⟨(Pi.isEmpty_list _).trans h, (Pi.beq_nil _).trans h⟩
  have et : ∀ b, tx.data.toList.isEmpty = b → tx.toList.isEmpty = b ∧ (tx.toList == []) = b := fun b h => ⟨(Pi.isEmpty_list _).trans h, (Pi.beq_nil _).trans h⟩
  have em : ∀ b, decide (m = 0) = b → (m == 0) = b := fun b h => by rw [← h]; by_cases q : m = 0 <;> simp [q]
  have ep : ∀ b, p.isEmpty = b → ((p.length : Int) == 0) = b := fun b h => (Pi.len0 p).trans h
  have ez : (tx.size : Int) = (tx.data.toList.length : Int) := by rw [Wk.len_data]
  rw [Kf.may2]
  clear ez _pm _nm
  unfold Pi.small
  cases s1 : decide ((-9007199254740991 : Int) ≤ m) with
  | false =>
    clear en et em ep
    go_enter Tryz.func163, Tryz.ntmps163
    go_wp2_with fail
    go_ret
    exact ⟨rfl, Pr.boxed _ _⟩
  | true =>
    cases s2 : decide (m ≤ (9007199254740991 : Int)) with
    | false =>
      clear en et em ep
      go_enter Tryz.func163, Tryz.ntmps163
      go_wp2_with fail
      go_ret
      exact ⟨rfl, Pr.boxed _ _⟩
    | true =>
      cases hn : nx.data.toList.isEmpty with
      | false =>
        obtain ⟨n1, n2⟩ := en _ hn
        clear en et em ep
        go_enter Tryz.func163, Tryz.ntmps163
        go_wp2_with fail
        go_ret
        exact ⟨rfl, Pr.boxed _ _⟩
      | true =>
        obtain ⟨n1, n2⟩ := en _ hn
        cases hp : p.isEmpty with
        | false =>
          have p1 := ep _ hp
          clear en et em ep
          go_enter Tryz.func163, Tryz.ntmps163
          go_wp2_with fail
          go_ret
          exact ⟨rfl, Pr.boxed _ _⟩
        | true =>
          have p1 := ep _ hp
          cases ht : tx.data.toList.isEmpty with
          | false =>
            obtain ⟨t1, t2⟩ := et _ ht
            clear en et em ep
            go_enter Tryz.func163, Tryz.ntmps163
            go_wp2_with fail
            go_ret
            exact ⟨rfl, Pr.boxed _ _⟩
          | true =>
            obtain ⟨t1, t2⟩ := et _ ht
            clear en et em ep
            go_enter Tryz.func163, Tryz.ntmps163
            go_wp2_with fail
            go_ret
            exact ⟨rfl, Pr.boxed _ _⟩
set_option maxRecDepth 100000 in
set_option maxHeartbeats 4000000 in
theorem Kf.arg3 (nx tx : ByteArray) (p : List (List UInt8)) (m : Int) (a : Option Addr) (d : Nat) (w : World) (_pm : ∀ o, Calls Tryz.prog 170 #[.slice a p.length d] (w.alloc o) fun e w' => e = .returned (.bool (Pi.path p)) ∧ w' = w.alloc o) (_nm : ∀ u, Calls Tryz.prog 158 #[.string nx] u fun e w' => e = .returned (.bool (Pi.name nx.data.toList)) ∧ w' = u) :
    Calls Tryz.prog 163 #[.agg #[.int .i64 3, .string nx, .slice a p.length d, .int .i64 m, .string tx]] w fun e w' => e = .returned (.bool (Pi.argMay ⟨3, nx.data.toList, p, m, tx.data.toList⟩)) ∧ Below w.heap.size w w' := by
  have en : ∀ b, nx.data.toList.isEmpty = b → nx.toList.isEmpty = b ∧ (nx.toList == []) = b := fun b h => ⟨(Pi.isEmpty_list _).trans h, (Pi.beq_nil _).trans h⟩
  have et : ∀ b, tx.data.toList.isEmpty = b → tx.toList.isEmpty = b ∧ (tx.toList == []) = b := fun b h => ⟨(Pi.isEmpty_list _).trans h, (Pi.beq_nil _).trans h⟩
  have em : ∀ b, decide (m = 0) = b → (m == 0) = b := fun b h => by rw [← h]; by_cases q : m = 0 <;> simp [q]
  have ep : ∀ b, p.isEmpty = b → ((p.length : Int) == 0) = b := fun b h => (Pi.len0 p).trans h
  have ez : (tx.size : Int) = (tx.data.toList.length : Int) := by rw [Wk.len_data]
  rw [Kf.may3]
  clear _pm _nm
  have es : ∀ b, decide (tx.data.toList.length ≤ 65536) = b → decide ((tx.size : Int) ≤ 65536) = b := fun b h => by rw [← h, ez]; exact decide_eq_decide.2 (by omega)
  cases hs : decide (tx.data.toList.length ≤ 65536) with
  | false =>
    have s1 := es _ hs
    clear en et em ep es ez hs
    go_enter Tryz.func163, Tryz.ntmps163
    go_wp2_with fail
    go_ret
    exact ⟨rfl, Pr.boxed _ _⟩
  | true =>
    have s1 := es _ hs
    clear es ez hs
    cases hn : nx.data.toList.isEmpty with
    | false =>
      obtain ⟨n1, n2⟩ := en _ hn
      clear en et em ep
      go_enter Tryz.func163, Tryz.ntmps163
      go_wp2_with fail
      go_ret
      exact ⟨rfl, Pr.boxed _ _⟩
    | true =>
      obtain ⟨n1, n2⟩ := en _ hn
      cases hp : p.isEmpty with
      | false =>
        have p1 := ep _ hp
        clear en et em ep
        go_enter Tryz.func163, Tryz.ntmps163
        go_wp2_with fail
        go_ret
        exact ⟨rfl, Pr.boxed _ _⟩
      | true =>
        have p1 := ep _ hp
        cases hm : decide (m = 0) with
        | false =>
          have m1 := em _ hm
          clear en et em ep
          go_enter Tryz.func163, Tryz.ntmps163
          go_wp2_with fail
          go_ret
          exact ⟨rfl, Pr.boxed _ _⟩
        | true =>
          have m1 := em _ hm
          clear en et em ep
          go_enter Tryz.func163, Tryz.ntmps163
          go_wp2_with fail
          go_ret
          exact ⟨rfl, Pr.boxed _ _⟩
set_option maxRecDepth 100000 in
set_option maxHeartbeats 4000000 in
theorem Kf.arg4 (nx tx : ByteArray) (p : List (List UInt8)) (m : Int) (a : Option Addr) (d : Nat) (w : World) (_pm : ∀ o, Calls Tryz.prog 170 #[.slice a p.length d] (w.alloc o) fun e w' => e = .returned (.bool (Pi.path p)) ∧ w' = w.alloc o) (_nm : ∀ u, Calls Tryz.prog 158 #[.string nx] u fun e w' => e = .returned (.bool (Pi.name nx.data.toList)) ∧ w' = u) :
    Calls Tryz.prog 163 #[.agg #[.int .i64 4, .string nx, .slice a p.length d, .int .i64 m, .string tx]] w fun e w' => e = .returned (.bool (Pi.argMay ⟨4, nx.data.toList, p, m, tx.data.toList⟩)) ∧ Below w.heap.size w w' := by
  have en : ∀ b, nx.data.toList.isEmpty = b → nx.toList.isEmpty = b ∧ (nx.toList == []) = b := fun b h => ⟨(Pi.isEmpty_list _).trans h, (Pi.beq_nil _).trans h⟩
  have et : ∀ b, tx.data.toList.isEmpty = b → tx.toList.isEmpty = b ∧ (tx.toList == []) = b := fun b h => ⟨(Pi.isEmpty_list _).trans h, (Pi.beq_nil _).trans h⟩
  have em : ∀ b, decide (m = 0) = b → (m == 0) = b := fun b h => by rw [← h]; by_cases q : m = 0 <;> simp [q]
  have ep : ∀ b, p.isEmpty = b → ((p.length : Int) == 0) = b := fun b h => (Pi.len0 p).trans h
  have ez : (tx.size : Int) = (tx.data.toList.length : Int) := by rw [Wk.len_data]
  rw [Kf.may4]
  clear _pm _nm ez
  by_cases s0 : m = 0
  · subst s0
    cases hn : nx.data.toList.isEmpty with
    | false =>
      obtain ⟨n1, n2⟩ := en _ hn
      clear en et em ep
      go_enter Tryz.func163, Tryz.ntmps163
      go_wp2_with fail
      go_ret
      exact ⟨rfl, Pr.boxed _ _⟩
    | true =>
      obtain ⟨n1, n2⟩ := en _ hn
      cases hp : p.isEmpty with
      | false =>
        have p1 := ep _ hp
        clear en et em ep
        go_enter Tryz.func163, Tryz.ntmps163
        go_wp2_with fail
        go_ret
        exact ⟨rfl, Pr.boxed _ _⟩
      | true =>
        have p1 := ep _ hp
        cases ht : tx.data.toList.isEmpty with
        | false =>
          obtain ⟨t1, t2⟩ := et _ ht
          clear en et em ep
          go_enter Tryz.func163, Tryz.ntmps163
          go_wp2_with fail
          go_ret
          exact ⟨rfl, Pr.boxed _ _⟩
        | true =>
          obtain ⟨t1, t2⟩ := et _ ht
          clear en et em ep
          go_enter Tryz.func163, Tryz.ntmps163
          go_wp2_with fail
          go_ret
          exact ⟨rfl, Pr.boxed _ _⟩
  · have d0 : (m == 0) = false := beq_eq_false_iff_ne.2 s0
    rw [decide_eq_false s0]
    by_cases s1 : m = 1
    · subst s1
      cases hn : nx.data.toList.isEmpty with
      | false =>
        obtain ⟨n1, n2⟩ := en _ hn
        clear en et em ep
        go_enter Tryz.func163, Tryz.ntmps163
        go_wp2_with fail
        go_ret
        exact ⟨rfl, Pr.boxed _ _⟩
      | true =>
        obtain ⟨n1, n2⟩ := en _ hn
        cases hp : p.isEmpty with
        | false =>
          have p1 := ep _ hp
          clear en et em ep
          go_enter Tryz.func163, Tryz.ntmps163
          go_wp2_with fail
          go_ret
          exact ⟨rfl, Pr.boxed _ _⟩
        | true =>
          have p1 := ep _ hp
          cases ht : tx.data.toList.isEmpty with
          | false =>
            obtain ⟨t1, t2⟩ := et _ ht
            clear en et em ep
            go_enter Tryz.func163, Tryz.ntmps163
            go_wp2_with fail
            go_ret
            exact ⟨rfl, Pr.boxed _ _⟩
          | true =>
            obtain ⟨t1, t2⟩ := et _ ht
            clear en et em ep
            go_enter Tryz.func163, Tryz.ntmps163
            go_wp2_with fail
            go_ret
            exact ⟨rfl, Pr.boxed _ _⟩
    · have d1 : (m == 1) = false := beq_eq_false_iff_ne.2 s1
      rw [decide_eq_false s1]
      clear en et em ep s0 s1
      go_enter Tryz.func163, Tryz.ntmps163
      go_wp2_with fail
      go_ret
      exact ⟨rfl, Pr.boxed _ _⟩
set_option maxRecDepth 100000 in
set_option maxHeartbeats 4000000 in
theorem Kf.arg5 (nx tx : ByteArray) (p : List (List UInt8)) (m : Int) (a : Option Addr) (d : Nat) (w : World) (_pm : ∀ o, Calls Tryz.prog 170 #[.slice a p.length d] (w.alloc o) fun e w' => e = .returned (.bool (Pi.path p)) ∧ w' = w.alloc o) (_nm : ∀ u, Calls Tryz.prog 158 #[.string nx] u fun e w' => e = .returned (.bool (Pi.name nx.data.toList)) ∧ w' = u) :
    Calls Tryz.prog 163 #[.agg #[.int .i64 5, .string nx, .slice a p.length d, .int .i64 m, .string tx]] w fun e w' => e = .returned (.bool (Pi.argMay ⟨5, nx.data.toList, p, m, tx.data.toList⟩)) ∧ Below w.heap.size w w' := by
  have en : ∀ b, nx.data.toList.isEmpty = b → nx.toList.isEmpty = b ∧ (nx.toList == []) = b := fun b h => ⟨(Pi.isEmpty_list _).trans h, (Pi.beq_nil _).trans h⟩
  have et : ∀ b, tx.data.toList.isEmpty = b → tx.toList.isEmpty = b ∧ (tx.toList == []) = b := fun b h => ⟨(Pi.isEmpty_list _).trans h, (Pi.beq_nil _).trans h⟩
  have em : ∀ b, decide (m = 0) = b → (m == 0) = b := fun b h => by rw [← h]; by_cases q : m = 0 <;> simp [q]
  have ep : ∀ b, p.isEmpty = b → ((p.length : Int) == 0) = b := fun b h => (Pi.len0 p).trans h
  have ez : (tx.size : Int) = (tx.data.toList.length : Int) := by rw [Wk.len_data]
  rw [Kf.may5]
  clear _pm _nm ez
  cases hn : nx.data.toList.isEmpty with
  | false =>
    obtain ⟨n1, n2⟩ := en _ hn
    clear en et em ep
    go_enter Tryz.func163, Tryz.ntmps163
    go_wp2_with fail
    go_ret
    exact ⟨rfl, Pr.boxed _ _⟩
  | true =>
    obtain ⟨n1, n2⟩ := en _ hn
    cases hp : p.isEmpty with
    | false =>
      have p1 := ep _ hp
      clear en et em ep
      go_enter Tryz.func163, Tryz.ntmps163
      go_wp2_with fail
      go_ret
      exact ⟨rfl, Pr.boxed _ _⟩
    | true =>
      have p1 := ep _ hp
      cases hm : decide (m = 0) with
      | false =>
        have m1 := em _ hm
        clear en et em ep
        go_enter Tryz.func163, Tryz.ntmps163
        go_wp2_with fail
        go_ret
        exact ⟨rfl, Pr.boxed _ _⟩
      | true =>
        have m1 := em _ hm
        cases ht : tx.data.toList.isEmpty with
        | false =>
          obtain ⟨t1, t2⟩ := et _ ht
          clear en et em ep
          go_enter Tryz.func163, Tryz.ntmps163
          go_wp2_with fail
          go_ret
          exact ⟨rfl, Pr.boxed _ _⟩
        | true =>
          obtain ⟨t1, t2⟩ := et _ ht
          clear en et em ep
          go_enter Tryz.func163, Tryz.ntmps163
          go_wp2_with fail
          go_ret
          exact ⟨rfl, Pr.boxed _ _⟩
set_option maxRecDepth 100000 in
set_option maxHeartbeats 4000000 in
theorem Kf.argo (k : Int) (nx tx : ByteArray) (p : List (List UInt8)) (m : Int) (a : Option Addr) (d : Nat) (w : World) (_pm : ∀ o, Calls Tryz.prog 170 #[.slice a p.length d] (w.alloc o) fun e w' => e = .returned (.bool (Pi.path p)) ∧ w' = w.alloc o) (_nm : ∀ u, Calls Tryz.prog 158 #[.string nx] u fun e w' => e = .returned (.bool (Pi.name nx.data.toList)) ∧ w' = u) (k0 : k ≠ 0) (k1 : k ≠ 1) (k2 : k ≠ 2) (k3 : k ≠ 3) (k4 : k ≠ 4) (k5 : k ≠ 5) :
    Calls Tryz.prog 163 #[.agg #[.int .i64 k, .string nx, .slice a p.length d, .int .i64 m, .string tx]] w fun e w' => e = .returned (.bool (Pi.argMay ⟨k, nx.data.toList, p, m, tx.data.toList⟩)) ∧ Below w.heap.size w w' := by
  rw [Kf.mayo _ _ _ _ _ k0 k1 k2 k3 k4 k5]
  have q0 : (k == 0) = false := beq_eq_false_iff_ne.2 k0
  have q1 : (k == 1) = false := beq_eq_false_iff_ne.2 k1
  have q2 : (k == 2) = false := beq_eq_false_iff_ne.2 k2
  have q3 : (k == 3) = false := beq_eq_false_iff_ne.2 k3
  have q4 : (k == 4) = false := beq_eq_false_iff_ne.2 k4
  have q5 : (k == 5) = false := beq_eq_false_iff_ne.2 k5
  clear k0 k1 k2 k3 k4 k5 _pm _nm
  go_enter Tryz.func163, Tryz.ntmps163
  go_wp2_with fail
  go_ret
  exact ⟨rfl, Pr.boxed _ _⟩
theorem Kf.arg (x : Ar) (v : Value) (R : Nat → Prop) (w : World) (h : St.Lies w R x.path v) (hz : ∀ t ∈ x.path, t.length ≤ 4611686018427387904) (hn : x.name.length ≤ 4611686018427387904) :
    Calls Tryz.prog 163 #[.agg #[.int .i64 x.kind, .string ⟨x.name.toArray⟩, v, .int .i64 x.num, .string ⟨x.text.toArray⟩]] w fun e w' => e = .returned (.bool (Pi.argMay x)) ∧ Below w.heap.size w w' := by
  obtain ⟨k, nx, p, m, tx⟩ := x
  have pm := fun o => Kf.path p v _ (w.alloc o) (h.boxed o) hz
  have nm := fun u => Kn.is ⟨nx.toArray⟩ u (by show nx.toArray.size ≤ _; rw [List.size_toArray]; exact hn)
  obtain ⟨a, d, rfl, _⟩ := h
  by_cases k0 : k = 0
  · subst k0; exact Kf.arg0 ⟨nx.toArray⟩ ⟨tx.toArray⟩ p m a d w pm nm
  by_cases k1 : k = 1
  · subst k1; exact Kf.arg1 ⟨nx.toArray⟩ ⟨tx.toArray⟩ p m a d w pm nm
  by_cases k2 : k = 2
  · subst k2; exact Kf.arg2 ⟨nx.toArray⟩ ⟨tx.toArray⟩ p m a d w pm nm
  by_cases k3 : k = 3
  · subst k3; exact Kf.arg3 ⟨nx.toArray⟩ ⟨tx.toArray⟩ p m a d w pm nm
  by_cases k4 : k = 4
  · subst k4; exact Kf.arg4 ⟨nx.toArray⟩ ⟨tx.toArray⟩ p m a d w pm nm
  by_cases k5 : k = 5
  · subst k5; exact Kf.arg5 ⟨nx.toArray⟩ ⟨tx.toArray⟩ p m a d w pm nm
  exact Kf.argo k ⟨nx.toArray⟩ ⟨tx.toArray⟩ p m a d w pm nm k0 k1 k2 k3 k4 k5
end Go.Proofs.YtjppobeomocgbaaGreatDoor

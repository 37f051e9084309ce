/-
  THE WALK of stoleref13.comment.
-/
import Derived.Test.YtjppobeomocgbaaGreatDoorTGKittoLRef1
import Derived.Deep.QuietTactic
namespace Go.Proofs.YtjppobeomocgbaaGreatDoor
open Go.RowKit
/-- an action in a variable -/
def La.val : Option La → Value
  | none => .agg #[.int .i64 0, .string ⟨#[]⟩, .bool false, .bool false, .bool false]
  | some a => .agg #[.int .i64 (a.fin : Int), .string ⟨a.text.toArray⟩, .bool a.trims, .bool a.com, .bool true]
theorem Lx.get {s : ByteArray} {i : Nat} (h : i < s.size) : s.data.toList[i]? = some s[i] := by
  rw [List.getElem?_eq_getElem (by rw [Wk.len_data]; exact h)]
  simp [ByteArray.getElem_eq_getElem_data]
theorem Lx.get_none {s : ByteArray} {i : Nat} (h : s.size ≤ i) : s.data.toList[i]? = none := List.getElem?_eq_none (by rw [Wk.len_data]; exact h)
theorem Lx.drop_none {s : ByteArray} {i : Nat} (h : s.size ≤ i) : s.data.toList.drop i = [] := List.drop_of_length_le (by rw [Wk.len_data]; exact h)
theorem Lx.head {s : ByteArray} {i : Nat} (h : i < s.size) : (s.data.toList.drop i).head? = some s[i] := by rw [Rl.drop s i h]; rfl
theorem Lx.head_drop (S : List UInt8) (i : Nat) : (S.drop i).head? = S[i]? := by rw [List.head?_drop]
/-- two bytes of a text -/
theorem Lr.cut2 (s : ByteArray) (i : Nat) (h : i + 2 ≤ s.size) : ∃ p : ByteArray, (∀ u : World, (Instr.slice 9 (.string s) (some (.int .i64 (i : Int))) (some (.int .i64 ((i : Int) + 2))) none).run Tryz.prog u = .ok (.string p) u) ∧ ∀ a b, p.toList = [a, b] ↔ Lx.two s.data.toList i a b = true := by
  refine ⟨s.extract i (i + 2), fun u => ?_, fun a b => ?_⟩
  · have h := Wk.run_cut u s (i : Int) ((i : Int) + 2) (by omega) (by omega) (by omega)
    rw [show ((i : Int) + 2).toNat = i + 2 by omega, Int.toNat_natCast] at h
    exact h
  · rw [ByteArray.toList_eq, Wk.part_data, Rl.drop s i (by omega), Rl.drop s (i + 1) (by omega)]
    unfold Lx.two
    rw [Lx.get (by omega), Lx.get (by omega)]
    simp
theorem Lx.two_false {s : ByteArray} {i : Nat} (h : s.size < i + 2) (a b : UInt8) : Lx.two s.data.toList i a b = false := Bool.eq_false_iff.2 fun q => by
  have := Lx.two_lt q
  rw [Wk.len_data] at this
  omega
theorem Lx.star_step {s : ByteArray} {i : Nat} (h : i < s.size) : Lx.star i (s.data.toList.drop i) = if Lx.two s.data.toList i 42 47 = true then some i else Lx.star (i + 1) (s.data.toList.drop (i + 1)) := by
  rw [Rl.drop s i h]
  conv => lhs; unfold Lx.star
  rw [Lx.head_drop]
  unfold Lx.two
  rw [Lx.get h]
  simp
theorem Lx.skip_step {s : ByteArray} {i : Nat} (h : i < s.size) : Lx.skip i (s.data.toList.drop i) = if Lx.blank s[i] = true then Lx.skip (i + 1) (s.data.toList.drop (i + 1)) else i := by
  rw [Rl.drop s i h]
  rfl
theorem Lx.skip_end {s : ByteArray} {i : Nat} (h : s.size ≤ i) : Lx.skip i (s.data.toList.drop i) = i := by
  rw [Lx.drop_none h]
  rfl
theorem Lx.comment_none {S : List UInt8} {k : Nat} (h : Lx.star k (S.drop k) = none) : Lx.comment S k = none := by
  unfold Lx.comment
  rw [h]
theorem Lx.comment_bad {S : List UInt8} {k f I J : Nat} {tr : Bool} (h : Lx.star k (S.drop k) = some f) (hI : Lx.skip (f + 2) (S.drop (f + 2)) = I) (htr : (decide (f + 2 < I) && decide (S[I]? = some 45)) = tr) (hJ : (if tr = true then I + 1 else I) = J) (h2 : Lx.two S J 125 125 = false) : Lx.comment S k = none := by
  unfold Lx.comment
  rw [h]
  simp only [hI, htr, hJ, h2]
  rfl
theorem Lx.comment_good {S : List UInt8} {k f I J : Nat} {tr : Bool} (h : Lx.star k (S.drop k) = some f) (hI : Lx.skip (f + 2) (S.drop (f + 2)) = I) (htr : (decide (f + 2 < I) && decide (S[I]? = some 45)) = tr) (hJ : (if tr = true then I + 1 else I) = J) (h2 : Lx.two S J 125 125 = true) : Lx.comment S k = some ⟨J + 2, [], tr, true⟩ := by
  unfold Lx.comment
  rw [h]
  simp only [hI, htr, hJ, h2]
  rfl
set_option maxRecDepth 100000 in
set_option maxHeartbeats 4000000 in
theorem Lr.comment (s : ByteArray) (k : Nat) (w : World) (hk : k ≤ s.size) (hs : s.size ≤ 4611686018427387904) : Calls Tryz.prog 33 #[.string s, .int .i64 (k : Int)] w fun e w' => e = .returned (La.val (Lx.comment s.data.toList k)) ∧ Below w.heap.size w w' := by
  obtain ⟨o, ho⟩ : ∃ o, Lx.comment s.data.toList k = o := ⟨_, rfl⟩
  rw [ho]
  have HO := Lib.hid ho
  clear ho
  go_enter Tryz.func33, Tryz.ntmps33
  go_wp2_with fail
  have HB0 : Hid (Below w.heap.size w (w.alloc (.cells #[.int .i64 0, .string ⟨#[]⟩, .bool false, .bool false, .bool false] 84))) := (Below.refl _ _).alloc (Nat.le_refl _) _
  have HX0 : Hid (Bs.Box (w.alloc (.cells #[.int .i64 0, .string ⟨#[]⟩, .bool false, .bool false, .bool false] 84)) w.heap.size #[.int .i64 0, .string ⟨#[]⟩, .bool false, .bool false, .bool false] 84) := Bs.Box.new _ _ _ _ rfl
  generalize w.alloc (.cells #[.int .i64 0, .string ⟨#[]⟩, .bool false, .bool false, .bool false] 84) = w1 at *
  have x0 : w1.cell? ⟨w.heap.size, 0, none⟩ = some (.int .i64 0) := HX0.out.cell 0 rfl
  have x1 : w1.cell? ⟨w.heap.size, 1, none⟩ = some (.string ⟨#[]⟩) := HX0.out.cell 1 rfl
  have x2 : w1.cell? ⟨w.heap.size, 2, none⟩ = some (.bool false) := HX0.out.cell 2 rfl
  have x3 : w1.cell? ⟨w.heap.size, 3, none⟩ = some (.bool false) := HX0.out.cell 3 rfl
  have x4 : w1.cell? ⟨w.heap.size, 4, none⟩ = some (.bool false) := HX0.out.cell 4 rfl
  have fz := fun i => HX0.out.frozen i
  have HF : ∀ v0 v1 v2 v3 v4, Hid (Below w.heap.size w (((((w1.setCell ⟨w.heap.size, 0, none⟩ v0).setCell ⟨w.heap.size, 1, none⟩ v1).setCell ⟨w.heap.size, 2, none⟩ v2).setCell ⟨w.heap.size, 3, none⟩ v3).setCell ⟨w.heap.size, 4, none⟩ v4)) := fun _ _ _ _ _ => ((((HB0.out.setCell (Nat.le_refl _) _).setCell (Nat.le_refl _) _).setCell (Nat.le_refl _) _).setCell (Nat.le_refl _) _).setCell (Nat.le_refl _) _
  go_loopw [5] (fun ix wr => ∃ i : Nat, k ≤ i ∧ i ≤ s.size ∧ ix = .int .i64 (i : Int) ∧ Hid (Lx.star k (s.data.toList.drop k) = Lx.star i (s.data.toList.drop i)) ∧ wr = w1) (fun ix _ => s.size - (intOf ix).toNat)
  case atStart => exact ⟨k, Nat.le_refl _, hk, rfl, rfl, rfl⟩
  case round =>
    obtain ⟨i, hki, hi, rfl, HS, hw⟩ := hrel
    have hw := hw.symm
    subst hw
    by_cases hlt : i + 1 < s.size
    · have d1 : decide ((i : Int) + 1 < (s.size : Int)) = true := decide_eq_true (by omega)
      obtain ⟨p, hcut, hp⟩ := Lr.cut2 s i (by omega)
      cases h2 : Lx.two s.data.toList i 42 47 with
      | false =>
        have n0 : ¬ p.toList = [42, 47] := fun q => by rw [(hp _ _).1 q] at h2; cases h2
        have HS2 : Hid (Lx.star k (s.data.toList.drop k) = Lx.star (i + 1) (s.data.toList.drop (i + 1))) := by
          unfold Hid
          rw [HS.out, Lx.star_step (by omega), if_neg (by rw [h2]; decide)]
        have n1 := beq_eq_false_iff_ne.2 n0
        clear hp h2 HS
        go_wp2_with fail
        go_roundw
        case rel => exact ⟨i + 1, by omega, by omega, by go_num, HS2, by first | rfl | trivial⟩
        case measure => simp [intOf]; omega
      | true =>
        have n0 : p.toList = [42, 47] := (hp _ _).2 h2
        have n1 : (p.toList == [42, 47]) = true := by rw [n0]; rfl
        have d2 : decide ((s.size : Int) ≤ (i : Int) + 1) = false := decide_eq_false (by omega)
        have HS2 : Hid (Lx.star k (s.data.toList.drop k) = some i) := by
          unfold Hid
          rw [HS.out, Lx.star_step (by omega), if_pos h2]
        clear hp h2 HS
        go_wp2_with fail
        go_loopw [5] (fun ix wr => ∃ j : Nat, i + 2 ≤ j ∧ j ≤ s.size ∧ ix = .int .i64 (j : Int) ∧ Hid (Lx.skip (i + 2) (s.data.toList.drop (i + 2)) = Lx.skip j (s.data.toList.drop j)) ∧ wr = w1) (fun ix _ => s.size - (intOf ix).toNat)
        case atStart => exact ⟨i + 2, Nat.le_refl _, by omega, by go_num, rfl, rfl⟩
        case round =>
          obtain ⟨j, hij, hj, rfl, HK, hw⟩ := hrel
          have hw := hw.symm
          subst hw
          clear n0 n1 hcut
          by_cases hlj : j < s.size
          · have d3 : decide ((j : Int) < (s.size : Int)) = true := decide_eq_true (by omega)
            have bl := fun u => Lr.blank s[j] u
            have HK1 := Lib.hid (Lx.skip_step hlj)
            cases hb : Lx.blank s[j] with
            | true =>
              rw [hb] at bl
              have HK2 : Hid (Lx.skip (i + 2) (s.data.toList.drop (i + 2)) = Lx.skip (j + 1) (s.data.toList.drop (j + 1))) := by
                unfold Hid
                rw [HK.out, HK1.out, if_pos hb]
              clear hb HK HK1
              go_wp2_with (go_at_call 31; refine (bl _).mono ?_; rintro e w2 ⟨rfl, hw⟩; have hw := hw.symm; subst hw)
              go_roundw
              case rel => exact ⟨j + 1, by omega, by omega, by go_num, HK2, by first | rfl | trivial⟩
              case measure => simp [intOf]; omega
            | false =>
              rw [hb] at bl
              have HI : Hid (Lx.skip (i + 2) (s.data.toList.drop (i + 2)) = j) := by
                unfold Hid
                rw [HK.out, HK1.out, if_neg (by rw [hb]; decide)]
              clear hb HK HK1
              by_cases hf : i + 2 < j
              · have d4 : decide ((i : Int) + 2 < (j : Int)) = true := decide_eq_true (by omega)
                by_cases h45 : s[j] = 45
                · have t45 : ((s[j].toNat : Int) == 45) = true := Tp.eq_true (d := 45) h45
                  have htr : Hid ((decide (i + 2 < j) && decide (s.data.toList[j]? = some 45)) = true) := by
                    unfold Hid
                    rw [Lx.get hlj]
                    rw [h45, decide_eq_true hf]; rfl
                  clear hf h45
                  by_cases hr : s.size < j + 1 + 2
                  · have d6 : decide ((s.size : Int) - ((j : Int) + 1) < 2) = true := decide_eq_true (by omega)
                    have ho : o = none := by rw [← HO.out]; exact Lx.comment_bad HS2.out HI.out htr.out (J := j + 1) rfl (Lx.two_false hr _ _)
                    clear HI HO HS2 htr hr
                    subst ho
                    go_wp2_with (go_at_call 31; refine (bl _).mono ?_; rintro e w2 ⟨rfl, hw⟩; have hw := hw.symm; subst hw)
                    refine bodyPost_ret (v := .agg #[.int .i64 0, .string ⟨#[]⟩, .bool false, .bool false, .bool false]) (by simp [results, Tryz.results33, go_sem, x0, x1, x2, x3, x4]) rfl ?_
                    exact ⟨rfl, (HF _ _ _ _ _).out⟩
                  · have d6 : decide ((s.size : Int) - ((j : Int) + 1) < 2) = false := decide_eq_false (by omega)
                    obtain ⟨p, hcut, hp⟩ := Lr.cut2 s (j + 1) (by omega)
                    rw [show (((j + 1 : Nat)) : Int) = (j : Int) + 1 by omega] at hcut
                    cases h2 : Lx.two s.data.toList (j + 1) 125 125 with
                    | false =>
                      have n0 : ¬ p.toList = [125, 125] := fun q => by rw [(hp _ _).1 q] at h2; cases h2
                      have n1 := beq_eq_false_iff_ne.2 n0
                      have ho : o = none := by rw [← HO.out]; exact Lx.comment_bad HS2.out HI.out htr.out (J := j + 1) rfl h2
                      clear HI HO HS2 htr hr hp h2
                      subst ho
                      go_wp2_with (go_at_call 31; refine (bl _).mono ?_; rintro e w2 ⟨rfl, hw⟩; have hw := hw.symm; subst hw)
                      refine bodyPost_ret (v := .agg #[.int .i64 0, .string ⟨#[]⟩, .bool false, .bool false, .bool false]) (by simp [results, Tryz.results33, go_sem, x0, x1, x2, x3, x4]) rfl ?_
                      exact ⟨rfl, (HF _ _ _ _ _).out⟩
                    | true =>
                      have n0 : p.toList = [125, 125] := (hp _ _).2 h2
                      have n1 : (p.toList == [125, 125]) = true := by rw [n0]; rfl
                      have ho : o = some ⟨j + 1 + 2, [], true, true⟩ := by rw [← HO.out]; exact Lx.comment_good HS2.out HI.out htr.out (J := j + 1) rfl h2
                      clear HI HO HS2 htr hr hp h2
                      subst ho
                      go_wp2_with (go_at_call 31; refine (bl _).mono ?_; rintro e w2 ⟨rfl, hw⟩; have hw := hw.symm; subst hw)
                      refine bodyPost_ret (v := .agg #[.int .i64 ((j : Int) + 1 + 2), .string ⟨#[]⟩, .bool true, .bool true, .bool true]) (by simp [results, Tryz.results33, go_sem, x0, x1, x2, x3, x4]) rfl ?_
                      exact ⟨rfl, (HF _ _ _ _ _).out⟩
                · have t45 : ((s[j].toNat : Int) == 45) = false := Tp.eq_false (d := 45) h45
                  have htr : Hid ((decide (i + 2 < j) && decide (s.data.toList[j]? = some 45)) = false) := by
                    unfold Hid
                    rw [Lx.get hlj]
                    rw [decide_eq_false (fun q => h45 (Option.some.inj q)), Bool.and_false]
                  clear hf h45
                  by_cases hr : s.size < j + 2
                  · have d6 : decide ((s.size : Int) - ((j : Int)) < 2) = true := decide_eq_true (by omega)
                    have ho : o = none := by rw [← HO.out]; exact Lx.comment_bad HS2.out HI.out htr.out (J := j) rfl (Lx.two_false hr _ _)
                    clear HI HO HS2 htr hr
                    subst ho
                    go_wp2_with (go_at_call 31; refine (bl _).mono ?_; rintro e w2 ⟨rfl, hw⟩; have hw := hw.symm; subst hw)
                    refine bodyPost_ret (v := .agg #[.int .i64 0, .string ⟨#[]⟩, .bool false, .bool false, .bool false]) (by simp [results, Tryz.results33, go_sem, x0, x1, x2, x3, x4]) rfl ?_
                    exact ⟨rfl, (HF _ _ _ _ _).out⟩
                  · have d6 : decide ((s.size : Int) - ((j : Int)) < 2) = false := decide_eq_false (by omega)
                    obtain ⟨p, hcut, hp⟩ := Lr.cut2 s (j) (by omega)
                    cases h2 : Lx.two s.data.toList (j) 125 125 with
                    | false =>
                      have n0 : ¬ p.toList = [125, 125] := fun q => by rw [(hp _ _).1 q] at h2; cases h2
                      have n1 := beq_eq_false_iff_ne.2 n0
                      have ho : o = none := by rw [← HO.out]; exact Lx.comment_bad HS2.out HI.out htr.out (J := j) rfl h2
                      clear HI HO HS2 htr hr hp h2
                      subst ho
                      go_wp2_with (go_at_call 31; refine (bl _).mono ?_; rintro e w2 ⟨rfl, hw⟩; have hw := hw.symm; subst hw)
                      refine bodyPost_ret (v := .agg #[.int .i64 0, .string ⟨#[]⟩, .bool false, .bool false, .bool false]) (by simp [results, Tryz.results33, go_sem, x0, x1, x2, x3, x4]) rfl ?_
                      exact ⟨rfl, (HF _ _ _ _ _).out⟩
                    | true =>
                      have n0 : p.toList = [125, 125] := (hp _ _).2 h2
                      have n1 : (p.toList == [125, 125]) = true := by rw [n0]; rfl
                      have ho : o = some ⟨j + 2, [], false, true⟩ := by rw [← HO.out]; exact Lx.comment_good HS2.out HI.out htr.out (J := j) rfl h2
                      clear HI HO HS2 htr hr hp h2
                      subst ho
                      go_wp2_with (go_at_call 31; refine (bl _).mono ?_; rintro e w2 ⟨rfl, hw⟩; have hw := hw.symm; subst hw)
                      refine bodyPost_ret (v := .agg #[.int .i64 ((j : Int) + 2), .string ⟨#[]⟩, .bool false, .bool true, .bool true]) (by simp [results, Tryz.results33, go_sem, x0, x1, x2, x3, x4]) rfl ?_
                      exact ⟨rfl, (HF _ _ _ _ _).out⟩
              · have d4 : decide ((i : Int) + 2 < (j : Int)) = false := decide_eq_false (by omega)
                have htr : Hid ((decide (i + 2 < j) && decide (s.data.toList[j]? = some 45)) = false) := by
                  unfold Hid
                  rw [Lx.get hlj]
                  rw [decide_eq_false hf, Bool.false_and]
                clear hf
                by_cases hr : s.size < j + 2
                · have d6 : decide ((s.size : Int) - ((j : Int)) < 2) = true := decide_eq_true (by omega)
                  have ho : o = none := by rw [← HO.out]; exact Lx.comment_bad HS2.out HI.out htr.out (J := j) rfl (Lx.two_false hr _ _)
                  clear HI HO HS2 htr hr
                  subst ho
                  go_wp2_with (go_at_call 31; refine (bl _).mono ?_; rintro e w2 ⟨rfl, hw⟩; have hw := hw.symm; subst hw)
                  refine bodyPost_ret (v := .agg #[.int .i64 0, .string ⟨#[]⟩, .bool false, .bool false, .bool false]) (by simp [results, Tryz.results33, go_sem, x0, x1, x2, x3, x4]) rfl ?_
                  exact ⟨rfl, (HF _ _ _ _ _).out⟩
                · have d6 : decide ((s.size : Int) - ((j : Int)) < 2) = false := decide_eq_false (by omega)
                  obtain ⟨p, hcut, hp⟩ := Lr.cut2 s (j) (by omega)
                  cases h2 : Lx.two s.data.toList (j) 125 125 with
                  | false =>
                    have n0 : ¬ p.toList = [125, 125] := fun q => by rw [(hp _ _).1 q] at h2; cases h2
                    have n1 := beq_eq_false_iff_ne.2 n0
                    have ho : o = none := by rw [← HO.out]; exact Lx.comment_bad HS2.out HI.out htr.out (J := j) rfl h2
                    clear HI HO HS2 htr hr hp h2
                    subst ho
                    go_wp2_with (go_at_call 31; refine (bl _).mono ?_; rintro e w2 ⟨rfl, hw⟩; have hw := hw.symm; subst hw)
                    refine bodyPost_ret (v := .agg #[.int .i64 0, .string ⟨#[]⟩, .bool false, .bool false, .bool false]) (by simp [results, Tryz.results33, go_sem, x0, x1, x2, x3, x4]) rfl ?_
                    exact ⟨rfl, (HF _ _ _ _ _).out⟩
                  | true =>
                    have n0 : p.toList = [125, 125] := (hp _ _).2 h2
                    have n1 : (p.toList == [125, 125]) = true := by rw [n0]; rfl
                    have ho : o = some ⟨j + 2, [], false, true⟩ := by rw [← HO.out]; exact Lx.comment_good HS2.out HI.out htr.out (J := j) rfl h2
                    clear HI HO HS2 htr hr hp h2
                    subst ho
                    go_wp2_with (go_at_call 31; refine (bl _).mono ?_; rintro e w2 ⟨rfl, hw⟩; have hw := hw.symm; subst hw)
                    refine bodyPost_ret (v := .agg #[.int .i64 ((j : Int) + 2), .string ⟨#[]⟩, .bool false, .bool true, .bool true]) (by simp [results, Tryz.results33, go_sem, x0, x1, x2, x3, x4]) rfl ?_
                    exact ⟨rfl, (HF _ _ _ _ _).out⟩
          · have d3 : decide ((j : Int) < (s.size : Int)) = false := decide_eq_false (by omega)
            have e : j = s.size := by omega
            have HI : Hid (Lx.skip (i + 2) (s.data.toList.drop (i + 2)) = s.size) := by
              unfold Hid
              rw [HK.out, e, Lx.skip_end (Nat.le_refl _)]
            have ho : o = none := by
              rw [← HO.out]
              refine Lx.comment_bad HS2.out HI.out (tr := false) (J := s.size) ?_ rfl (Lx.two_false (by omega) _ _)
              rw [Lx.get_none (Nat.le_refl _)]
              simp
            clear HK HI HO HS2
            subst e
            subst ho
            have d5 : decide ((2 : Int) ≤ 0) = false := rfl
            cases hf : decide ((i : Int) + 2 < (s.size : Int))
            · go_wp2_with fail
              refine bodyPost_ret (v := .agg #[.int .i64 0, .string ⟨#[]⟩, .bool false, .bool false, .bool false]) (by simp [results, Tryz.results33, go_sem, x0, x1, x2, x3, x4]) rfl ?_
              exact ⟨rfl, (HF _ _ _ _ _).out⟩
            · go_wp2_with fail
              refine bodyPost_ret (v := .agg #[.int .i64 0, .string ⟨#[]⟩, .bool false, .bool false, .bool false]) (by simp [results, Tryz.results33, go_sem, x0, x1, x2, x3, x4]) rfl ?_
              exact ⟨rfl, (HF _ _ _ _ _).out⟩
    · have d1 : decide ((i : Int) + 1 < (s.size : Int)) = false := decide_eq_false (by omega)
      have d2 : decide ((s.size : Int) ≤ (i : Int) + 1) = true := decide_eq_true (by omega)
      have ho : o = none := by
        rw [← HO.out]
        refine Lx.comment_none (HS.out.trans ?_)
        by_cases e : i < s.size
        · rw [Lx.star_step e, if_neg (by rw [Lx.two_false (by omega)]; decide), Lx.drop_none (by omega)]
          rfl
        · rw [Lx.drop_none (by omega)]
          rfl
      subst ho
      clear HO HS
      go_wp2_with fail
      refine bodyPost_ret (v := .agg #[.int .i64 0, .string ⟨#[]⟩, .bool false, .bool false, .bool false]) (by simp [results, Tryz.results33, go_sem, x0, x1, x2, x3, x4]) rfl ?_
      exact ⟨rfl, (HF _ _ _ _ _).out⟩
end Go.Proofs.YtjppobeomocgbaaGreatDoor
/-
  PIECES IN MEMORY; the walks of stolelaw0.SamePieces (at the same pieces) and stoleref13.limits.
-/
namespace Go.Proofs.YtjppobeomocgbaaGreatDoor
open Go.RowKit
theorem Lm.info : (Tryz.prog.info? 58).map (fun i => (i.zero, i.size, i.bytes)) = some (some (.agg #[.bool false, .string ⟨#[]⟩, .int .i64 0]), 3, 32) := by kernel_rfl
def Pc.three (p : Pc) : List Value := [.bool p.act, .string ⟨p.text.toArray⟩, .int .i64 (p.loc : Int)]
def Pc.cells (ps : List Pc) : List Value := ps.flatMap Pc.three
theorem Pc.cells_append (a b : List Pc) : Pc.cells (a ++ b) = Pc.cells a ++ Pc.cells b := by simp [Pc.cells]
theorem Pc.cells_snoc (a : List Pc) (p : Pc) : Pc.cells (a ++ [p]) = Pc.cells a ++ Pc.three p := by rw [Pc.cells_append]; simp [Pc.cells]
theorem Pc.three_one (p : Pc) : ∀ u ∈ Pc.three p, u.oneCell' = true := by
  intro u hu
  simp only [Pc.three, List.mem_cons, List.not_mem_nil, or_false] at hu
  rcases hu with rfl | rfl | rfl <;> rfl
theorem Pc.cells_get : ∀ (ps : List Pc) (j : Nat) (x : Pc), ps[j]? = some x → (Pc.cells ps)[j * 3]? = some (.bool x.act) ∧ (Pc.cells ps)[j * 3 + 1]? = some (.string ⟨x.text.toArray⟩) ∧ (Pc.cells ps)[j * 3 + 2]? = some (.int .i64 (x.loc : Int)) := by
  intro ps
  induction ps with
  | nil => intro j x h; simp at h
  | cons a ps ih =>
    intro j x h
    cases j with
    | zero =>
      simp only [List.getElem?_cons_zero, Option.some.injEq] at h
      subst h
      exact ⟨rfl, rfl, rfl⟩
    | succ j =>
      rw [List.getElem?_cons_succ] at h
      obtain ⟨h1, h2, h3⟩ := ih j x h
      have e : Pc.cells (a :: ps) = .bool a.act :: .string ⟨a.text.toArray⟩ :: .int .i64 (a.loc : Int) :: Pc.cells ps := rfl
      rw [e, show (j + 1) * 3 = j * 3 + 1 + 1 + 1 by omega]
      exact ⟨h1, h2, h3⟩
/-- pieces lie in a block of R -/
def Pc.Lies (w : World) (R : Nat → Prop) (ps : List Pc) (v : Value) : Prop :=
  ∃ a d, v = .slice a ps.length d ∧ ps.length ≤ d ∧ d ≤ maxLen ∧ ∀ j x, ps[j]? = some x → ∃ b o, a = some ⟨b, o, none⟩ ∧ R b ∧ w.cell? ⟨b, o + j * 3, none⟩ = some (.bool x.act) ∧ w.cell? ⟨b, o + j * 3 + 1, none⟩ = some (.string ⟨x.text.toArray⟩) ∧ w.cell? ⟨b, o + j * 3 + 2, none⟩ = some (.int .i64 (x.loc : Int))
theorem Pc.Lies.on {w w' : World} {R R' : Nat → Prop} {ps : List Pc} {v : Value} (h : Pc.Lies w R ps v) (hR : ∀ k, R k → R' k ∧ w'.heap[k]? = w.heap[k]?) : Pc.Lies w' R' ps v := by
  obtain ⟨a, d, e, h1, h2, hx⟩ := h
  refine ⟨a, d, e, h1, h2, fun i t hi => ?_⟩
  obtain ⟨b, o, ea, hb, c0, c1, c2⟩ := hx i t hi
  obtain ⟨hb', hw⟩ := hR b hb
  exact ⟨b, o, ea, hb', (World.cell?_of_block (a := ⟨b, o + i * 3, none⟩) hw).trans c0, (World.cell?_of_block (a := ⟨b, o + i * 3 + 1, none⟩) hw).trans c1, (World.cell?_of_block (a := ⟨b, o + i * 3 + 2, none⟩) hw).trans c2⟩
theorem Pc.Lies.nil (w : World) (R : Nat → Prop) : Pc.Lies w R [] (.slice none 0 0) := ⟨none, 0, rfl, Nat.le_refl _, Nat.zero_le _, fun j x h => by simp at h⟩
theorem Pc.Lies.own {w : World} {base : Nat} {ps : List Pc} {v : Value} (h : w.ownsRow base 58 3 v ps.length (Pc.cells ps)) : Pc.Lies w (fun k => base ≤ k ∧ k < w.heap.size) ps v := by
  have hc := fun g hg => h.cells (g := g) hg
  have hlt := h.lt
  rcases h.2 with ⟨rfl, hn⟩ | ⟨g, cap, cur, rfl, hbg, hg, hnc, hcm, hcs, htake⟩
  · have : ps = [] := List.eq_nil_of_length_eq_zero hn
    subst this
    exact Pc.Lies.nil _ _
  · refine ⟨some ⟨g, 0, none⟩, cap, rfl, hnc, hcm, fun j x hj => ?_⟩
    obtain ⟨h1, h2, h3⟩ := Pc.cells_get ps j x hj
    have c1 := hc g rfl _ _ h1
    have c2 := hc g rfl _ _ h2
    have c3 := hc g rfl _ _ h3
    rw [Ro.add] at c1 c2 c3
    exact ⟨g, 0, rfl, hlt g rfl, c1, by rw [show 0 + j * 3 + 1 = 0 + (j * 3 + 1) by omega]; exact c2, by rw [show 0 + j * 3 + 2 = 0 + (j * 3 + 2) by omega]; exact c3⟩
/-- a piece that was laid anew -/
theorem Lm.cell3 (W : World) (a : Bool) (T : ByteArray) (k : Nat) : ∀ (j : Nat) (u : Value), (Pc.three ⟨a, T.data.toList, k⟩)[j]? = some u → (W.alloc (.cells #[.bool a, .string T, .int .i64 (k : Int)] 58)).cell? ⟨W.heap.size, j, none⟩ = some u := by
  intro j u hj
  unfold World.cell?
  rw [show (W.alloc (.cells #[.bool a, .string T, .int .i64 (k : Int)] 58)).heap[W.heap.size]? = some _ from heap_alloc_new W _]
  simpa [Pc.three] using hj
theorem Lx.long_take {ps : List Pc} {j : Nat} {p : Pc} (h : ps[j]? = some p) (ha : Lx.long (ps.take j) = false) (hp : (p.act && decide (256 < p.text.length)) = false) : Lx.long (ps.take (j + 1)) = false := by
  obtain ⟨hl, rfl⟩ := List.getElem?_eq_some_iff.1 h
  unfold Lx.long at *
  rw [List.take_succ_eq_append_getElem hl, List.any_append, ha, List.any_cons, hp]
  rfl
theorem Lx.long_at {ps : List Pc} {j : Nat} {p : Pc} (h : ps[j]? = some p) (hp : (p.act && decide (256 < p.text.length)) = true) : Lx.long ps = true := List.any_eq_true.2 ⟨p, List.mem_of_getElem? h, hp⟩
/-- what limits answers -/
def Lm.lim (ps : List Pc) (v : Value) : Value := if Lx.long ps = true then .slice none 0 0 else if 1024 < ps.length then .slice none 0 0 else v
theorem Lm.lim_lies {w : World} {R : Nat → Prop} {ps : List Pc} {v : Value} (h : Pc.Lies w R ps v) : Pc.Lies w R (Lx.limits ps).1 (Lm.lim ps v) := by
  unfold Lm.lim Lx.limits
  split
  · exact Pc.Lies.nil _ _
  · split
    · exact Pc.Lies.nil _ _
    · exact h
set_option maxRecDepth 100000 in
set_option maxHeartbeats 2000000 in
theorem Lr.limits (ps : List Pc) (v : Value) (R : Nat → Prop) (w : World) (h : Pc.Lies w R ps v) :
    Calls Tryz.prog 35 #[v] w fun e w' => e = .returned (.tuple #[Lm.lim ps v, .int .i64 (Lx.limits ps).2]) ∧ w' = w := by
  obtain ⟨V, hV⟩ : ∃ V, Lm.lim ps v = V := ⟨_, rfl⟩
  obtain ⟨E, hE⟩ : ∃ E, (Lx.limits ps).2 = E := ⟨_, rfl⟩
  rw [hV, hE]
  have HV := Lib.hid hV
  have HE := Lib.hid hE
  clear hV hE
  obtain ⟨a1, d1, rfl, l1, m1, x1⟩ := h
  have hm : ps.length ≤ 9223372036854775807 := by unfold maxLen at m1; omega
  have X1 := Lib.hid x1
  clear x1
  go_enter Tryz.func35, Tryz.ntmps35
  go_wp2
  go_loopw [4] (fun i wr => ∃ j : Nat, j ≤ ps.length ∧ i = .int .i64 (j : Int) ∧ Hid (Lx.long (ps.take j) = false) ∧ wr = w) (fun i _ => ps.length - (intOf i).toNat)
  case atStart => exact ⟨0, Nat.zero_le _, rfl, rfl, rfl⟩
  case round =>
    obtain ⟨j, hj, rfl, HL, hw⟩ := hrel
    have hw := hw.symm
    subst hw
    by_cases hlt : j < ps.length
    · have hg := List.getElem?_eq_getElem hlt
      obtain ⟨b1, o1, rfl, _, c0, c1, c2⟩ := X1.out j ps[j] hg
      have HG := Lib.hid hg
      have dlt : decide ((j : Int) < (ps.length : Int)) = true := decide_eq_true (by omega)
      clear hg
      generalize ps[j] = y at *
      have hd1 : j < d1 := by omega
      have zt : (⟨y.text.toArray⟩ : ByteArray).size = y.text.length := by rw [← Wk.len_data]
      have HZ := Lib.hid zt
      cases ha : y.act with
      | false =>
        have HL2 : Hid (Lx.long (ps.take (j + 1)) = false) := Lx.long_take HG.out HL.out (by rw [ha]; rfl)
        rw [ha] at c0
        clear HG HL zt ha
        go_wp2
        go_roundw
        case rel => exact ⟨j + 1, by omega, by go_num, HL2, by first | rfl | trivial⟩
        case measure => simp [intOf]; omega
      | true =>
        generalize hT : (⟨y.text.toArray⟩ : ByteArray) = T at *
        by_cases h2 : 256 < y.text.length
        · have d2 : decide ((256 : Int) < (T.size : Int)) = true := decide_eq_true (by omega)
          have d2n : decide (256 < T.size) = true := decide_eq_true (by omega)
          have hl : Lx.long ps = true := Lx.long_at HG.out (by rw [ha, decide_eq_true h2]; rfl)
          have hV : .slice none 0 0 = V := by rw [← HV.out]; unfold Lm.lim; rw [if_pos hl]
          have hE : 1301 = E := by rw [← HE.out]; unfold Lx.limits; rw [if_pos hl]
          rw [ha] at c0
          subst hV
          subst hE
          clear HG HL zt ha hl HV HE h2 hT HZ
          go_wp2
          go_ret2
          exact ⟨rfl, rfl⟩
        · have d2 : decide ((256 : Int) < (T.size : Int)) = false := decide_eq_false (by omega)
          have d2n : decide (256 < T.size) = false := decide_eq_false (by omega)
          have HL2 : Hid (Lx.long (ps.take (j + 1)) = false) := Lx.long_take HG.out HL.out (by rw [ha, decide_eq_false h2]; rfl)
          rw [ha] at c0
          clear HG HL zt ha h2 hT HZ
          go_wp2
          go_roundw
          case rel => exact ⟨j + 1, by omega, by go_num, HL2, by first | rfl | trivial⟩
          case measure => simp [intOf]; omega
    · have e : j = ps.length := by omega
      subst e
      have dlt : decide ((ps.length : Int) < (ps.length : Int)) = false := decide_eq_false (by omega)
      have hl := HL.out
      rw [List.take_length] at hl
      by_cases h2 : 1024 < ps.length
      · have d2 : decide ((1024 : Int) < (ps.length : Int)) = true := decide_eq_true (by omega)
        have hV : .slice none 0 0 = V := by rw [← HV.out]; unfold Lm.lim; rw [if_neg (by rw [hl]; decide), if_pos h2]
        have hE : 1302 = E := by rw [← HE.out]; unfold Lx.limits; rw [if_neg (by rw [hl]; decide), if_pos h2]
        subst hV
        subst hE
        clear HL HV HE hl
        go_wp2
        go_ret2
        exact ⟨rfl, rfl⟩
      · have d2 : decide ((1024 : Int) < (ps.length : Int)) = false := decide_eq_false (by omega)
        have hV : .slice a1 ps.length d1 = V := by rw [← HV.out]; unfold Lm.lim; rw [if_neg (by rw [hl]; decide), if_neg h2]
        have hE : 0 = E := by rw [← HE.out]; unfold Lx.limits; rw [if_neg (by rw [hl]; decide), if_neg h2]
        subst hV
        subst hE
        clear HL HV HE hl
        go_wp2
        go_ret2
        exact ⟨rfl, rfl⟩
end Go.Proofs.YtjppobeomocgbaaGreatDoor

/-
  THE WALK of stoleref13.plain.
-/
import Derived.Test.YtjppobeomocgbaaGreatDoorTLRef2toLMem
namespace Go.Proofs.YtjppobeomocgbaaGreatDoor
open Go.RowKit
theorem Lx.find_nil {s : ByteArray} {i : Nat} (t sk : Bool) (h : s.size ≤ i) : Lx.find t sk i (s.data.toList.drop i) = none := by
  rw [Lx.drop_none h]
  rfl
theorem Lx.find_skip (s : ByteArray) (t : Bool) (i : Nat) : Lx.find t true i (s.data.toList.drop i) = Lx.find t false (i + 1) (s.data.toList.drop (i + 1)) := by
  by_cases h : i < s.size
  · rw [Rl.drop s i h]
    rfl
  · rw [Lx.find_nil _ _ (by omega), Lx.find_nil _ _ (by omega)]
theorem Lx.find_esc {s : ByteArray} {i : Nat} (h : i < s.size) (hc : s[i] = 92) : Lx.find true false i (s.data.toList.drop i) = Lx.find true false (i + 1 + 1) (s.data.toList.drop (i + 1 + 1)) := by
  rw [← Lx.find_skip, Rl.drop s i h, hc]
  rfl
theorem Lx.find_quote {s : ByteArray} {i : Nat} (t : Bool) (h : i < s.size) (hc : s[i] = 34) : Lx.find t false i (s.data.toList.drop i) = Lx.find (!t) false (i + 1) (s.data.toList.drop (i + 1)) := by
  rw [Rl.drop s i h, hc]
  cases t <;> rfl
theorem Lx.find_text {s : ByteArray} {i : Nat} (h : i < s.size) (h92 : ¬ s[i] = 92) (h34 : ¬ s[i] = 34) : Lx.find true false i (s.data.toList.drop i) = Lx.find true false (i + 1) (s.data.toList.drop (i + 1)) := by
  rw [Rl.drop s i h]
  conv => lhs; unfold Lx.find
  simp [h92, h34]
theorem Lx.find_out {s : ByteArray} {i : Nat} (h : i < s.size) (h34 : ¬ s[i] = 34) (h2 : Lx.two s.data.toList i 125 125 = false) : Lx.find false false i (s.data.toList.drop i) = Lx.find false false (i + 1) (s.data.toList.drop (i + 1)) := by
  have h2' : ¬ (s[i] = 125 ∧ (s.data.toList.drop (i + 1)).head? = some 125) := fun q => by
    have : Lx.two s.data.toList i 125 125 = true := by
      unfold Lx.two
      rw [Lx.get h, ← Lx.head_drop, q.1, q.2]
      rfl
    rw [h2] at this
    cases this
  rw [Rl.drop s i h]
  conv => lhs; unfold Lx.find
  simp only [Bool.false_eq_true, if_false, false_and, h34, true_and, h2']
theorem Lx.find_end {s : ByteArray} {i : Nat} (h2 : Lx.two s.data.toList i 125 125 = true) : Lx.find false false i (s.data.toList.drop i) = some i := by
  have hl := Lx.two_lt h2
  rw [Wk.len_data] at hl
  have h : i < s.size := by omega
  unfold Lx.two at h2
  simp only [Bool.and_eq_true, decide_eq_true_eq] at h2
  rw [Lx.get h] at h2
  have h34 : ¬ (s[i] = 34) := fun q => by rw [q] at h2; exact absurd (Option.some.inj h2.1) (by decide)
  rw [Rl.drop s i h]
  conv => lhs; unfold Lx.find
  simp only [Bool.false_eq_true, if_false, false_and, h34, Lx.head_drop, h2.2, true_and]
  rw [Option.some.inj h2.1]
  rfl
theorem Lx.trims_short {T : ByteArray} (h : T.size < 2) : Lx.trims T.data.toList = false := by
  unfold Lx.trims
  rw [Wk.len_data, decide_eq_false (by omega)]
  rfl
theorem Lx.trims_long {T : ByteArray} (h : 2 ≤ T.size) : Lx.trims T.data.toList = (decide (T[T.size - 1] = 45) && Lx.blank T[T.size - 2]) := by
  unfold Lx.trims
  rw [Wk.len_data, decide_eq_true h, Lx.get (by omega), List.getD_eq_getElem?_getD, Lx.get (i := T.size - 2) (by omega)]
  simp
set_option maxRecDepth 100000 in
set_option maxHeartbeats 4000000 in
theorem Lr.plain (s : ByteArray) (k : Nat) (w : World) (hk : k ≤ s.size) (hs : s.size ≤ 4611686018427387904) : Calls Tryz.prog 34 #[.string s, .int .i64 (k : Int)] w fun e w' => e = .returned (La.val (Lx.plain s.data.toList k)) ∧ Below w.heap.size w w' := by
  obtain ⟨o, ho⟩ : ∃ o, Lx.plain s.data.toList k = o := ⟨_, rfl⟩
  rw [ho]
  have HO := Lib.hid ho
  clear ho
  go_enter Tryz.func34, Tryz.ntmps34
  go_wp2_with fail
  have HB0 : Hid (Below w.heap.size w (w.alloc (.cells #[.int .i64 0, .string ⟨#[]⟩, .bool false, .bool false, .bool false] 84))) := (Below.refl _ _).alloc (Nat.le_refl _) _
  have HX0 : Hid (Bs.Box (w.alloc (.cells #[.int .i64 0, .string ⟨#[]⟩, .bool false, .bool false, .bool false] 84)) w.heap.size #[.int .i64 0, .string ⟨#[]⟩, .bool false, .bool false, .bool false] 84) := Bs.Box.new _ _ _ _ rfl
  generalize w.alloc (.cells #[.int .i64 0, .string ⟨#[]⟩, .bool false, .bool false, .bool false] 84) = w1 at *
  have x0 : w1.cell? ⟨w.heap.size, 0, none⟩ = some (.int .i64 0) := HX0.out.cell 0 rfl
  have x1 : w1.cell? ⟨w.heap.size, 1, none⟩ = some (.string ⟨#[]⟩) := HX0.out.cell 1 rfl
  have x2 : w1.cell? ⟨w.heap.size, 2, none⟩ = some (.bool false) := HX0.out.cell 2 rfl
  have x3 : w1.cell? ⟨w.heap.size, 3, none⟩ = some (.bool false) := HX0.out.cell 3 rfl
  have x4 : w1.cell? ⟨w.heap.size, 4, none⟩ = some (.bool false) := HX0.out.cell 4 rfl
  have fz := fun i => HX0.out.frozen i
  have HF : ∀ v0 v1 v2 v3 v4, Hid (Below w.heap.size w (((((w1.setCell ⟨w.heap.size, 0, none⟩ v0).setCell ⟨w.heap.size, 1, none⟩ v1).setCell ⟨w.heap.size, 2, none⟩ v2).setCell ⟨w.heap.size, 3, none⟩ v3).setCell ⟨w.heap.size, 4, none⟩ v4)) := fun _ _ _ _ _ => ((((HB0.out.setCell (Nat.le_refl _) _).setCell (Nat.le_refl _) _).setCell (Nat.le_refl _) _).setCell (Nat.le_refl _) _).setCell (Nat.le_refl _) _
  go_loopw [5, 6] (fun tv ix wr => ∃ (i : Nat) (t : Bool), k ≤ i ∧ i ≤ s.size + 1 ∧ tv = .bool t ∧ ix = .int .i64 (i : Int) ∧ Hid (Lx.find false false k (s.data.toList.drop k) = Lx.find t false i (s.data.toList.drop i)) ∧ wr = w1) (fun _ ix _ => s.size + 1 - (intOf ix).toNat)
  case atStart => exact ⟨k, false, Nat.le_refl _, by omega, rfl, rfl, rfl, rfl⟩
  case round =>
    obtain ⟨i, t, hki, hi, rfl, rfl, HS, hw⟩ := hrel
    have hw := hw.symm
    subst hw
    by_cases hlt : i < s.size
    · have d1 : decide ((i : Int) < (s.size : Int)) = true := decide_eq_true (by omega)
      cases t with
      | true =>
        by_cases h92 : s[i] = 92
        · have t92 : ((s[i].toNat : Int) == 92) = true := Tp.eq_true (d := 92) h92
          have HS2 : Hid (Lx.find false false k (s.data.toList.drop k) = Lx.find true false (i + 1 + 1) (s.data.toList.drop (i + 1 + 1))) := HS.out.trans (Lx.find_esc hlt h92)
          clear h92 HS
          go_wp2_with fail
          go_roundw
          case rel => exact ⟨i + 1 + 1, true, by omega, by omega, rfl, by go_num, HS2, by first | rfl | trivial⟩
          case measure => simp [intOf]; omega
        · have t92 : ((s[i].toNat : Int) == 92) = false := Tp.eq_false (d := 92) h92
          by_cases h34 : s[i] = 34
          · have t34 : ((s[i].toNat : Int) == 34) = true := Tp.eq_true (d := 34) h34
            have HS2 : Hid (Lx.find false false k (s.data.toList.drop k) = Lx.find false false (i + 1) (s.data.toList.drop (i + 1))) := HS.out.trans (Lx.find_quote true hlt h34)
            clear h92 h34 HS
            go_wp2_with fail
            go_roundw
            case rel => exact ⟨i + 1, false, by omega, by omega, rfl, by go_num, HS2, by first | rfl | trivial⟩
            case measure => simp [intOf]; omega
          · have t34 : ((s[i].toNat : Int) == 34) = false := Tp.eq_false (d := 34) h34
            have HS2 : Hid (Lx.find false false k (s.data.toList.drop k) = Lx.find true false (i + 1) (s.data.toList.drop (i + 1))) := HS.out.trans (Lx.find_text hlt h92 h34)
            clear h92 h34 HS
            go_wp2_with fail
            go_roundw
            case rel => exact ⟨i + 1, true, by omega, by omega, rfl, by go_num, HS2, by first | rfl | trivial⟩
            case measure => simp [intOf]; omega
      | false =>
        by_cases h34 : s[i] = 34
        · have t34 : ((s[i].toNat : Int) == 34) = true := Tp.eq_true (d := 34) h34
          have HS2 : Hid (Lx.find false false k (s.data.toList.drop k) = Lx.find true false (i + 1) (s.data.toList.drop (i + 1))) := HS.out.trans (Lx.find_quote false hlt h34)
          clear h34 HS
          go_wp2_with fail
          go_roundw
          case rel => exact ⟨i + 1, true, by omega, by omega, rfl, by go_num, HS2, by first | rfl | trivial⟩
          case measure => simp [intOf]; omega
        · have t34 : ((s[i].toNat : Int) == 34) = false := Tp.eq_false (d := 34) h34
          by_cases hl2 : i + 1 < s.size
          · have d2 : decide ((i : Int) + 1 < (s.size : Int)) = true := decide_eq_true (by omega)
            obtain ⟨p, hcut, hp⟩ := Lr.cut2 s i (by omega)
            cases h2 : Lx.two s.data.toList i 125 125 with
            | false =>
              have n0 : ¬ p.toList = [125, 125] := fun q => by rw [(hp _ _).1 q] at h2; cases h2
              have n1 := beq_eq_false_iff_ne.2 n0
              have HS2 : Hid (Lx.find false false k (s.data.toList.drop k) = Lx.find false false (i + 1) (s.data.toList.drop (i + 1))) := HS.out.trans (Lx.find_out hlt h34 h2)
              clear h34 HS hp h2
              go_wp2_with fail
              go_roundw
              case rel => exact ⟨i + 1, false, by omega, by omega, rfl, by go_num, HS2, by first | rfl | trivial⟩
              case measure => simp [intOf]; omega
            | true =>
              have n0 : p.toList = [125, 125] := (hp _ _).2 h2
              have n1 : (p.toList == [125, 125]) = true := by rw [n0]; rfl
              have HS2 : Hid (Lx.find false false k (s.data.toList.drop k) = some i) := HS.out.trans (Lx.find_end h2)
              have HTD : Hid ((s.extract k i).data.toList = (s.data.toList.drop k).take (i - k)) := Lib.extract_data s k i
              have zT : (s.extract k i).size ≤ s.size := by rw [ByteArray.size_extract]; omega
              have hcutT : ∀ u : World, (Instr.slice 9 (.string s) (some (.int .i64 (k : Int))) (some (.int .i64 (i : Int))) none).run Tryz.prog u = .ok (.string (s.extract k i)) u := fun u => by
                have h := Wk.run_cut u s (k : Int) (i : Int) (by omega) (by omega) (by omega)
                rw [Int.toNat_natCast, Int.toNat_natCast] at h
                exact h
              clear h34 HS hp h2
              generalize s.extract k i = T at *
              by_cases hT2 : T.size < 2
              · have d3 : decide ((2 : Int) ≤ (T.size : Int)) = false := decide_eq_false (by omega)
                have htr : Hid (Lx.trims T.data.toList = false) := Lx.trims_short hT2
                have bl := fun u => Lr.blank 0 u
                obtain ⟨V, hV⟩ : ∃ V : ByteArray, V = ⟨(Lx.left (T).data.toList).toArray⟩ := ⟨_, rfl⟩
                have zU : (T).size ≤ T.size := by exact Nat.le_refl _
                have zV : V.size ≤ (T).size := by rw [hV, ← Wk.len_data, ← Wk.len_data]; exact Lx.left_len _
                have cl := fun u => Lr.left (T) u (by omega)
                rw [← hV] at cl
                have cr := fun u => Lr.right V u (by omega)
                have HV : Hid (V.data.toList = Lx.left (T).data.toList) := by unfold Hid; rw [hV]
                have ho : o = some ⟨i + 2, Lx.right V.data.toList, false, false⟩ := by
                  rw [← HO.out, HV.out]
                  exact Lx.plain_some HS2.out HTD.out htr.out (if_neg (by decide))
                obtain ⟨R, hR⟩ : ∃ R : ByteArray, R = ⟨(Lx.right V.data.toList).toArray⟩ := ⟨_, rfl⟩
                rw [← hR] at cr
                have HR : Hid (La.val o = .agg #[.int .i64 ((i : Int) + 2), .string R, .bool false, .bool false, .bool true]) := by unfold Hid; rw [ho, hR]; rfl
                clear HV HO HS2 HTD htr hV ho hR zU zV
                go_wp2_with (first | (go_at_call 31; refine (bl _).mono ?_; rintro e w2 ⟨rfl, hw⟩; have hw := hw.symm; subst hw) | (go_at_call 30; refine (cl _).mono ?_; rintro e w2 ⟨rfl, hw⟩; have hw := hw.symm; subst hw) | (go_at_call 32; refine (cr _).mono ?_; rintro e w2 ⟨rfl, hw⟩; have hw := hw.symm; subst hw))
                refine bodyPost_ret (v := .agg #[.int .i64 ((i : Int) + 2), .string R, .bool false, .bool false, .bool true]) (by simp [results, Tryz.results34, go_sem, x0, x1, x2, x3, x4]) rfl ?_
                exact ⟨by rw [HR.out], (HF _ _ _ _ _).out⟩
              · have d3 : decide ((2 : Int) ≤ (T.size : Int)) = true := decide_eq_true (by omega)
                have hl1 : T.size - 1 < T.size := by omega
                have hl2 : T.size - 2 < T.size := by omega
                have HTR := Lib.hid (Lx.trims_long (T := T) (by omega))
                have e1 : (T.size : Int) - 1 = ((T.size - 1 : Nat) : Int) := by omega
                have e2 : (T.size : Int) - 2 = ((T.size - 2 : Nat) : Int) := by omega
                by_cases h45 : T[T.size - 1] = 45
                · have t45 : ((T[T.size - 1].toNat : Int) == 45) = true := Tp.eq_true (d := 45) h45
                  have bl := fun u => Lr.blank T[T.size - 2] u
                  cases hb : Lx.blank T[T.size - 2] with
                  | true =>
                    have htr : Hid (Lx.trims T.data.toList = true) := by unfold Hid; rw [HTR.out, decide_eq_true h45, hb]; rfl
                    rw [hb] at bl
                    clear h45 hb HTR
                    obtain ⟨V, hV⟩ : ∃ V : ByteArray, V = ⟨(Lx.left (T.extract 0 (T.size - 1)).data.toList).toArray⟩ := ⟨_, rfl⟩
                    have zU : (T.extract 0 (T.size - 1)).size ≤ T.size := by rw [ByteArray.size_extract]; omega
                    have zV : V.size ≤ (T.extract 0 (T.size - 1)).size := by rw [hV, ← Wk.len_data, ← Wk.len_data]; exact Lx.left_len _
                    have cl := fun u => Lr.left (T.extract 0 (T.size - 1)) u (by omega)
                    rw [← hV] at cl
                    have cr := fun u => Lr.right V u (by omega)
                    have HV : Hid (V.data.toList = Lx.left (T.extract 0 (T.size - 1)).data.toList) := by unfold Hid; rw [hV]
                    have ho : o = some ⟨i + 2, Lx.right V.data.toList, true, false⟩ := by
                      rw [← HO.out, HV.out]
                      exact Lx.plain_some HS2.out HTD.out htr.out (by rw [if_pos rfl, Wk.len_data, Lib.extract_data, List.drop_zero, Nat.sub_zero])
                    obtain ⟨R, hR⟩ : ∃ R : ByteArray, R = ⟨(Lx.right V.data.toList).toArray⟩ := ⟨_, rfl⟩
                    rw [← hR] at cr
                    have HR : Hid (La.val o = .agg #[.int .i64 ((i : Int) + 2), .string R, .bool true, .bool false, .bool true]) := by unfold Hid; rw [ho, hR]; rfl
                    clear HV HO HS2 HTD htr hV ho hR zU zV
                    go_wp2_with (first | (go_at_call 31; refine (bl _).mono ?_; rintro e w2 ⟨rfl, hw⟩; have hw := hw.symm; subst hw) | (go_at_call 30; refine (cl _).mono ?_; rintro e w2 ⟨rfl, hw⟩; have hw := hw.symm; subst hw) | (go_at_call 32; refine (cr _).mono ?_; rintro e w2 ⟨rfl, hw⟩; have hw := hw.symm; subst hw))
                    refine bodyPost_ret (v := .agg #[.int .i64 ((i : Int) + 2), .string R, .bool true, .bool false, .bool true]) (by simp [results, Tryz.results34, go_sem, x0, x1, x2, x3, x4]) rfl ?_
                    exact ⟨by rw [HR.out], (HF _ _ _ _ _).out⟩
                  | false =>
                    have htr : Hid (Lx.trims T.data.toList = false) := by unfold Hid; rw [HTR.out, hb, Bool.and_false]
                    rw [hb] at bl
                    clear h45 hb HTR
                    obtain ⟨V, hV⟩ : ∃ V : ByteArray, V = ⟨(Lx.left (T).data.toList).toArray⟩ := ⟨_, rfl⟩
                    have zU : (T).size ≤ T.size := by exact Nat.le_refl _
                    have zV : V.size ≤ (T).size := by rw [hV, ← Wk.len_data, ← Wk.len_data]; exact Lx.left_len _
                    have cl := fun u => Lr.left (T) u (by omega)
                    rw [← hV] at cl
                    have cr := fun u => Lr.right V u (by omega)
                    have HV : Hid (V.data.toList = Lx.left (T).data.toList) := by unfold Hid; rw [hV]
                    have ho : o = some ⟨i + 2, Lx.right V.data.toList, false, false⟩ := by
                      rw [← HO.out, HV.out]
                      exact Lx.plain_some HS2.out HTD.out htr.out (if_neg (by decide))
                    obtain ⟨R, hR⟩ : ∃ R : ByteArray, R = ⟨(Lx.right V.data.toList).toArray⟩ := ⟨_, rfl⟩
                    rw [← hR] at cr
                    have HR : Hid (La.val o = .agg #[.int .i64 ((i : Int) + 2), .string R, .bool false, .bool false, .bool true]) := by unfold Hid; rw [ho, hR]; rfl
                    clear HV HO HS2 HTD htr hV ho hR zU zV
                    go_wp2_with (first | (go_at_call 31; refine (bl _).mono ?_; rintro e w2 ⟨rfl, hw⟩; have hw := hw.symm; subst hw) | (go_at_call 30; refine (cl _).mono ?_; rintro e w2 ⟨rfl, hw⟩; have hw := hw.symm; subst hw) | (go_at_call 32; refine (cr _).mono ?_; rintro e w2 ⟨rfl, hw⟩; have hw := hw.symm; subst hw))
                    refine bodyPost_ret (v := .agg #[.int .i64 ((i : Int) + 2), .string R, .bool false, .bool false, .bool true]) (by simp [results, Tryz.results34, go_sem, x0, x1, x2, x3, x4]) rfl ?_
                    exact ⟨by rw [HR.out], (HF _ _ _ _ _).out⟩
                · have t45 : ((T[T.size - 1].toNat : Int) == 45) = false := Tp.eq_false (d := 45) h45
                  have bl := fun u => Lr.blank 0 u
                  have htr : Hid (Lx.trims T.data.toList = false) := by unfold Hid; rw [HTR.out, decide_eq_false h45, Bool.false_and]
                  clear h45 HTR
                  obtain ⟨V, hV⟩ : ∃ V : ByteArray, V = ⟨(Lx.left (T).data.toList).toArray⟩ := ⟨_, rfl⟩
                  have zU : (T).size ≤ T.size := by exact Nat.le_refl _
                  have zV : V.size ≤ (T).size := by rw [hV, ← Wk.len_data, ← Wk.len_data]; exact Lx.left_len _
                  have cl := fun u => Lr.left (T) u (by omega)
                  rw [← hV] at cl
                  have cr := fun u => Lr.right V u (by omega)
                  have HV : Hid (V.data.toList = Lx.left (T).data.toList) := by unfold Hid; rw [hV]
                  have ho : o = some ⟨i + 2, Lx.right V.data.toList, false, false⟩ := by
                    rw [← HO.out, HV.out]
                    exact Lx.plain_some HS2.out HTD.out htr.out (if_neg (by decide))
                  obtain ⟨R, hR⟩ : ∃ R : ByteArray, R = ⟨(Lx.right V.data.toList).toArray⟩ := ⟨_, rfl⟩
                  rw [← hR] at cr
                  have HR : Hid (La.val o = .agg #[.int .i64 ((i : Int) + 2), .string R, .bool false, .bool false, .bool true]) := by unfold Hid; rw [ho, hR]; rfl
                  clear HV HO HS2 HTD htr hV ho hR zU zV
                  go_wp2_with (first | (go_at_call 31; refine (bl _).mono ?_; rintro e w2 ⟨rfl, hw⟩; have hw := hw.symm; subst hw) | (go_at_call 30; refine (cl _).mono ?_; rintro e w2 ⟨rfl, hw⟩; have hw := hw.symm; subst hw) | (go_at_call 32; refine (cr _).mono ?_; rintro e w2 ⟨rfl, hw⟩; have hw := hw.symm; subst hw))
                  refine bodyPost_ret (v := .agg #[.int .i64 ((i : Int) + 2), .string R, .bool false, .bool false, .bool true]) (by simp [results, Tryz.results34, go_sem, x0, x1, x2, x3, x4]) rfl ?_
                  exact ⟨by rw [HR.out], (HF _ _ _ _ _).out⟩
          · have d2 : decide ((i : Int) + 1 < (s.size : Int)) = false := decide_eq_false (by omega)
            have HS2 : Hid (Lx.find false false k (s.data.toList.drop k) = Lx.find false false (i + 1) (s.data.toList.drop (i + 1))) := HS.out.trans (Lx.find_out hlt h34 (Lx.two_false (by omega) _ _))
            clear h34 HS
            go_wp2_with fail
            go_roundw
            case rel => exact ⟨i + 1, false, by omega, by omega, rfl, by go_num, HS2, by first | rfl | trivial⟩
            case measure => simp [intOf]; omega
    · have d1 : decide ((i : Int) < (s.size : Int)) = false := decide_eq_false (by omega)
      have ho : o = none := by
        rw [← HO.out]
        exact Lx.plain_none (HS.out.trans (Lx.find_nil _ _ (by omega)))
      subst ho
      clear HO HS
      go_wp2_with fail
      refine bodyPost_ret (v := .agg #[.int .i64 0, .string ⟨#[]⟩, .bool false, .bool false, .bool false]) (by simp [results, Tryz.results34, go_sem, x0, x1, x2, x3, x4]) rfl ?_
      exact ⟨rfl, (HF _ _ _ _ _).out⟩
end Go.Proofs.YtjppobeomocgbaaGreatDoor

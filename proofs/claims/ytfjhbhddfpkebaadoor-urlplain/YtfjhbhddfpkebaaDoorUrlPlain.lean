/-
  THE WALK of stolelaw9.UrlPlain: for any text it returns true.
-/
import Derived.Test.YtfjhbhddfpkebaaDoorQTo
namespace Go.Proofs.YtfjhbhddfpkebaaDoor
open Go.RowKit
theorem Up.cut {s : ByteArray} {i : Nat} (h : i < s.size) : (s.extract i (i + 1)).data.toList = [s[i]] := by
  have hl : i < s.data.toList.length := by rw [Wk.len_data]; exact h
  rw [ByteArray.data_extract, Array.toList_extract]
  rw [List.extract_eq_take_drop, show i + 1 - i = 1 by omega, List.drop_eq_getElem_cons hl]
  simp [ByteArray.getElem_eq_getElem_data]
theorem Ug.norm_low {l : List UInt8} (h : ∀ d ∈ l, d ≠ 0 ∧ d.toNat < 128) : Pl.normL l = l := by
  refine Pl.norm_of_may l ?_
  have := Pl.may_ascii l [] h
  rw [List.append_nil] at this
  rw [this]
  rfl
/-- the four calls on what was kept -/
theorem Up.kept {T : ByteArray} (h : ∀ d ∈ T.data.toList, Ug.stays Ug.plain d = true) :
    Ug.part T.data.toList = T.data.toList ∧ Ug.start T.data.toList = T.data.toList
      ∧ Ug.start (⟨#[47]⟩ ++ T ++ ⟨#[63, 97, 61, 98, 38, 99, 35, 37, 52, 49]⟩ : ByteArray).data.toList = (⟨#[47]⟩ ++ T ++ ⟨#[63, 97, 61, 98, 38, 99, 35, 37, 52, 49]⟩ : ByteArray).data.toList
      ∧ Ug.part (⟨#[47]⟩ ++ T ++ ⟨#[32]⟩ : ByteArray).data.toList = (⟨#[37, 50, 70]⟩ ++ T ++ ⟨#[37, 50, 48]⟩ : ByteArray).data.toList := by
  obtain ⟨h1, h2⟩ := Ug.plain_part h
  refine ⟨h1, h2, ?_, ?_⟩
  · rw [Wk.cat2_data, Wk.cat2_data]
    show Ug.start (47 :: (T.data.toList ++ [63, 97, 61, 98, 38, 99, 35, 37, 52, 49])) = 47 :: (T.data.toList ++ [63, 97, 61, 98, 38, 99, 35, 37, 52, 49])
    refine Ug.slash fun d hd => ?_
    rw [List.mem_append] at hd
    rcases hd with hd | hd
    · exact (Ug.plain_more d (h d hd)).1
    · have : ∀ d ∈ [63, 97, 61, 98, 38, 99, 35, 37, 52, 49], Ug.stays Ug.more d = true := by decide +kernel
      exact this d hd
  · rw [Wk.cat2_data, Wk.cat2_data, Wk.cat2_data, Wk.cat2_data]
    show Ug.part ([47] ++ T.data.toList ++ [32]) = [37, 50, 70] ++ T.data.toList ++ [37, 50, 48]
    have e : Pl.normL ([47] ++ T.data.toList ++ [32]) = [47] ++ T.data.toList ++ [32] := by
      refine Ug.norm_low fun d hd => ?_
      rw [List.mem_append, List.mem_append] at hd
      rcases hd with (hd | hd) | hd
      · rw [List.mem_singleton.1 hd]
        decide
      · have := Ug.plain_more d (h d hd)
        exact ⟨fun e => by have := this.2.1; rw [e] at this; exact absurd this (by decide), this.2.2.1⟩
      · rw [List.mem_singleton.1 hd]
        decide
    unfold Ug.part at h1 ⊢
    rw [e, Ug.pct_append, Ug.pct_append, Ug.pct_stays h]
    rfl
theorem Up.grow {T s : ByteArray} {i : Nat} (hi : i < s.size) (h : ∀ d ∈ T.data.toList, Ug.stays Ug.plain d = true) (hc : Ug.stays Ug.plain s[i] = true) : ∀ d ∈ (T ++ s.extract i (i + 1)).data.toList, Ug.stays Ug.plain d = true := fun d hd => by
  rw [Wk.cat2_data, Up.cut hi, List.mem_append] at hd
  rcases hd with hd | hd
  · exact h d hd
  · rw [List.mem_singleton.1 hd]
    exact hc
theorem Up.grow_size {T s : ByteArray} {i : Nat} (hi : i < s.size) : (T ++ s.extract i (i + 1)).size = T.size + 1 := by
  rw [Wk.cat2_size, ← Wk.len_data (s.extract i (i + 1)), Up.cut hi]
  rfl
set_option maxRecDepth 100000 in
set_option maxHeartbeats 4000000 in
theorem Law.urlPlain (s : ByteArray) (w : World) (hT : Ut w) : Calls Tryd.prog 7 #[.string s] w fun e w' => e = .returned (.bool true) ∧ Below w.heap.size w w' := by
  have let1 := fun c u => Rt.letter c u
  have dig1 := fun c u => Rt.digit c u
  go_enter Tryd.func7, Tryd.ntmps7
  go_wp2_with fail
  refine (Ua.awake w hT).mono ?_
  rintro e w1 ⟨rfl, b1⟩
  have t1 := Utf8Tabs_below hT b1
  go_wp2_with fail
  go_loopw [3, 4] (fun tv ix wr => ∃ (i : Nat) (T : ByteArray), i ≤ s.size ∧ i ≤ 300 ∧ ix = .int .i64 (i : Int) ∧ tv = .string T ∧ T.size ≤ i ∧ Hid (∀ d ∈ T.data.toList, Ug.stays Ug.plain d = true) ∧ wr = w1) (fun _ ix _ => s.size - (intOf ix).toNat)
  case atStart => exact ⟨0, ⟨#[]⟩, Nat.zero_le _, Nat.zero_le _, rfl, rfl, Nat.zero_le _, (fun d hd => by cases hd), rfl⟩
  case round =>
    obtain ⟨i, T, hi, hi3, rfl, rfl, hTs, HT, hw⟩ := hrel
    have hw := hw.symm
    subst hw
    by_cases hlt : i < s.size ∧ i < 300
    · obtain ⟨hlt, h300⟩ := hlt
      have d1 : decide ((i : Int) < (s.size : Int)) = true := decide_eq_true (by omega)
      have d2 : decide ((i : Int) < 300) = true := decide_eq_true (by omega)
      have HG : Hid (Ug.stays Ug.plain s[i] = true → ∀ d ∈ (T ++ s.extract i (i + 1)).data.toList, Ug.stays Ug.plain d = true) := Up.grow hlt HT.out
      have hgs := Up.grow_size (T := T) hlt
      have HST : Hid (Ug.stays Ug.plain s[i] = (Pl.letter s[i] || Pl.digit s[i] || (decide (s[i] = 45) || decide (s[i] = 46) || decide (s[i] = 95) || decide (s[i] = 126)))) := by
        unfold Hid Ug.stays
        congr 1
        rw [Bool.eq_iff_iff]
        simp [Ug.plain, or_assoc]
      have hsl : ∀ u, (Instr.slice 9 (.string s) (some (.int .i64 (i : Int))) (some (.int .i64 ((i : Int) + 1))) none).run Tryd.prog u = .ok (.string (s.extract i (i + 1))) u := fun u => by
        have h := Wk.run_cut u s (i : Int) ((i : Int) + 1) (by omega) (by omega) (by omega)
        rw [h]
        rfl
      have let1 := let1 s[i]
      have dig1 := dig1 s[i]
      have f1 : ((s[i].toNat : Int) == 45) = decide (s[i] = 45) := Qs.eq_dec s[i] 45
      have f2 : ((s[i].toNat : Int) == 46) = decide (s[i] = 46) := Qs.eq_dec s[i] 46
      have f3 : ((s[i].toNat : Int) == 95) = decide (s[i] = 95) := Qs.eq_dec s[i] 95
      have f4 : ((s[i].toNat : Int) == 126) = decide (s[i] = 126) := Qs.eq_dec s[i] 126
      generalize Ug.stays Ug.plain s[i] = bs at *
      generalize Pl.letter s[i] = bl at *
      generalize Pl.digit s[i] = bd at *
      generalize decide (s[i] = 45) = k1 at *
      generalize decide (s[i] = 46) = k2 at *
      generalize decide (s[i] = 95) = k3 at *
      generalize decide (s[i] = 126) = k4 at *
      have hcs : (bl = true) ∨ (bl = false ∧ bd = true) ∨ (bl = false ∧ bd = false ∧ k1 = true) ∨ (bl = false ∧ bd = false ∧ k1 = false ∧ k2 = true) ∨ (bl = false ∧ bd = false ∧ k1 = false ∧ k2 = false ∧ k3 = true) ∨ (bl = false ∧ bd = false ∧ k1 = false ∧ k2 = false ∧ k3 = false ∧ k4 = true) ∨ (bl = false ∧ bd = false ∧ k1 = false ∧ k2 = false ∧ k3 = false ∧ k4 = false) := by
        cases bl <;> cases bd <;> cases k1 <;> cases k2 <;> cases k3 <;> cases k4 <;> simp
      rcases hcs with rfl | ⟨rfl, rfl⟩ | ⟨rfl, rfl, rfl⟩ | ⟨rfl, rfl, rfl, rfl⟩ | ⟨rfl, rfl, rfl, rfl, rfl⟩ | ⟨rfl, rfl, rfl, rfl, rfl, rfl⟩ | ⟨rfl, rfl, rfl, rfl, rfl, rfl⟩
      all_goals
        have q := HST.out
        simp only [Bool.true_or, Bool.or_true, Bool.or_false] at q
        subst q
        clear HST
        go_wp2_with (first | (go_at_call 18; refine (let1 _).mono ?_; rintro e w' ⟨rfl, hw⟩; have hw := hw.symm; subst hw) | (go_at_call 19; refine (dig1 _).mono ?_; rintro e w' ⟨rfl, hw⟩; have hw := hw.symm; subst hw))
        go_roundw
        case rel => first | exact ⟨i + 1, T ++ s.extract i (i + 1), by omega, by omega, by go_num, by first | rfl | go_num, by omega, HG.out (by trivial), by first | rfl | trivial⟩ | exact ⟨i + 1, T, by omega, by omega, by go_num, rfl, by omega, HT, by first | rfl | trivial⟩
        case measure => simp [intOf]; omega
    · obtain ⟨k1, k2, k3, k4⟩ := Up.kept HT.out
      have c1 := fun u hT => Up.part_to k1 u hT (by omega)
      have c2 := fun u hT => Up.start_to k2 u hT (by omega)
      have c3 := fun u hT => Up.start_to k3 u hT (by rw [Wk.cat2_size, Wk.cat2_size]; show 1 + T.size + 10 ≤ _; omega)
      have c4 := fun u hT => Up.part_to k4 u hT (by rw [Wk.cat2_size, Wk.cat2_size]; show 1 + T.size + 1 ≤ _; omega)
      clear k1 k2 k3 k4 let1 dig1 HT
      have hcs : (¬ i < s.size) ∨ (i < s.size ∧ ¬ i < 300) := by omega
      clear hlt
      rcases hcs with hlt | ⟨hlt, h300⟩
      all_goals
        go_wp2_with fail
        refine (c1 _ t1).mono ?_
        rintro e w2 ⟨rfl, b2⟩
        have t2 := Utf8Tabs_below t1 b2
        have b2' := Wk.below_step b1 b2
        clear b1 b2 t1
        go_wp2_with fail
        refine (c2 _ t2).mono ?_
        rintro e w3 ⟨rfl, b3⟩
        have t3 := Utf8Tabs_below t2 b3
        have b3' := Wk.below_step b2' b3
        clear b2' b3 t2
        go_wp2_with fail
        refine (c3 _ t3).mono ?_
        rintro e w4 ⟨rfl, b4⟩
        have t4 := Utf8Tabs_below t3 b4
        have b4' := Wk.below_step b3' b4
        clear b3' b4 t3
        go_wp2_with fail
        refine (c4 _ t4).mono ?_
        rintro e w5 ⟨rfl, b5⟩
        have b5' := Wk.below_step b4' b5
        clear b4' b5 t4 c1 c2 c3 c4
        go_wp2_with fail
        refine (Wk.num _).mono ?_
        rintro e w6 ⟨rfl, rfl⟩
        go_wp2
        go_ret
        exact ⟨rfl, b5'⟩
end Go.Proofs.YtfjhbhddfpkebaaDoor

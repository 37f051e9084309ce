/-
  THE WALK of stolelaw10.JsonBack: it returns true.
-/
import Derived.Test.YtboalkfagfgnpaaGreatDoorBJReadW
import Derived.Test.YtboalkfagfgnpaaGreatDoorBJQuiet
namespace Go.Proofs.YtboalkfagfgnpaaGreatDoor
open Go.RowKit
theorem Js.bits_lies {w : World} {R : Nat → Prop} : ∀ {t : Vt} {v : Value}, t.Lies w R v → Js.Bits t := by
  intro t
  induction t with
  | nil => intro v h; exact h.elim
  | mk k x b s n it m ks ih =>
    rintro v ⟨_, _, _, _, _, hb, _, _, _, hi⟩
    refine ⟨hb, fun i hin => ?_⟩
    obtain ⟨_, _, _, _, _, _, _, _, _, _, _, _, _, _, _, _, hl⟩ := hi i hin
    exact ih i hl
theorem Js.clean_at : ∀ {l : List UInt8}, Js.dirty l = false → ∀ {i : Nat} {c : UInt8}, l[i]? = some c → Js.line c (l.drop (i + 1)) = false
  | [], _, i, c, h => by simp at h
  | a :: r, hd, 0, c, h => by
    rw [Js.dirty, Bool.or_eq_false_iff] at hd
    have : a = c := by simpa using h
    rw [← this]
    exact hd.1
  | a :: r, hd, i + 1, c, h => by
    rw [Js.dirty, Bool.or_eq_false_iff] at hd
    exact Js.clean_at hd.2 (i := i) (by simpa using h)
theorem Jb.at {T : ByteArray} {i : Nat} (h : i < T.size) : T.data.toList[i]? = some T[i] := by
  rw [List.getElem?_eq_getElem (by rw [Array.length_toList]; exact h)]
  simp [ByteArray.getElem_eq_getElem_data]
theorem Jb.same {a b : Vt} (h : a.eq b = true) {u : World} {v v' : Value} (h1 : a.Lies u (· < u.heap.size) v) (h2 : b.Lies u (· < u.heap.size) v') : Calls Tryz.prog 11 #[v, v'] u fun e w' => e = .returned (.bool true) ∧ Below u.heap.size u w' := by
  have := Vs.same a b v v' u h1 h2
  rw [h] at this
  exact this
theorem Jb.ne {c d : UInt8} (h : c ≠ d) : ((c.toNat : Int) == (d.toNat : Int)) = false := by
  rw [beq_eq_false_iff_ne]
  exact fun q => h (UInt8.toNat_inj.1 (by omega))
/-- what a byte of what is put is not -/
theorem Jb.byte {P : ByteArray} {t : Vt} (hP : P.data.toList = Js.put t) (hd : Js.dirty (Js.put t) = false) {i : Nat} (h : i < P.size) : P[i] ≠ 60 ∧ P[i] ≠ 62 ∧ P[i] ≠ 38 ∧ P[i] ≠ 39 ∧ 32 ≤ P[i].toNat ∧ (P[i] ≠ 226 ∨ ¬ i + 2 < P.size ∨ ∃ (h1 : i + 1 < P.size) (h2 : i + 2 < P.size), P[i + 1] ≠ 128 ∨ (P[i + 1] = 128 ∧ P[i + 2] ≠ 168 ∧ P[i + 2] ≠ 169)) := by
  have hm : P[i] ∈ Js.put t := by rw [← hP]; exact List.mem_of_getElem? (Jb.at h)
  have hg := Js.put_good t _ hm
  unfold Js.good at hg
  simp only [Bool.and_eq_true, decide_eq_true_eq, Bool.not_eq_true', decide_eq_false_iff_not] at hg
  refine ⟨hg.1.1.1.2, hg.1.1.2, hg.1.2, hg.2, hg.1.1.1.1, ?_⟩
  by_cases h226 : P[i] = 226
  · by_cases h2 : i + 2 < P.size
    · refine .inr (.inr ⟨by omega, h2, ?_⟩)
      have hl := Js.clean_at hd (i := i) (c := P[i]) (by rw [← hP]; exact Jb.at h)
      rw [← hP] at hl
      unfold Js.line at hl
      rw [h226, List.getElem?_drop, List.getElem?_drop, Nat.add_zero, Jb.at (show i + 1 < P.size by omega), show i + 1 + 1 = i + 2 from rfl, Jb.at h2] at hl
      by_cases h128 : P[i + 1] = 128
      · refine .inr ⟨h128, ?_, ?_⟩
        · intro q
          rw [h128, q] at hl
          exact absurd hl (by decide)
        · intro q
          rw [h128, q] at hl
          exact absurd hl (by decide)
      · exact .inl h128
    · exact .inr (.inl h2)
  · exact .inl h226
set_option maxRecDepth 100000 in
set_option maxHeartbeats 8000000 in
theorem Law.jsonBack (t : Vt) (v : Value) (w : World) (hT : Jt w) (hl : t.Lies w (· < w.heap.size) v) : Calls Tryz.prog 4 #[v] w fun e w' => e = .returned (.bool true) ∧ Below w.heap.size w w' := by
  obtain ⟨k, x, b, s, ai, n, c, ak, m, d, rfl⟩ := hl.form
  have LW := Jl.below (Below.refl w.heap.size w) (.cells #[.int .i64 k, .int .i64 x, .int .u64 (b : Int), .string s, .slice ai n c, .slice ak m d] 26)
  have S0 : Hid (Jz.S t w (w.alloc (.cells #[.int .i64 k, .int .i64 x, .int .u64 (b : Int), .string s, .slice ai n c, .slice ak m d] 26)) w.heap.size (.int .i64 k) (.int .i64 x) (.int .u64 (b : Int)) (.string s) (.slice ai n c) (.slice ak m d)) :=
    ⟨LW, hT.on LW, ⟨Vm.new _ _⟩, hl.on fun g hg => ⟨by simp; omega, Below.heap_alloc _ _ _ hg⟩⟩
  have HBT := Lib.hid (Js.bits_lies hl)
  have er := fun x u => Vn.errno x u
  clear hl LW
  obtain ⟨P, hP⟩ : ∃ P : ByteArray, P = ⟨(Js.said t).toArray⟩ := ⟨_, rfl⟩
  have pt := fun v u hu hl => Jc.put_to (t := t) (s := P) (x := Js.err t) hP.symm rfl v u hu hl
  by_cases hok : t.may = true ∧ (Js.put t).length ≤ 65536
  · have p2 : Js.err t = 0 := by unfold Js.err; rw [if_pos hok.1, if_pos hok.2]
    have hPl : P.data.toList = Js.put t := by rw [hP]; unfold Js.said; rw [if_pos hok]
    rw [p2] at pt
    have HOK := Lib.hid (Js.ok_of_may hok.1 HBT.out)
    have HCL := Lib.hid (Js.put_clean 8 t HOK.out)
    have hPs : P.size ≤ 65536 := by
      have := hok.2
      rw [← hPl] at this
      exact this
    have HPL := Lib.hid hPl
    have HGB := Lib.hid (fun hk => Js.get_put hok.1 HBT.out hk hok.2)
    clear hP p2 hPl hok HBT
    go_enter Tryz.func4, Tryz.ntmps4
    go_wp2_with fail
    generalize w.alloc (.cells #[.int .i64 k, .int .i64 x, .int .u64 (b : Int), .string s, .slice ai n c, .slice ak m d] 26) = W0 at *
    generalize w.heap.size = g0 at *
    refine (Ja.awake W0 S0.out.tab).mono ?_
    rintro e w1 ⟨rfl, b1⟩
    have S1 := Lib.hid (S0.out.on b1)
    clear b1 S0
    obtain ⟨q0, q1, q2, q3, q4, q5⟩ := S1.out.box.cells
    go_wp2_with fail
    refine (pt _ _ S1.out.tab S1.out.lies).mono ?_
    rintro e w2 ⟨rfl, b2⟩
    have S2 := Lib.hid (S1.out.on b2)
    clear b2 S1 pt q0 q1 q2 q3 q4 q5
    go_wp2_with (go_at_call 10; refine (er _ _).mono ?_; rintro e w' ⟨rfl, hw⟩; have hw := hw.symm; subst hw)
    go_loopw [5] (fun ix wr => ∃ i : Nat, i ≤ P.size ∧ ix = .int .i64 (i : Int) ∧ wr = w2) (fun ix _ => P.size - (intOf ix).toNat)
    case atStart => exact ⟨0, Nat.zero_le _, rfl, rfl⟩
    case round =>
      obtain ⟨i, hi, rfl, hw⟩ := hrel
      have hw := hw.symm
      subst hw
      by_cases hlt : i < P.size
      · have d1 : decide ((i : Int) < (P.size : Int)) = true := decide_eq_true (by omega)
        obtain ⟨h1, h2, h3, h4, h5, h6⟩ := Jb.byte HPL.out HCL.out hlt
        have t1 : ((P[i].toNat : Int) == 60) = false := Jb.ne (d := 60) h1
        have t2 : ((P[i].toNat : Int) == 62) = false := Jb.ne (d := 62) h2
        have t3 : ((P[i].toNat : Int) == 38) = false := Jb.ne (d := 38) h3
        have t4 : ((P[i].toNat : Int) == 39) = false := Jb.ne (d := 39) h4
        have t5 : decide ((P[i].toNat : Int) < 32) = false := decide_eq_false (by omega)
        clear h1 h2 h3 h4 h5 HGB HOK HCL HPL
        rcases h6 with h | h | ⟨g1, g2, h | ⟨ha, hb, hc⟩⟩
        · have t6 : ((P[i].toNat : Int) == 226) = false := Jb.ne (d := 226) h
          clear h
          go_wp2_with fail
          go_roundw
          case rel => exact ⟨i + 1, by omega, by go_num, by first | rfl | trivial⟩
          case measure => simp [intOf]; omega
        · have t7 : decide ((i : Int) + 2 < (P.size : Int)) = false := decide_eq_false (by omega)
          by_cases h226 : P[i] = 226
          · have t6 : ((P[i].toNat : Int) == 226) = true := by rw [h226]; rfl
            clear h226
            go_wp2_with fail
            go_roundw
            case rel => exact ⟨i + 1, by omega, by go_num, by first | rfl | trivial⟩
            case measure => simp [intOf]; omega
          · have t6 : ((P[i].toNat : Int) == 226) = false := Jb.ne (d := 226) h226
            clear h226
            go_wp2_with fail
            go_roundw
            case rel => exact ⟨i + 1, by omega, by go_num, by first | rfl | trivial⟩
            case measure => simp [intOf]; omega
        · have t7 : decide ((i : Int) + 2 < (P.size : Int)) = true := decide_eq_true (by omega)
          have t8 : ((P[i + 1].toNat : Int) == 128) = false := Jb.ne (d := 128) h
          clear h
          by_cases h226 : P[i] = 226
          · have t6 : ((P[i].toNat : Int) == 226) = true := by rw [h226]; rfl
            clear h226
            go_wp2_with fail
            go_roundw
            case rel => exact ⟨i + 1, by omega, by go_num, by first | rfl | trivial⟩
            case measure => simp [intOf]; omega
          · have t6 : ((P[i].toNat : Int) == 226) = false := Jb.ne (d := 226) h226
            clear h226
            go_wp2_with fail
            go_roundw
            case rel => exact ⟨i + 1, by omega, by go_num, by first | rfl | trivial⟩
            case measure => simp [intOf]; omega
        · have t7 : decide ((i : Int) + 2 < (P.size : Int)) = true := decide_eq_true (by omega)
          have t8 : ((P[i + 1].toNat : Int) == 128) = true := by rw [ha]; rfl
          have t9 : ((P[i + 2].toNat : Int) == 168) = false := Jb.ne (d := 168) hb
          have ta : ((P[i + 2].toNat : Int) == 169) = false := Jb.ne (d := 169) hc
          clear ha hb hc
          by_cases h226 : P[i] = 226
          · have t6 : ((P[i].toNat : Int) == 226) = true := by rw [h226]; rfl
            clear h226
            go_wp2_with fail
            go_roundw
            case rel => exact ⟨i + 1, by omega, by go_num, by first | rfl | trivial⟩
            case measure => simp [intOf]; omega
          · have t6 : ((P[i].toNat : Int) == 226) = false := Jb.ne (d := 226) h226
            clear h226
            go_wp2_with fail
            go_roundw
            case rel => exact ⟨i + 1, by omega, by go_num, by first | rfl | trivial⟩
            case measure => simp [intOf]; omega
      · have d1 : decide ((i : Int) < (P.size : Int)) = false := decide_eq_false (by omega)
        go_wp2_with fail
        clear d1 hlt hi
        have km : ∀ v u, t.Lies u (· < u.heap.size) v → Calls Tryz.prog 13 #[v, .int .i64 8] u fun r w' => r = .returned (.bool (Js.keysB 8 t)) ∧ Below u.heap.size u w' := fun v u hl => Jb.keysMay 8 t HOK.out 8 v u (by decide) hl
        cases hkb : Js.keysB 8 t
        · rw [hkb] at km
          obtain ⟨X, hX, hXs⟩ : ∃ X, Js.gerr P.data.toList = X ∧ (X = 0 ∨ X = 1000) := by
            refine ⟨_, rfl, ?_⟩
            unfold Js.gerr
            split
            · exact .inl rfl
            · exact .inr rfl
          refine (Jc.get_to rfl hX _ S2.out.tab).mono ?_
          rintro e w4 ⟨v4, rfl, l4, b4⟩
          obtain ⟨k4, x4, d4, s4, ai4, n4, c4, ak4, m4, e4, rfl⟩ := l4.form
          have S4 : Hid (Jz.S t w (w4.alloc (.cells #[.int .i64 k4, .int .i64 x4, .int .u64 (d4 : Int), .string s4, .slice ai4 n4 c4, .slice ak4 m4 e4] 26)) g0 _ _ _ _ _ _) := (S2.out.on b4).on (Jl.below (Below.refl _ _) _)
          clear l4 b4 S2 HGB HOK HCL HPL hX hkb
          generalize hgW : w4.alloc (.cells #[.int .i64 k4, .int .i64 x4, .int .u64 (d4 : Int), .string s4, .slice ai4 n4 c4, .slice ak4 m4 e4] 26) = W4 at *
          obtain ⟨q0, q1, q2, q3, q4, q5⟩ := S4.out.box.cells
          rcases hXs with rfl | rfl
          all_goals
            go_wp2_with fail
            refine (km _ _ S4.out.lies).mono ?_
            rintro e w5 ⟨rfl, b5⟩
            have B5 := Lib.hid (Wk.below_step S4.out.low b5)
            clear b5 km
            go_wp2_with (go_at_call 10; refine (er _ _).mono ?_; rintro e w' ⟨rfl, hw⟩; have hw := hw.symm; subst hw)
            go_ret
            exact ⟨rfl, B5.out⟩
        · rw [hkb] at km
          have hgb := HGB.out (Js.keys_of 8 t hkb)
          rw [← HPL.out] at hgb
          obtain ⟨h1, h2⟩ := Js.got_some hgb
          refine (Jc.get_to h1 h2 _ S2.out.tab).mono ?_
          rintro e w4 ⟨v4, rfl, l4, b4⟩
          obtain ⟨k4, x4, d4, s4, ai4, n4, c4, ak4, m4, e4, rfl⟩ := l4.form
          have S4 : Hid (Jz.S t w (w4.alloc (.cells #[.int .i64 k4, .int .i64 x4, .int .u64 (d4 : Int), .string s4, .slice ai4 n4 c4, .slice ak4 m4 e4] 26)) g0 _ _ _ _ _ _) := (S2.out.on b4).on (Jl.below (Below.refl _ _) _)
          have X4 : Hid (Jz.S (Js.back t) w (w4.alloc (.cells #[.int .i64 k4, .int .i64 x4, .int .u64 (d4 : Int), .string s4, .slice ai4 n4 c4, .slice ak4 m4 e4] 26)) w4.heap.size (.int .i64 k4) (.int .i64 x4) (.int .u64 (d4 : Int)) (.string s4) (.slice ai4 n4 c4) (.slice ak4 m4 e4)) := ⟨S4.out.low, S4.out.tab, ⟨Vm.new _ _⟩, l4.on fun g hg => ⟨by simp; omega, Below.heap_alloc _ _ _ hg.2⟩⟩
          have HRE := Lib.hid (Js.read_eq 8 t 8 HOK.out (Nat.le_refl _))
          have rd : ∀ v u, t.Lies u (· < u.heap.size) v → Calls Tryz.prog 14 #[v, .int .i64 8] u fun r w' => ∃ v', r = .returned v' ∧ (Js.readT 8 t).Lies w' (· < w'.heap.size) v' ∧ Below u.heap.size u w' := fun v u hl => Jb.read 8 t HOK.out 8 v u (by decide) hl
          clear l4 b4 S2 HGB HOK HCL HPL hkb hgb h1 h2
          generalize hgW : w4.alloc (.cells #[.int .i64 k4, .int .i64 x4, .int .u64 (d4 : Int), .string s4, .slice ai4 n4 c4, .slice ak4 m4 e4] 26) = W4 at *
          obtain ⟨q0, q1, q2, q3, q4, q5⟩ := S4.out.box.cells
          go_wp2_with fail
          clear hgW
          generalize w4.heap.size = g4 at *
          refine (km _ _ S4.out.lies).mono ?_
          rintro e w5 ⟨rfl, b5⟩
          have S5 := Lib.hid (S4.out.on b5)
          have X5 := Lib.hid (X4.out.on b5)
          clear b5 km S4 X4 q0 q1 q2 q3 q4 q5
          obtain ⟨q0, q1, q2, q3, q4, q5⟩ := S5.out.box.cells
          obtain ⟨r0, r1, r2, r3, r4, r5⟩ := X5.out.box.cells
          go_wp2_with fail
          go_region_with (first | (go_at_call 10; refine (er _ _).mono ?_; rintro e w' ⟨rfl, hw⟩; have hw := hw.symm; subst hw) | (go_at_call 14; refine (rd _ _ (S5.out.on (Below.refl _ _).drew).lies).mono ?_; rintro e w6 ⟨v6, rfl, l6, b6⟩; obtain ⟨k6, x6, d6, s6, ai6, n6, c6, ak6, m6, e6, rfl⟩ := l6.form; have X6 := Lib.hid (X5.out.on (Vs.back b6)); have L6 := Lib.hid l6; have y0 := X6.out.box.cells.1; have y1 := X6.out.box.cells.2.1; have y2 := X6.out.box.cells.2.2.1; have y3 := X6.out.box.cells.2.2.2.1; have y4 := X6.out.box.cells.2.2.2.2.1; have y5 := X6.out.box.cells.2.2.2.2.2; clear l6 b6) | (go_at_call 11; refine (Jb.same HRE.out X6.out.lies L6.out).mono ?_; rintro e w7 ⟨rfl, b7⟩; have B7 := Lib.hid (Wk.below_step X6.out.low b7); clear b7))
          all_goals go_wp2
          all_goals go_ret
          all_goals exact ⟨rfl, B7.out⟩
  · have hPe : (P.toList == []) = true := by
      rw [hP, ByteArray.toList_eq]
      unfold Js.said
      rw [if_neg hok]
      rfl
    obtain ⟨X, hX, hX0⟩ : ∃ X, Js.err t = X ∧ (X != 0) = true := by
      refine ⟨_, rfl, ?_⟩
      unfold Js.err
      split
      · rename_i hm
        rw [if_neg (fun q => hok ⟨hm, q⟩)]
        rfl
      · rfl
    rw [hX] at pt
    clear hX hok hP HBT
    go_enter Tryz.func4, Tryz.ntmps4
    go_wp2_with fail
    generalize w.alloc (.cells #[.int .i64 k, .int .i64 x, .int .u64 (b : Int), .string s, .slice ai n c, .slice ak m d] 26) = W0 at *
    generalize w.heap.size = g0 at *
    refine (Ja.awake W0 S0.out.tab).mono ?_
    rintro e w1 ⟨rfl, b1⟩
    have S1 := Lib.hid (S0.out.on b1)
    clear b1 S0
    obtain ⟨q0, q1, q2, q3, q4, q5⟩ := S1.out.box.cells
    go_wp2_with fail
    refine (pt _ _ S1.out.tab S1.out.lies).mono ?_
    rintro e w2 ⟨rfl, b2⟩
    have S2 := Lib.hid (S1.out.on b2)
    clear b2 S1 pt q0 q1 q2 q3 q4 q5
    go_wp2_with (go_at_call 10; refine (er _ _).mono ?_; rintro e w' ⟨rfl, hw⟩; have hw := hw.symm; subst hw)
    go_ret
    exact ⟨rfl, S2.out.low⟩
end Go.Proofs.YtboalkfagfgnpaaGreatDoor

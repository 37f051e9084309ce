/-
  THE WALK of stolelaw15.PipeRows: it returns true.
-/
import Derived.Test.YtjmobhohfcieoaaIRows
namespace Go.Proofs.Ytjmobhohfcieoaa
open Go.RowKit
set_option maxRecDepth 100000 in
set_option maxHeartbeats 4000000 in
theorem Law.pipeRows (x y : Int) (w : World) (hT : Ip.T w) :
    Calls Try.prog 5 #[.int .i64 x, .int .i64 y] w fun e w' => e = .returned (.bool true) ∧ Below w.heap.size w w' := by
  have aw := fun u h => Iw.awake u h
  have nm := fun x u => Iw.num x u
  have HT := Lib.hid hT
  obtain ⟨k0, hk0, hz1, hz2⟩ := Ir.index12 x
  obtain ⟨m, hm, hy1, hy2⟩ := Ir.index12 y
  obtain ⟨K, hK⟩ : ∃ K : Nat, K = k0 + 1 := ⟨_, rfl⟩
  have hk1 : 1 ≤ K := by omega
  have hk2 : K ≤ 12 := by omega
  have hz3 : wrap64 (1 + (k0 : Int)) = (K : Int) := by unfold wrap64; omega
  have hz4 : IntKind.i64.wrap (1 + (k0 : Int)) = (K : Int) := by rw [IntKind.wrap_i64]; omega
  have ps := fun a d R u (h : Ip.T u) l => Ip.parse (Ir.words m K) (.slice a (Ir.words m K).length d) R u h l (Ir.fits m K hk2 hm)
  rw [Ir.parse K m hk1 hk2 hm] at ps
  have PS := Lib.hid ps
  clear hT hK ps
  go_enter Try.func5, Try.ntmps5
  go_wp2_with (first | (go_at_call 15; with_reducible refine Calls.mono (aw _ HT.out) ?_; rintro e w1 ⟨rfl, b1⟩; have HB1 := Lib.hid b1; clear b1))
  go_loopw [7, 8] (fun ov iv wr => ∃ (i : Nat) (l : List Wi) (a : Option Addr) (d : Nat) (xs : List Value), i ≤ K ∧ ov = .slice a l.length d ∧ iv = .int .i64 (i : Int) ∧ Hid (l = Ir.words m i) ∧ l.length ≤ i * 13 ∧ Hid (Wi.Own w1.heap.size l wr (.slice a l.length d) xs) ∧ Hid (Below w1.heap.size w1 wr)) (fun _ iv _ => K - (intOf iv).toNat)
  case atStart => exact ⟨0, [], none, 0, [], Nat.zero_le _, rfl, rfl, rfl, Nat.zero_le _, Gr.Own.nil _ _ _ _ _, Below.refl _ _⟩
  case round =>
    obtain ⟨i, l, a, d, xs, hi, rfl, rfl, HLE, hl13, HO, HB⟩ := hrel
    by_cases hlt : i < K
    · have dlt : decide ((i : Int) < (K : Int)) = true := decide_eq_true (by omega)
      by_cases hi0 : 0 < i
      · have d0 : decide ((0 : Int) < (i : Int)) = true := decide_eq_true (by omega)
        go_upto_region 10 with (at_builtin; refine Ro.push rfl _ _ 22 45 4 56 _ rfl Try.underlying22 Wi.info rfl (by decide) _ rfl (HO.out.own.alloc _) wr.heap.size (Wi.four 5 ⟨#[]⟩ (.slice none 0 0) 0) rfl (Gr.cells wr (Wi.four 5 ⟨#[]⟩ (.slice none 0 0) 0) 45) rfl (Wi.ones _ _ _) (by unfold maxLen; omega) (by omega) (by have := HB.out.size; simp; omega) ?_; intro v7 w7 R7 hg7 hf7; obtain ⟨l2, a7, _, _, rfl, HE2, hlel2, HO2, b7⟩ := Wi.pushed (x := (⟨5, [], [], 0⟩ : Wi)) HO.out HB.out.size rfl rfl R7 hg7 hf7; have HB2 := Lib.hid (HB.out.trans b7); clear b7 R7 hg7 hf7)
        have HE2 : Hid (l2 = l ++ Ir.pre i) := by unfold Hid; rw [HE2.out]; unfold Ir.pre; rw [if_pos hi0]
        have hl2 : l2.length ≤ i * 13 + 1 := by have := hlel2.out; omega
        clear HO HB
        go_wp2_with (at_builtin; refine Ro.push rfl _ _ 22 45 4 56 _ rfl Try.underlying22 Wi.info rfl (by decide) _ rfl (HO2.out.own.alloc _) w7.heap.size (Wi.four 0 ⟨#[99, 97, 116]⟩ (.slice none 0 0) 0) rfl (Gr.cells w7 (Wi.four 0 ⟨#[99, 97, 116]⟩ (.slice none 0 0) 0) 45) rfl (Wi.ones _ _ _) (by unfold maxLen; omega) (by omega) (by have := HB2.out.size; simp; omega) ?_; intro v8 w8 R8 hg8 hf8; obtain ⟨l3, a8, _, _, rfl, HE3, hlel3, HO3, b7⟩ := Wi.pushed (x := (⟨0, Ir.cat, [], 0⟩ : Wi)) HO2.out HB2.out.size rfl rfl R8 hg8 hf8; have HB3 := Lib.hid (HB2.out.trans b7); clear b7 R8 hg8 hf8)
        go_loopw [7, 9] (fun ov jv wn => ∃ (j : Nat) (l5 : List Wi) (a : Option Addr) (d : Nat) (xs : List Value), j ≤ m ∧ ov = .slice a l5.length d ∧ jv = .int .i64 (j : Int) ∧ Hid (l5 = l3 ++ Ir.ints j) ∧ l5.length ≤ i * 13 + 2 + j ∧ Hid (Wi.Own w1.heap.size l5 wn (.slice a l5.length d) xs) ∧ Hid (Below w1.heap.size w1 wn)) (fun _ jv _ => m - (intOf jv).toNat)
        case atStart => exact ⟨0, l3, _, _, _, Nat.zero_le _, rfl, rfl, by unfold Hid; simp [Ir.ints], by have := hlel3.out; omega, HO3, HB3⟩
        case round =>
          obtain ⟨j, l5, a5, d5, xs5, hj, rfl, rfl, HE5, hl5, HO5, HB5⟩ := hrel
          by_cases hjl : j < m
          · have dlj : decide ((j : Int) < (m : Int)) = true := decide_eq_true (by omega)
            go_wp2_with (at_builtin; refine Ro.push rfl _ _ 22 45 4 56 _ rfl Try.underlying22 Wi.info rfl (by decide) _ rfl (HO5.out.own.alloc _) wr.heap.size (Wi.four 3 ⟨#[]⟩ (.slice none 0 0) (j : Int)) rfl (Gr.cells wr (Wi.four 3 ⟨#[]⟩ (.slice none 0 0) (j : Int)) 45) rfl (Wi.ones _ _ _) (by unfold maxLen; omega) (by omega) (by have := HB5.out.size; simp; omega) ?_; intro v9 w9 R9 hg9 hf9; obtain ⟨l6, a9, _, _, rfl, HE6, hlel6, HO6, b7⟩ := Wi.pushed (x := (⟨3, [], [], (j : Int)⟩ : Wi)) HO5.out HB5.out.size rfl rfl R9 hg9 hf9; have HB6 := Lib.hid (HB5.out.trans b7); clear b7 R9 hg9 hf9)
            go_roundw
            case rel => exact ⟨j + 1, l6, _, _, _, by omega, rfl, by go_num, by unfold Hid; rw [HE6.out, HE5.out, Ir.ints_succ, List.append_assoc], by have := hlel6.out; omega, HO6, HB6⟩
            case measure => simp [intOf]; omega
          · have ej : j = m := by omega
            subst ej
            have dlj : decide ((j : Int) < (j : Int)) = false := decide_eq_false (by omega)
            go_wp2_with fail
            go_roundw
            case rel => exact ⟨i + 1, l5, _, _, _, by omega, rfl, by go_num, by unfold Hid; rw [HE5.out, HE3.out, HE2.out, HLE.out, Ir.step], by omega, HO5, HB5⟩
            case measure => simp [intOf]; omega
      · have d0 : decide ((0 : Int) < (i : Int)) = false := decide_eq_false (by omega)
        go_upto_region 10 with fail
        have HE2 : Hid (l = l ++ Ir.pre i) := by unfold Hid; unfold Ir.pre; rw [if_neg hi0, List.append_nil]
        have hl2 : l.length ≤ i * 13 + 1 := by omega
        go_wp2_with (at_builtin; refine Ro.push rfl _ _ 22 45 4 56 _ rfl Try.underlying22 Wi.info rfl (by decide) _ rfl (HO.out.own.alloc _) wr.heap.size (Wi.four 0 ⟨#[99, 97, 116]⟩ (.slice none 0 0) 0) rfl (Gr.cells wr (Wi.four 0 ⟨#[99, 97, 116]⟩ (.slice none 0 0) 0) 45) rfl (Wi.ones _ _ _) (by unfold maxLen; omega) (by omega) (by have := HB.out.size; simp; omega) ?_; intro v8 w8 R8 hg8 hf8; obtain ⟨l3, a8, _, _, rfl, HE3, hlel3, HO3, b7⟩ := Wi.pushed (x := (⟨0, Ir.cat, [], 0⟩ : Wi)) HO.out HB.out.size rfl rfl R8 hg8 hf8; have HB3 := Lib.hid (HB.out.trans b7); clear b7 R8 hg8 hf8)
        go_loopw [7, 9] (fun ov jv wn => ∃ (j : Nat) (l5 : List Wi) (a : Option Addr) (d : Nat) (xs : List Value), j ≤ m ∧ ov = .slice a l5.length d ∧ jv = .int .i64 (j : Int) ∧ Hid (l5 = l3 ++ Ir.ints j) ∧ l5.length ≤ i * 13 + 2 + j ∧ Hid (Wi.Own w1.heap.size l5 wn (.slice a l5.length d) xs) ∧ Hid (Below w1.heap.size w1 wn)) (fun _ jv _ => m - (intOf jv).toNat)
        case atStart => exact ⟨0, l3, _, _, _, Nat.zero_le _, rfl, rfl, by unfold Hid; simp [Ir.ints], by have := hlel3.out; omega, HO3, HB3⟩
        case round =>
          obtain ⟨j, l5, a5, d5, xs5, hj, rfl, rfl, HE5, hl5, HO5, HB5⟩ := hrel
          by_cases hjl : j < m
          · have dlj : decide ((j : Int) < (m : Int)) = true := decide_eq_true (by omega)
            go_wp2_with (at_builtin; refine Ro.push rfl _ _ 22 45 4 56 _ rfl Try.underlying22 Wi.info rfl (by decide) _ rfl (HO5.out.own.alloc _) wr.heap.size (Wi.four 3 ⟨#[]⟩ (.slice none 0 0) (j : Int)) rfl (Gr.cells wr (Wi.four 3 ⟨#[]⟩ (.slice none 0 0) (j : Int)) 45) rfl (Wi.ones _ _ _) (by unfold maxLen; omega) (by omega) (by have := HB5.out.size; simp; omega) ?_; intro v9 w9 R9 hg9 hf9; obtain ⟨l6, a9, _, _, rfl, HE6, hlel6, HO6, b7⟩ := Wi.pushed (x := (⟨3, [], [], (j : Int)⟩ : Wi)) HO5.out HB5.out.size rfl rfl R9 hg9 hf9; have HB6 := Lib.hid (HB5.out.trans b7); clear b7 R9 hg9 hf9)
            go_roundw
            case rel => exact ⟨j + 1, l6, _, _, _, by omega, rfl, by go_num, by unfold Hid; rw [HE6.out, HE5.out, Ir.ints_succ, List.append_assoc], by have := hlel6.out; omega, HO6, HB6⟩
            case measure => simp [intOf]; omega
          · have ej : j = m := by omega
            subst ej
            have dlj : decide ((j : Int) < (j : Int)) = false := decide_eq_false (by omega)
            go_wp2_with fail
            go_roundw
            case rel => exact ⟨i + 1, l5, _, _, _, by omega, rfl, by go_num, by unfold Hid; rw [HE5.out, HE3.out, HE2.out, HLE.out, Ir.step], by omega, HO5, HB5⟩
            case measure => simp [intOf]; omega
    · have ei : i = K := by omega
      subst ei
      have dlt : decide ((i : Int) < (i : Int)) = false := decide_eq_false (by omega)
      have PL := HO.out.lies
      rw [HLE.out] at hl13
      have PL2 := Lib.hid PL
      clear PL HO hz1 hz2 hz3 hz4 hy1 hy2
      have hLE := HLE.out
      clear HLE
      subst hLE
      by_cases h8 : 8 < i ∨ 8 < m
      · have ps := PS.out
        rw [if_pos h8] at ps
        clear PS
        have H8 : (decide ((8 : Int) < (i : Int)) = true) ∨ (decide ((8 : Int) < (i : Int)) = false ∧ decide ((8 : Int) < (m : Int)) = true) := by
          by_cases q : 8 < i
          · exact Or.inl (decide_eq_true (by omega))
          · exact Or.inr ⟨decide_eq_false (by omega), decide_eq_true (by omega)⟩
        clear h8
        rcases H8 with h8 | ⟨h8, h9⟩
        all_goals go_wp2_with (first | (go_at_call 7; with_reducible refine Calls.mono (ps _ _ _ _ (HT.out.on (HB1.out.trans (HB.out.mono HB1.out.size))) PL2.out) ?_; rintro e w2 ⟨a2, rfl, l2, b2⟩; obtain ⟨_, _, rfl, _, _, _⟩ := Cm.get l2; have HB2 := Lib.hid (HB.out.trans (b2.mono HB.out.size)); clear l2 b2 ps) | (go_at_call 10; refine (nm _ _).mono ?_; rintro e w6 ⟨rfl, hw⟩; have hw := hw.symm; subst hw))
        all_goals go_ret
        all_goals exact ⟨rfl, HB1.out.trans (HB2.out.mono HB1.out.size)⟩
      · have ps := PS.out
        rw [if_neg h8] at ps
        clear PS
        have g8 : decide ((8 : Int) < (i : Int)) = false := decide_eq_false (by omega)
        have g9 : decide ((8 : Int) < (m : Int)) = false := decide_eq_false (by omega)
        clear h8
        go_wp2_with (first | (go_at_call 7; with_reducible refine Calls.mono (ps _ _ _ _ (HT.out.on (HB1.out.trans (HB.out.mono HB1.out.size))) PL2.out) ?_; rintro e w2 ⟨a2, rfl, l2, b2⟩; obtain ⟨pa, pd, rfl, hpd, hpx⟩ := Ir.cmds_at l2; have HPX := Lib.hid hpx; have HB2 := Lib.hid (HB.out.trans (b2.mono HB.out.size)); clear l2 b2 ps hpx) | (go_at_call 10; refine (nm _ _).mono ?_; rintro e w6 ⟨rfl, hw⟩; have hw := hw.symm; subst hw))
        go_loopw [12] (fun iv wr => ∃ r : Nat, r ≤ i ∧ iv = .int .i64 (r : Int) ∧ Hid (Below w2.heap.size w2 wr)) (fun iv _ => i - (intOf iv).toNat)
        case atStart => exact ⟨0, Nat.zero_le _, rfl, Below.refl _ _⟩
        case round =>
          obtain ⟨r, hr, rfl, HR⟩ := hrel
          by_cases hrl : r < i
          · have dlr : decide ((r : Int) < (i : Int)) = true := decide_eq_true (by omega)
            obtain ⟨b, o, a3, d3, rfl, c0, c1, hd3, hx3⟩ := HPX.out r hrl
            have HX3 := Lib.hid hx3
            have k0 := Tp.keep HR.out c0
            have k1 := Tp.keep HR.out c1
            have dmm : ((m : Int) != (m : Int)) = false := by simp
            have hrd : r < pd := by omega
            clear hx3
            go_wp2_with fail
            go_loopw [13] (fun jv wr => ∃ j : Nat, j ≤ m ∧ jv = .int .i64 (j : Int) ∧ Hid (Below w2.heap.size w2 wr)) (fun jv _ => m - (intOf jv).toNat)
            case atStart => exact ⟨0, Nat.zero_le _, rfl, HR⟩
            case round =>
              clear HR k0 k1
              obtain ⟨j, hj, rfl, HR⟩ := hrel
              have k1 := Tp.keep HR.out c1
              by_cases hjl : j < m
              · have dlj : decide ((j : Int) < (m : Int)) = true := decide_eq_true (by omega)
                obtain ⟨b', o', ap, dp, rfl, x0, x1, x2, x3, x4⟩ := HX3.out j hjl
                have y0 := Tp.keep HR.out x0
                have y1 := Tp.keep HR.out x1
                have y2 := Tp.keep HR.out x2
                have y3 := Tp.keep HR.out x3
                have y4 := Tp.keep HR.out x4
                have djj : ((j : Int) != (j : Int)) = false := by simp
                have hjd : j < d3 := by omega
                clear x0 x1 x2 x3 x4 c0
                go_wp2_with fail
                exact ⟨⟨j + 1, by omega, by go_num, HR.out.alloc HR.out.size _⟩, by simp [intOf]; omega⟩
              · have ej : j = m := by omega
                subst ej
                have dlj : decide ((j : Int) < (j : Int)) = false := decide_eq_false (by omega)
                go_wp2_with fail
                go_roundw
                case rel => exact ⟨r + 1, by omega, by go_num, HR⟩
                case measure => simp [intOf]; omega
          · have er : r = i := by omega
            have dlr : decide ((r : Int) < (i : Int)) = false := decide_eq_false (by omega)
            go_wp2_with fail
            go_ret
            exact ⟨rfl, HB1.out.trans ((HB2.out.trans (HR.out.mono HB2.out.size)).mono HB1.out.size)⟩
end Go.Proofs.Ytjmobhohfcieoaa

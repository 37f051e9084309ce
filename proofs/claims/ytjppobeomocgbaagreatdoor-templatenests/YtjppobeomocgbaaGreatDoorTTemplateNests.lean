/-
  THE WALK of stolelaw16.TemplateNests: it returns true.
-/
import Derived.Test.YtjppobeomocgbaaGreatDoorTMParsetoGBits
import Derived.Test.YtjppobeomocgbaaGreatDoorTMReadtoMNest2
namespace Go.Proofs.YtjppobeomocgbaaGreatDoor
open Go.RowKit
set_option maxRecDepth 100000 in
set_option maxHeartbeats 4000000 in
theorem Law.templateNests (dp kd : Int) (other : Bool) (w : World) (hT : Mp.T w) : Calls Tryz.prog 4 #[.int .i64 dp, .int .i64 kd, .bool other] w fun e w' => e = .returned (.bool true) ∧ Below w.heap.size w w' := by
  have aw := Mw.awake w hT
  obtain ⟨q, hq, hz⟩ : ∃ q : Nat, q < 3 ∧ wrap64 ((IntKind.u64.wrap kd).tmod 3) = (q : Int) := by
    have h1 : 0 ≤ IntKind.u64.wrap kd := by
      rw [IntKind.wrap_u64]
      omega
    have h2 : (IntKind.u64.wrap kd).tmod 3 = IntKind.u64.wrap kd % 3 := Int.tmod_eq_emod_of_nonneg h1
    refine ⟨(IntKind.u64.wrap kd % 3).toNat, by omega, ?_⟩
    rw [h2]
    unfold wrap64
    omega
  obtain ⟨c, hc, hc32⟩ : ∃ c : Nat, Go.bits .and .i64 dp 31 = (c : Int) ∧ c < 32 := by
    have := Lb.and 5 (by decide) dp
    refine ⟨(dp % 32).toNat, ?_, by omega⟩
    rw [show ((31 : Int)) = ((2 ^ 5 - 1 : Nat) : Int) from rfl, this]
    show dp % 32 = _
    omega
  obtain ⟨k, hkc⟩ : ∃ k, k = c + 1 := ⟨_, rfl⟩
  have hk1 : wrap64 (1 + (c : Int)) = (k : Int) := by unfold wrap64; omega
  have hk2 : (1 : Int) + (c : Int) = (k : Int) := by omega
  obtain ⟨W, hW, hWn⟩ : ∃ W : ByteArray, (∀ h : q < ([Value.string ⟨#[105, 102]⟩, Value.string ⟨#[119, 105, 116, 104]⟩, Value.string ⟨#[114, 97, 110, 103, 101]⟩] : List Value).length, ([Value.string ⟨#[105, 102]⟩, Value.string ⟨#[119, 105, 116, 104]⟩, Value.string ⟨#[114, 97, 110, 103, 101]⟩] : List Value)[q] = .string W) ∧ W.data.toList = Mn.name q := by
    match q, hq with
    | 0, _ => exact ⟨_, fun _ => rfl, rfl⟩
    | 1, _ => exact ⟨_, fun _ => rfl, rfl⟩
    | 2, _ => exact ⟨_, fun _ => rfl, rfl⟩
    | n + 3, h => omega
  have HKC := Lib.hid hkc
  clear hkc
  have ps := fun s u (h : Mp.T u) => Mp.parse s u h
  have HT := Lib.hid hT
  have er := fun x u => Iw.num x u
  clear hT
  go_enter Tryz.func4, Tryz.ntmps4
  go_wp2_with (first | (go_at_call 13; refine aw.mono ?_; rintro e w1 ⟨rfl, b1⟩; have B1 := Lib.hid b1; clear b1 aw))
  have HB1 : Hid (Below w.heap.size w ((w1.alloc (.cells #[.string ⟨#[105, 102]⟩, .string ⟨#[119, 105, 116, 104]⟩, .string ⟨#[114, 97, 110, 103, 101]⟩] 9)))) := B1.out.alloc B1.out.size _
  generalize w1.alloc (.cells #[.string ⟨#[105, 102]⟩, .string ⟨#[119, 105, 116, 104]⟩, .string ⟨#[114, 97, 110, 103, 101]⟩] 9) = w2 at *
  have HWn := Lib.hid hWn
  have hWs : W.size ≤ 5 := by
    rw [← Wk.len_data, hWn]
    match q, hq with
    | 0, _ => decide
    | 1, _ => decide
    | 2, _ => decide
    | n + 3, h => omega
  clear hW hWn
  go_loopw [9, 10, 11] (fun sv tv iv wr => ∃ (i : Nat) (S T : ByteArray), i ≤ k ∧ sv = .string S ∧ tv = .string T ∧ iv = .int .i64 (i : Int) ∧ Hid (S.data.toList = Fl.rep i (Mn.O q)) ∧ Hid (T.data.toList = Fl.rep i (Mn.E other)) ∧ S.size ≤ 11 * i ∧ T.size ≤ 16 * i ∧ wr = w2) (fun _ _ iv _ => k - (intOf iv).toNat)
  case atStart => exact ⟨0, ⟨#[]⟩, ⟨#[]⟩, Nat.zero_le _, rfl, rfl, rfl, rfl, rfl, Nat.zero_le _, Nat.zero_le _, rfl⟩
  case round =>
    obtain ⟨i, S, T, hi, rfl, rfl, rfl, HS, HE, hs1, hs2, hu⟩ := hrel
    have hu := hu.symm
    subst hu
    by_cases hlt : i < k
    · have dlt : decide ((i : Int) < (k : Int)) = true := decide_eq_true (by omega)
      have HS2 : Hid (((S ++ ⟨#[123, 123]⟩ ++ W ++ ⟨#[32, 46, 125, 125]⟩ : ByteArray).data.toList = Fl.rep (i + 1) (Mn.O q))) := by
        unfold Hid
        rw [Lf.append, Lf.append, Lf.append, HS.out, HWn.out, Fl.rep_snoc]
        simp only [List.append_assoc]
        rfl
      have z1 : (S ++ ⟨#[123, 123]⟩ : ByteArray).size = S.size + 2 := by rw [ByteArray.size_append]; rfl
      have z2 : (S ++ ⟨#[123, 123]⟩ ++ W : ByteArray).size = S.size + 2 + W.size := by rw [ByteArray.size_append, z1]
      have z3 : (S ++ ⟨#[123, 123]⟩ ++ W ++ ⟨#[32, 46, 125, 125]⟩ : ByteArray).size = S.size + 2 + W.size + 4 := by rw [ByteArray.size_append, z2]; rfl
      clear HS
      cases other with
      | true =>
        have HE2 : Hid ((T ++ ⟨#[123, 123, 101, 108, 115, 101, 125, 125, 121]⟩ ++ ⟨#[123, 123, 101, 110, 100, 125, 125]⟩ : ByteArray).data.toList = Fl.rep (i + 1) (Mn.E true)) := by
          unfold Hid
          rw [Lf.append, Lf.append, HE.out, Fl.rep_snoc, List.append_assoc]
          rfl
        have y1 : (T ++ ⟨#[123, 123, 101, 108, 115, 101, 125, 125, 121]⟩ : ByteArray).size = T.size + 9 := by rw [ByteArray.size_append]; rfl
        have y2 : (T ++ ⟨#[123, 123, 101, 108, 115, 101, 125, 125, 121]⟩ ++ ⟨#[123, 123, 101, 110, 100, 125, 125]⟩ : ByteArray).size = T.size + 16 := by rw [ByteArray.size_append, y1]; rfl
        clear HE
        go_wp2_with fail
        go_roundw
        case rel => exact ⟨i + 1, _, _, by omega, rfl, rfl, by go_num, HS2, HE2, by omega, by omega, by first | rfl | trivial⟩
        case measure => simp [intOf]; omega
      | false =>
        have HE2 : Hid ((T ++ ⟨#[123, 123, 101, 110, 100, 125, 125]⟩ : ByteArray).data.toList = Fl.rep (i + 1) (Mn.E false)) := by
          unfold Hid
          rw [Lf.append, HE.out, Fl.rep_snoc]
          rfl
        have y1 : (T ++ ⟨#[123, 123, 101, 110, 100, 125, 125]⟩ : ByteArray).size = T.size + 7 := by rw [ByteArray.size_append]; rfl
        clear HE
        go_wp2_with fail
        go_roundw
        case rel => exact ⟨i + 1, _, _, by omega, rfl, rfl, by go_num, HS2, HE2, by omega, by omega, by first | rfl | trivial⟩
        case measure => simp [intOf]; omega
    · have ei : i = k := by omega
      subst ei
      have dlt : decide ((i : Int) < (i : Int)) = false := decide_eq_false (by omega)
      have hkc := HKC.out
      have d1 : (S ++ ⟨#[120]⟩ ++ T : ByteArray).data.toList = Mn.src q other (c + 1) (c + 1) false := by
        rw [Lf.append, Lf.append, HS.out, HE.out, ← hkc]
        show _ = _ ++ []
        rw [List.append_nil]
      have d2 : (S ++ ⟨#[120]⟩ ++ T ++ ⟨#[123, 123, 101, 110, 100, 125, 125]⟩ : ByteArray).data.toList = Mn.src q other (c + 1) (c + 1) true := by
        rw [Lf.append, Lf.append, Lf.append, HS.out, HE.out, ← hkc]
        rfl
      have d3 : (S ++ ⟨#[123, 123]⟩ ++ W ++ ⟨#[32, 46, 125, 125, 120]⟩ ++ T : ByteArray).data.toList = Mn.src q other (c + 1 + 1) (c + 1) false := by
        rw [Lf.append, Lf.append, Lf.append, Lf.append, HS.out, HE.out, HWn.out, ← hkc]
        unfold Mn.src
        rw [Fl.rep_snoc i (Mn.O q)]
        show _ = _ ++ []
        rw [List.append_nil]
        unfold Mn.O
        simp only [List.append_assoc]
        rfl
      have p1 := ps (S ++ ⟨#[120]⟩ ++ T)
      have p2 := ps (S ++ ⟨#[120]⟩ ++ T ++ ⟨#[123, 123, 101, 110, 100, 125, 125]⟩)
      have p3 := ps (S ++ ⟨#[123, 123]⟩ ++ W ++ ⟨#[32, 46, 125, 125, 120]⟩ ++ T)
      have z1 : (S ++ ⟨#[120]⟩ : ByteArray).size = S.size + 1 := by rw [ByteArray.size_append]; rfl
      have z2 : (S ++ ⟨#[120]⟩ ++ T : ByteArray).size = S.size + 1 + T.size := by rw [ByteArray.size_append, z1]
      have z3 : (S ++ ⟨#[120]⟩ ++ T ++ ⟨#[123, 123, 101, 110, 100, 125, 125]⟩ : ByteArray).size = S.size + 1 + T.size + 7 := by rw [ByteArray.size_append, z2]; rfl
      have z4 : (S ++ ⟨#[123, 123]⟩ : ByteArray).size = S.size + 2 := by rw [ByteArray.size_append]; rfl
      have z5 : (S ++ ⟨#[123, 123]⟩ ++ W : ByteArray).size = S.size + 2 + W.size := by rw [ByteArray.size_append, z4]
      have z6 : (S ++ ⟨#[123, 123]⟩ ++ W ++ ⟨#[32, 46, 125, 125, 120]⟩ : ByteArray).size = S.size + 2 + W.size + 5 := by rw [ByteArray.size_append, z5]; rfl
      have z7 : (S ++ ⟨#[123, 123]⟩ ++ W ++ ⟨#[32, 46, 125, 125, 120]⟩ ++ T : ByteArray).size = S.size + 2 + W.size + 5 + T.size := by rw [ByteArray.size_append, z6]
      clear ps HS HE hlt
      by_cases h16 : i ≤ 16
      · have g16 : decide ((16 : Int) < (i : Int)) = false := decide_eq_false (by omega)
        rw [Mn.parse1 hq other c _ d1 (by omega)] at p1
        rw [Mn.parse2 hq other c _ d2 (by omega)] at p2
        have h3 : ∃ e3 : Int, Tm.parse (S ++ ⟨#[123, 123]⟩ ++ W ++ ⟨#[32, 46, 125, 125, 120]⟩ ++ T) = ([], e3) ∧ ((decide ((i : Int) < 16) = true ∧ e3 = 1600) ∨ (decide ((i : Int) < 16) = false ∧ e3 = 1603)) := by
          by_cases h : i < 16
          · exact ⟨_, Mn.parse3 hq other c _ d3 (by omega), .inl ⟨decide_eq_true (by omega), rfl⟩⟩
          · exact ⟨_, Mn.too hq other (c + 1 + 1) c false _ d3 (by omega) (by omega) (by omega), .inr ⟨decide_eq_false (by omega), rfl⟩⟩
        obtain ⟨e3, he3, h3⟩ := h3
        rw [he3] at p3
        rw [← hkc] at p1
        clear d1 d2 d3 HWn he3 hkc
        rcases h3 with ⟨g3, rfl⟩ | ⟨g3, rfl⟩
        all_goals
          go_wp2_with (first | (go_at_call 8; with_reducible refine Calls.mono (p1 _ (HT.out.on HB1.out)) ?_; rintro e w3 ⟨v3, rfl, l3, b3⟩; obtain ⟨a3, d3', hv⟩ := Tr.form l3; subst hv; have HL3 := Lib.hid l3; have B3 := Lib.hid (Wk.below_step HB1.out b3); clear b3 l3 p1) | (go_at_call 8; with_reducible refine Calls.mono (p2 _ (HT.out.on B3.out)) ?_; rintro e w4 ⟨v4, rfl, _, b4⟩; have HL4 := Lib.hid (HL3.out.later b4); have B4 := Lib.hid (Wk.below_step B3.out b4); clear b4 p2 HL3) | (go_at_call 8; with_reducible refine Calls.mono (p3 _ (HT.out.on B4.out)) ?_; rintro e w5 ⟨v5, rfl, _, b5⟩; have HL5 := Lib.hid (HL4.out.later b5); have B5 := Lib.hid (Wk.below_step B4.out b5); clear b5 p3 HL4) | (go_at_call 11; refine (er _ _).mono ?_; rintro e w9 ⟨rfl, hw⟩; have hw := hw.symm; subst hw))
          go_loopw [12, 18] (fun sv jv u => ∃ (j : Nat) (a : Option Addr) (d : Nat), j ≤ i ∧ sv = .slice a 1 d ∧ jv = .int .i64 (j : Int) ∧ Hid (Dt.Lies w5 (fun _ => True) (It.rows [Mn.item q other (i - j)]) (.slice a 1 d)) ∧ u = w5) (fun _ jv _ => i - (intOf jv).toNat)
          case atStart => exact ⟨0, _, _, Nat.zero_le _, rfl, rfl, HL5, rfl⟩
          case round =>
            clear HL5
            obtain ⟨j, a, d, hj, rfl, rfl, HL, hu⟩ := hrel
            have hu := hu.symm
            subst hu
            by_cases hlt : j < i
            · have dj : decide ((j : Int) < (i : Int)) = true := decide_eq_true (by omega)
              obtain ⟨m, hm⟩ : ∃ m, i - j = m + 1 := ⟨i - j - 1, by omega⟩
              have hl := HL.out
              rw [hm] at hl
              obtain ⟨a9, d9, e9, hd1, hd2, hx⟩ := It.get hl
              injection e9 with e1 en e2
              clear en
              subst e1 e2
              obtain ⟨b, o, pv, xv, yv, rfl, _, c0, _, _, c3, c4, _, lx, ly⟩ := hx 0 _ _ _ _ _ rfl
              rw [Nat.zero_mul, Nat.add_zero] at c0 c3 c4
              have h0 : 0 < d := hd1
              have HLX : Hid (Dt.Lies w5 (fun _ => True) (It.rows [Mn.item q other (i - (j + 1))]) xv) := by rw [show i - (j + 1) = m by omega]; exact lx
              obtain ⟨ax, dx, hxv⟩ := Tr.form lx
              have hxv : xv = .slice ax 1 dx := hxv
              subst hxv
              clear lx hx hl HL hd1 hd2 hm
              obtain ⟨ay, dy, hyv⟩ := Tr.form ly
              have hq3 : q = 0 ∨ q = 1 ∨ q = 2 := by omega
              cases other with
              | true =>
                have hyv : yv = .slice ay 1 dy := hyv
                subst hyv
                clear ly
                rcases hq3 with rfl | rfl | rfl
                all_goals
                  go_wp2_with fail
                  go_roundw
                  case rel => exact ⟨j + 1, ax, dx, by omega, rfl, by go_num, HLX, by first | rfl | trivial⟩
                  case measure => simp [intOf]; omega
              | false =>
                have hyv : yv = .slice ay 0 dy := hyv
                subst hyv
                clear ly
                rcases hq3 with rfl | rfl | rfl
                all_goals
                  go_wp2_with fail
                  go_roundw
                  case rel => exact ⟨j + 1, ax, dx, by omega, rfl, by go_num, HLX, by first | rfl | trivial⟩
                  case measure => simp [intOf]; omega
            · have ej : j = i := by omega
              subst ej
              have dj : decide ((j : Int) < (j : Int)) = false := decide_eq_false (by omega)
              have zl : Dt.Lies (w5.alloc (.cells #[.int .i64 0, .string ⟨#[120]⟩, .slice none 0 0, .slice none 0 0, .slice none 0 0] 37)) (fun _ => True) (It.rows [.mk 0 [120] [] [] []]) (.slice (some ⟨w5.heap.size, 0, none⟩) 1 1) := by
                refine Dt.lit [It.mk 0 [120] [] [] []] 1 (cs := #[.int .i64 0, .string ⟨#[120]⟩, .slice none 0 0, .slice none 0 0, .slice none 0 0]) (ty := 37) (Bs.Box.new _ _ _ _ rfl) rfl (by decide) trivial It.dt_len ?_
                simp only [List.flatMap_cons, List.flatMap_nil, It.dt_mk, List.cons_append, List.nil_append]
                exact ⟨Dt.i, Dt.s, Dt.n, Dt.n, Dt.n, trivial⟩
              have zb := (Below.refl w5.heap.size w5).alloc (Nat.le_refl _) (.cells #[.int .i64 0, .string ⟨#[120]⟩, .slice none 0 0, .slice none 0 0, .slice none 0 0] 37)
              have hl : Dt.Lies w5 (fun _ => True) (It.rows [.mk 0 [120] [] [] []]) (.slice a 1 d) := by have := HL.out; rw [Nat.sub_self] at this; exact this
              have HS := Lib.hid (Sa.items _ [.mk 0 [120] [] [] []] (Nat.le_refl _) _ _ (fun _ => True) (fun _ => True) _ (hl.later zb) zl)
              have HZ := Lib.hid (B5.out.trans (zb.mono B5.out.size))
              clear zl zb hl HL B5
              go_wp2_with (go_at_call 10; refine Calls.mono HS.out ?_; rintro e w8 ⟨rfl, b8⟩; have B8 := Lib.hid (Wk.below_step HZ.out b8); clear b8 HS)
              go_ret
              exact ⟨rfl, B8.out⟩
      · have g16 : decide ((16 : Int) < (i : Int)) = true := decide_eq_true (by omega)
        rw [Mn.too hq other (c + 1) c false _ d1 (by omega) (by omega) (by omega)] at p1
        rw [Mn.too hq other (c + 1) c true _ d2 (by omega) (by omega) (by omega)] at p2
        rw [Mn.too hq other (c + 1 + 1) c false _ d3 (by omega) (by omega) (by omega)] at p3
        clear d1 d2 d3 HWn hkc
        go_wp2_with (first | (go_at_call 8; with_reducible refine Calls.mono (p1 _ (HT.out.on HB1.out)) ?_; rintro e w3 ⟨v3, rfl, l3, b3⟩; obtain ⟨a3, d3', hv⟩ := Tr.form l3; subst hv; have HL3 := Lib.hid l3; have B3 := Lib.hid (Wk.below_step HB1.out b3); clear b3 l3 p1) | (go_at_call 8; with_reducible refine Calls.mono (p2 _ (HT.out.on B3.out)) ?_; rintro e w4 ⟨v4, rfl, _, b4⟩; have HL4 := Lib.hid (HL3.out.later b4); have B4 := Lib.hid (Wk.below_step B3.out b4); clear b4 p2 HL3) | (go_at_call 8; with_reducible refine Calls.mono (p3 _ (HT.out.on B4.out)) ?_; rintro e w5 ⟨v5, rfl, _, b5⟩; have HL5 := Lib.hid (HL4.out.later b5); have B5 := Lib.hid (Wk.below_step B4.out b5); clear b5 p3 HL4) | (go_at_call 11; refine (er _ _).mono ?_; rintro e w9 ⟨rfl, hw⟩; have hw := hw.symm; subst hw))
        go_ret
        exact ⟨rfl, B5.out⟩
end Go.Proofs.YtjppobeomocgbaaGreatDoor

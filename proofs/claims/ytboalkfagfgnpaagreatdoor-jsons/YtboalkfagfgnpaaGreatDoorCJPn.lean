/-
  THE WALK of the reference's reader: list, where no end stands at once.
-/
import Derived.Test.YtboalkfagfgnpaaGreatDoorCJPn2
import Derived.Deep.Cut
namespace Go.Proofs.YtboalkfagfgnpaaGreatDoor
open Go.RowKit
set_option maxRecDepth 100000 in
set_option maxHeartbeats 4000000 in
theorem Jp.listW (d : Nat) (hd : d ≤ 8) (l : List UInt8) (kd : Int) (en : UInt8) (hke : kd = 5 ∧ en = 93 ∨ kd = 6 ∧ en = 125) (g : Nat) (T : ByteArray) (hi : Js.is en l = none)
    (hv : ∀ (l : List UInt8) (u : World), Jp.Rd u g T l false → Calls Tryz.prog 23 #[.pointer (some ⟨g, 0, none⟩), .int .i64 (d : Int)] u (Jp.VOut (Js.value d l) u g T)) (w : World) (h : Jp.Rd w g T l false) :
    Calls Tryz.prog 53 #[.pointer (some ⟨g, 0, none⟩), .agg #[.int .i64 kd, .int .i64 0, .int .u64 0, .string ⟨#[]⟩, .slice none 0 0, .slice none 0 0], .int .u8 (en.toNat : Int), .int .i64 ((d : Int) + 1)] w (Jp.VOut (Jp.hd (Js.value d) (decide (kd = 6)) en kd ([], []) l) w g T) := by
  have hgw := h.lt
  have HM := Lib.hid (Jp.Mem.start w g kd hgw)
  have is1 := Jp.is en l false g T ((w.alloc (.cells #[.int .i64 kd, .int .i64 0, .int .u64 0, .string ⟨#[]⟩, .slice none 0 0, .slice none 0 0] 26)).alloc (.cells #[.int .i64 0, .int .i64 0, .int .u64 0, .string ⟨#[]⟩, .slice none 0 0, .slice none 0 0] 26)) ((h.on (Jp.grown_alloc _ _ _)).on (Jp.grown_alloc _ _ _))
  rw [hi] at is1
  have HO : Hid (∀ l, Jp.hd (Js.value d) (decide (kd = 6)) en kd ([], []) (Js.ws l) = Jp.hd (Js.value d) (decide (kd = 6)) en kd ([], []) l) := fun l => Jp.hd_ws (Js.value_len d) (Jr.js_value_ws d) _ _ _ _ _
  have HIS : Hid (∀ (l : List UInt8) (bad : Bool) (u : World) (q : Jp.Rd u g T l bad), _) := fun (l : List UInt8) (bad : Bool) (u : World) (q : Jp.Rd u g T l bad) => Jp.is en l bad g T u q
  have HBE : Hid (∀ (r : List UInt8) (u : World) (q : Jp.Rd u g T r true), _) := fun (r : List UInt8) (u : World) (q : Jp.Rd u g T r true) => Jp.isBad en r g T u q
  have HV := Lib.hid hv
  have HKE := Lib.hid hke
  have n1 : ¬ g = w.heap.size := by omega
  have n2 : ¬ w.heap.size = g := by omega
  have n3 : ¬ g = w.heap.size + 1 := by omega
  have n4 : ¬ w.heap.size + 1 = g := by omega
  clear h hi hv hke
  generalize (en.toNat : Int) = EN at *
  rw [← HO.out l]
  generalize Js.ws l = l1 at *
  obtain ⟨O, hO⟩ : ∃ O, Jp.hd (Js.value d) (decide (kd = 6)) en kd ([], []) l1 = O := ⟨_, rfl⟩
  rw [hO]
  have HO1 := Lib.hid hO
  clear hO
  go_enter Tryz.func53, Tryz.ntmps53
  go_wp2_with (go_at_call 77; refine is1.mono ?_; rintro e w1 ⟨rfl, b1, q1⟩; have HM1 := Lib.hid (HM.out.still b1); have HR1 := Lib.hid q1; clear b1 q1 is1)
  go_loopw [] (fun wr => Hid (Jp.At w g T kd O (fun s l => Jp.hd (Js.value d) (decide (kd = 6)) en kd s l) 65 0 65537 wr)) (fun wr => Jp.mea g T wr)
  case atStart => exact .inl ⟨([], []), l1, _, _, HM1.out, HR1.out, HO1.out.symm, by simp, by simp, by have q : l1.length ≤ 65536 := HR1.out.len; omega⟩
  case round =>
    clear HM HM1 HR1 HO1 HO
    rcases hrel.out with ⟨s, l0, vi, vk, M0, R0, hO, ha, hb, hl⟩ | ⟨n, m, vi, vk, r0, M0, R0, hO, ha, hb⟩
    · obtain ⟨ai, ci, ak, ck, rfl, rfl⟩ := M0.forms
      have c2 : wr.cell? ⟨g, 2, none⟩ = some (.bool false) := Jp.Rd.bad R0; have f2 := Jp.Rd.froz R0
      obtain ⟨y0, y1, y2, y3, y4, y5⟩ := M0.var.cells
      by_cases h64 : s.2.length ≤ 64
      · have HM := Lib.hid M0
        have HR := Lib.hid R0
        have HO := Lib.hid hO
        clear hrel M0 R0 hO
        have d1 : decide ((s.2.length : Int) ≤ 64) = true := decide_eq_true (by omega)
        have d1n : decide (s.2.length ≤ 64) = true := decide_eq_true (by omega)
        have HMG := Lib.hid (Jp.mea_good HR.out)
        go_upto_if 26 with fail
        go_cut [] from 13 to 65 (fun wx => Hid (Jp.At w g T kd O (fun s l => Jp.md (Js.value d) (decide (kd = 6)) en kd s l) 64 1 (l0.length + 1) wx))
        case first =>
          have q0 : O = Jp.hd (Js.value d) (decide (kd = 6)) en kd s l0 := HO.out
          rw [Jp.hd_eq (Js.value_len d)] at q0
          replace HO := Lib.hid q0
          clear q0
          rcases HKE.out with ⟨hk, -⟩ | ⟨hk, -⟩
          · have k6 : (kd == 6) = false := by rw [hk]; rfl
            have HOO : Hid (O = Jp.md (Js.value d) (decide (kd = 6)) en kd s l0) := by
              have q := HO.out
              rw [show decide (kd = 6) = false by rw [hk]; rfl] at q ⊢
              unfold Hid
              rw [q]
              show Jp.md _ _ _ _ (s.1 ++ [], s.2) l0 = _
              rw [List.append_nil]
            clear hk HO
            go_wp2_with fail
            go_meet
            case rel => exact .inl ⟨s, l0, _, _, HM.out, HR.out, HOO.out, h64, by omega, by omega⟩
          · have k6 : (kd == 6) = true := by rw [hk]; rfl
            have q := HO.out
            rw [show decide (kd = 6) = true by rw [hk]; rfl] at q
            rw [Js.key, if_pos rfl] at q
            have HD6 : Hid (decide (kd = 6) = true) := by unfold Hid; rw [hk]; rfl
            clear HO hk
            have is34 := fun u q => Jp.is 34 l0 false g T u q
            cases h34 : Js.is 34 l0 with
            | none =>
              simp only [h34] at q
              rw [h34] at is34
              have HOO := Lib.hid q
              clear q h34
              go_wp2_with (go_at_call 77; refine (is34 _ HR.out).mono ?_; rintro e w2 ⟨rfl, b2, q2⟩; have HM2 := Lib.hid (HM.out.still b2); have HR2 := Lib.hid q2; have c2 : w2.cell? ⟨g, 2, none⟩ = some (.bool false) := Jp.Rd.bad q2; have f2 := Jp.Rd.froz q2; obtain ⟨y0, y1, y2, y3, y4, y5⟩ := HM2.out.var.cells; obtain ⟨u0, u1, u2, u3, u4, u5⟩ := HM2.out.res.cells; have z0 := HM2.out.res.has.frozen 0; have z1 := HM2.out.res.has.frozen 1; have z2 := HM2.out.res.has.frozen 2; have z3 := HM2.out.res.has.frozen 3; have z4 := HM2.out.res.has.frozen 4; have z5 := HM2.out.res.has.frozen 5; clear b2 q2 is34)
              obtain ⟨W, hW, hX, hb6⟩ := Jr.six (HM2.out.res.other n4 2 (.bool true)) (.int .i64 kd) (.int .i64 0) (.int .u64 0) (.string ⟨#[]⟩) (.slice ai s.2.length ci) (.slice ak s.1.length ck)
              rw [hW]
              obtain ⟨x0, x1, x2, x3, x4, x5⟩ := hX.cells
              refine bodyPost_ret (v := .agg #[.int .i64 kd, .int .i64 0, .int .u64 0, .string ⟨#[]⟩, .slice ai s.2.length ci, .slice ak s.1.length ck]) (by simp [results, Tryz.results53, go_sem, x0, x1, x2, x3, x4, x5]) rfl ?_
              exact Jp.badRet (HM2.out.bad.still (Jr.grown_set _ _ _ _)) HR2.out.spoil (by rw [HOO.out]; intro t r q; cases q) hb6
            | some r1 =>
              simp only [h34] at q
              rw [h34] at is34
              have tx := fun u q => Jp.text r1 g T u q
              cases ht : Js.text r1 with
              | none =>
                simp only [ht] at q
                rw [ht] at tx
                have HOO := Lib.hid q
                have HOW : Hid (∀ t r, O = some (t, r) → Js.wide t) := fun t r e => by rw [q] at e; cases e
                clear q h34 ht
                have is58 := fun r u q => Jp.is 58 r true g T u q
                go_wp2_with (go_at_call 77; refine (is34 _ HR.out).mono ?_; rintro e w2 ⟨rfl, b2, q2⟩; have HM2 := Lib.hid (HM.out.still b2); have HR2 := Lib.hid q2; obtain ⟨y0, y1, y2, y3, y4, y5⟩ := HM2.out.var.cells; clear b2 q2 is34)
                go_region_law (first | (refine Jp.stepA rfl 24 9 (.string ⟨#[]⟩) 1 16 Tryz.underlying24 Jp.infoS (by decide) rfl (.tmp 35) (.tmp 38) rfl (.slice ak s.1.length ck) (by simp [Act.eval]) (Jb.row_alloc HM3.out.keys _) w3.heap.size [.string ⟨#[]⟩] (by simp [Act.eval]) rfl (Jr.one_cell (Vm.Has.new w3 _ _ rfl)) Jr.one_one (by omega) (by unfold maxLen; omega) (by have := HM3.out.size; simp; omega) ?_; intro v4 w4 R4 G4 F4; obtain ⟨a4, d4, rfl⟩ := Jr.slice_form R4; have B4 := Jp.box4 (HM3.out.bad.still (Jp.grown_alloc _ _ _)) (Jb.row_alloc HM3.out.keys _) G4; have f5 := B4.has.frozen 5; have e5 := B4.cells.2.2.2.2.2; have HK4 := Lib.hid ((HM3.out.bad.still (Jp.grown_alloc _ _ _)).key (Jb.row_alloc HM3.out.keys _) R4 G4); have HR4 := Lib.hid (Jp.keyRd (HM3.out.bad.still (Jp.grown_alloc _ _ _)) (HR3.out.on (Jp.grown_alloc _ _ none)) (Jb.row_alloc HM3.out.keys _) G4 5 (.slice a4 (s.1.length + 1) d4)); clear R4 G4 F4 B4) | (rw [if_pos (by simp [Region.wanted])]; go_simp; go_at_call 52; refine (tx _ (HR2.out.on (Jr.grown_drew _))).mono ?_; rintro e w3 ⟨b3, rfl, r3, q3⟩; have HM3 := Lib.hid (HM2.out.still (Jr.grown_trans (Jr.grown_some (Jr.grown_drew _) (some g)) b3)); have HR3 := Lib.hid q3; obtain ⟨y0, y1, y2, y3, y4, y5⟩ := HM3.out.var.cells; have ya := fun o => (HM3.out.var.alloc HM3.out.var.lt o).cells.2.2.2.2.2; clear b3 q3 tx))
                all_goals go_wp2_with (go_at_call 77; refine (is58 r3 _ HR4.out).mono ?_; rintro e w5 ⟨rfl, b5, q5⟩; have HM5 := Lib.hid (HK4.out.still b5); have HR5 := Lib.hid q5; have c2 : w5.cell? ⟨g, 2, none⟩ = some (.bool true) := Jp.Rd.bad q5; have f2 := Jp.Rd.froz q5; generalize (Js.is 58 r3).isSome = B; clear b5 q5 is58)
                all_goals go_meet
                all_goals first | exact .inr ⟨_, _, _, _, _, HM5.out, HR5.out, HOW.out, h64, by show s.1.length + 1 ≤ 100; omega⟩ | exact .inr ⟨_, _, _, _, _, HM5.out.still (Jr.grown_set _ _ _ _), HR5.out.spoil, HOW.out, h64, by show s.1.length + 1 ≤ 100; omega⟩
              | some p =>
                obtain ⟨kb, r2⟩ := p
                simp only [ht] at q
                rw [ht] at tx
                have is58 := fun u q => Jp.is 58 r2 false g T u q
                have HL : Hid (r2.length < l0.length) := by
                  have e1 := Js.is_len h34
                  have e2 := Js.text_len ht
                  unfold Hid
                  omega
                cases h58 : Js.is 58 r2 with
                | none =>
                  simp only [h58] at q
                  rw [h58] at is58
                  have HOW : Hid (∀ t r, O = some (t, r) → Js.wide t) := fun t r e => by rw [q] at e; cases e
                  clear q h34 ht h58
                  go_wp2_with (go_at_call 77; refine (is34 _ HR.out).mono ?_; rintro e w2 ⟨rfl, b2, q2⟩; have HM2 := Lib.hid (HM.out.still b2); have HR2 := Lib.hid q2; obtain ⟨y0, y1, y2, y3, y4, y5⟩ := HM2.out.var.cells; clear b2 q2 is34)
                  go_region_law (first | (refine Jp.stepA rfl 24 9 (.string ⟨#[]⟩) 1 16 Tryz.underlying24 Jp.infoS (by decide) rfl (.tmp 35) (.tmp 38) rfl (.slice ak s.1.length ck) (by simp [Act.eval]) (Jb.row_alloc HM3.out.keys _) w3.heap.size [.string ⟨kb.toArray⟩] (by simp [Act.eval]) rfl (Jr.one_cell (Vm.Has.new w3 _ _ rfl)) Jr.one_one (by omega) (by unfold maxLen; omega) (by have := HM3.out.size; simp; omega) ?_; intro v4 w4 R4 G4 F4; obtain ⟨a4, d4, rfl⟩ := Jr.slice_form R4; have B4 := Jp.box4 (HM3.out.bad.still (Jp.grown_alloc _ _ _)) (Jb.row_alloc HM3.out.keys _) G4; have f5 := B4.has.frozen 5; have e5 := B4.cells.2.2.2.2.2; have HK4 := Lib.hid ((HM3.out.still (Jp.grown_alloc _ _ _)).key ⟨kb.toArray⟩ R4 G4 F4); have HR4 := Lib.hid (Jp.keyRd (HM3.out.bad.still (Jp.grown_alloc _ _ _)) (HR3.out.on (Jp.grown_alloc _ _ none)) (Jb.row_alloc HM3.out.keys _) G4 5 (.slice a4 (s.1.length + 1) d4)); clear R4 G4 F4 B4) | (rw [if_pos (by simp [Region.wanted])]; go_simp; go_at_call 52; refine (tx _ (HR2.out.on (Jr.grown_drew _))).mono ?_; rintro e w3 ⟨b3, rfl, q3⟩; have HM3 := Lib.hid (HM2.out.still (Jr.grown_trans (Jr.grown_some (Jr.grown_drew _) (some g)) b3)); have HR3 := Lib.hid q3; obtain ⟨y0, y1, y2, y3, y4, y5⟩ := HM3.out.var.cells; have ya := fun o => (HM3.out.var.alloc HM3.out.var.lt o).cells.2.2.2.2.2; clear b3 q3 tx))
                  all_goals go_wp2_with (go_at_call 77; refine (is58 _ HR4.out).mono ?_; rintro e w5 ⟨rfl, b5, q5⟩; have HM5 := Lib.hid (HK4.out.still b5); have HR5 := Lib.hid q5; have c2 : w5.cell? ⟨g, 2, none⟩ = some (.bool false) := Jp.Rd.bad q5; have f2 := Jp.Rd.froz q5; clear b5 q5 is58)
                  all_goals go_meet
                  all_goals exact .inr ⟨_, _, _, _, _, HM5.out.bad.still (Jr.grown_set _ _ _ _), HR5.out.spoil, HOW.out, h64, by rw [List.length_append]; show s.1.length + 1 ≤ 100; omega⟩
                | some r3 =>
                  simp only [h58] at q
                  rw [h58] at is58
                  have HOO : Hid (O = Jp.md (Js.value d) (decide (kd = 6)) en kd (s.1 ++ [⟨kb.toArray⟩], s.2) r3) := by unfold Hid; rw [HD6.out]; exact q
                  have HL3 : Hid (r3.length < l0.length + 1) := by
                    have e1 := Js.is_len h58
                    have e2 := HL.out
                    unfold Hid
                    omega
                  clear q h34 ht h58
                  go_wp2_with (go_at_call 77; refine (is34 _ HR.out).mono ?_; rintro e w2 ⟨rfl, b2, q2⟩; have HM2 := Lib.hid (HM.out.still b2); have HR2 := Lib.hid q2; obtain ⟨y0, y1, y2, y3, y4, y5⟩ := HM2.out.var.cells; clear b2 q2 is34)
                  go_region_law (first | (refine Jp.stepA rfl 24 9 (.string ⟨#[]⟩) 1 16 Tryz.underlying24 Jp.infoS (by decide) rfl (.tmp 35) (.tmp 38) rfl (.slice ak s.1.length ck) (by simp [Act.eval]) (Jb.row_alloc HM3.out.keys _) w3.heap.size [.string ⟨kb.toArray⟩] (by simp [Act.eval]) rfl (Jr.one_cell (Vm.Has.new w3 _ _ rfl)) Jr.one_one (by omega) (by unfold maxLen; omega) (by have := HM3.out.size; simp; omega) ?_; intro v4 w4 R4 G4 F4; obtain ⟨a4, d4, rfl⟩ := Jr.slice_form R4; have B4 := Jp.box4 (HM3.out.bad.still (Jp.grown_alloc _ _ _)) (Jb.row_alloc HM3.out.keys _) G4; have f5 := B4.has.frozen 5; have e5 := B4.cells.2.2.2.2.2; have HK4 := Lib.hid ((HM3.out.still (Jp.grown_alloc _ _ _)).key ⟨kb.toArray⟩ R4 G4 F4); have HR4 := Lib.hid (Jp.keyRd (HM3.out.bad.still (Jp.grown_alloc _ _ _)) (HR3.out.on (Jp.grown_alloc _ _ none)) (Jb.row_alloc HM3.out.keys _) G4 5 (.slice a4 (s.1.length + 1) d4)); clear R4 G4 F4 B4) | (rw [if_pos (by simp [Region.wanted])]; go_simp; go_at_call 52; refine (tx _ (HR2.out.on (Jr.grown_drew _))).mono ?_; rintro e w3 ⟨b3, rfl, q3⟩; have HM3 := Lib.hid (HM2.out.still (Jr.grown_trans (Jr.grown_some (Jr.grown_drew _) (some g)) b3)); have HR3 := Lib.hid q3; obtain ⟨y0, y1, y2, y3, y4, y5⟩ := HM3.out.var.cells; have ya := fun o => (HM3.out.var.alloc HM3.out.var.lt o).cells.2.2.2.2.2; clear b3 q3 tx))
                  all_goals go_wp2_with (go_at_call 77; refine (is58 _ HR4.out).mono ?_; rintro e w5 ⟨rfl, b5, q5⟩; have HM5 := Lib.hid (HK4.out.still b5); have HR5 := Lib.hid q5; clear b5 q5 is58)
                  all_goals go_meet
                  all_goals exact .inl ⟨_, r3, _, _, HM5.out, HR5.out, HOO.out, h64, by rw [List.length_append]; show s.1.length + 1 ≤ s.2.length + 1; omega, HL3.out⟩
        case rest =>
          clear HM HR HO c2 f2 y0 y1 y2 y3 y4 y5 d1 d1n
          go_upto_region 11 with fail
          go_cut [] from 13 to 65 (fun wx => Hid (Jp.At w g T kd O (fun s l => Jp.tl (Js.value d) (decide (kd = 6)) en kd s l) 65 0 l0.length wx))
          case first =>
            obtain ⟨n1, m1, ai1, ci1, ak1, ck1, bad, l1, xs, hB, hR, hn, hm, hx, hP⟩ := hcut.out.open (by omega) (by omega)
            obtain ⟨y0, y1, y2, y3, y4, y5⟩ := hB.var.cells
            have vv : ∀ u, Jp.Rd u g T l1 bad → Calls Tryz.prog 23 #[.pointer (some ⟨g, 0, none⟩), .int .i64 (d : Int)] u (Jp.VOut (if bad = true then none else Js.value d l1) u g T) := by
              intro u q
              cases bad with
              | true => exact Jp.valueBad l1 d g T u q
              | false => exact HV.out l1 u q
            have HB := Lib.hid hB
            have HR := Lib.hid hR
            have HX := Lib.hid hx
            have HP := Lib.hid hP
            have k1 : IntKind.i64.wrap ((d : Int) + 1 - 1) = d := by have : (d : Int) + 1 - 1 = d := (by omega); rw [this, IntKind.wrap_i64]; omega
            have k2 : IntKind.i64.wrap (d : Int) = d := by rw [IntKind.wrap_i64]; omega
            clear hcut hB hR hx hP HV HIS HBE HKE
            go_region_law (first | (refine Jp.stepA rfl 23 26 (.agg #[.int .i64 0, .int .i64 0, .int .u64 0, .string ⟨#[]⟩, .slice none 0 0, .slice none 0 0]) 6 88 Tryz.underlying23 Jp.infoV (by decide) rfl (.tmp 48) (.tmp 53) rfl (.slice ai1 n1 ci1) (by simp [Act.eval]) (Jp.rowTo HB.out HX.out HG3.out _) w3.heap.size [.int .i64 k3, .int .i64 x3, .int .u64 (Y3 : Int), .string s3, .slice ai3 n3 c3, .slice ak3 m3 d3] (by simp [Act.eval]) rfl (Jp.sixCells (Vm.Has.new w3 _ _ rfl)) Jp.sixOne (by omega) (by unfold maxLen; omega) (by have := HB.out.size; have := HG3.out.size; simp; omega) ?_; intro v4 w4 R4 G4 F4; obtain ⟨a4, d4, rfl⟩ := Jr.slice_form R4; have B4 := Jp.box4 (HB.out.still (Jr.grown_trans HG3.out (Jp.grown_alloc _ _ _))) (Jp.rowTo HB.out HX.out HG3.out _) G4; have f4 := B4.has.frozen 4; have e4 := B4.cells.2.2.2.2.1; have HE4 := Lib.hid (Jp.itemEnd (Js.value_len d) HP.out HB.out HX.out hn hm HG3.out M3.out R4 G4 F4); clear R4 G4 F4 B4) | (rw [if_pos (by simp [Region.wanted])]; go_simp; go_at_call 23; refine (vv _ (HR.out.on (Jr.grown_drew _))).mono ?_; rintro e w3 ⟨b3, k3, x3, Y3, s3, ai3, n3, c3, ak3, m3, d3, rfl, M3⟩; have HG3 := Lib.hid (Jr.grown_trans (Jr.grown_some (Jr.grown_drew _) (some g)) b3); have M3 := Lib.hid M3; obtain ⟨y0, y1, y2, y3, y4, y5⟩ := (HB.out.still HG3.out).var.cells; have ya := fun o => (((HB.out.still HG3.out).var.alloc (HB.out.still HG3.out).var.lt o).cells.2.2.2.2.1); clear b3 vv))
            all_goals go_wp2_with fail
            all_goals go_meet
            all_goals exact HE4.out
          case rest =>
            rcases hcut.out with ⟨s1, l2, vi, vk, M0, R0, hO, ha1, hb1, hl1⟩ | ⟨n1, m1, vi, vk, r0, M0, R0, hO, ha1, hb1⟩
            · obtain ⟨ai, ci, ak, ck, rfl, rfl⟩ := M0.forms
              have q : O = Jp.tl (Js.value d) (decide (kd = 6)) en kd s1 l2 := hO
              unfold Jp.tl at q
              have isE := fun u q => HIS.out l2 false u q
              have HM := Lib.hid M0
              have HR := Lib.hid R0
              clear hcut M0 R0 hO HIS HBE HKE HV
              cases he : Js.is en l2 with
              | some r3 =>
                simp only [he] at q
                rw [he] at isE
                have HOO := Lib.hid q
                clear q he
                go_wp2_with (go_at_call 77; refine (isE _ HR.out).mono ?_; rintro e w2 ⟨rfl, b2, q2⟩; have HM2 := Lib.hid (HM.out.still b2); have HR2 := Lib.hid q2; have c2 : w2.cell? ⟨g, 2, none⟩ = some (.bool false) := Jp.Rd.bad q2; have f2 := Jp.Rd.froz q2; obtain ⟨y0, y1, y2, y3, y4, y5⟩ := HM2.out.var.cells; obtain ⟨u0, u1, u2, u3, u4, u5⟩ := HM2.out.res.cells; have z0 := HM2.out.res.has.frozen 0; have z1 := HM2.out.res.has.frozen 1; have z2 := HM2.out.res.has.frozen 2; have z3 := HM2.out.res.has.frozen 3; have z4 := HM2.out.res.has.frozen 4; have z5 := HM2.out.res.has.frozen 5; clear b2 q2 isE)
                obtain ⟨W, hW, hX, hb6⟩ := Jr.six HM2.out.res (.int .i64 kd) (.int .i64 0) (.int .u64 0) (.string ⟨#[]⟩) (.slice ai s1.2.length ci) (.slice ak s1.1.length ck)
                rw [hW]
                obtain ⟨x0, x1, x2, x3, x4, x5⟩ := hX.cells
                refine bodyPost_ret (v := .agg #[.int .i64 kd, .int .i64 0, .int .u64 0, .string ⟨#[]⟩, .slice ai s1.2.length ci, .slice ak s1.1.length ck]) (by simp [results, Tryz.results53, go_sem, x0, x1, x2, x3, x4, x5]) rfl ?_
                have hoth : ∀ q, q ≠ w.heap.size + 1 → W.heap[q]? = w2.heap[q]? := fun q hq => by rw [← hW]; exact Jr.six_other w2 (w.heap.size + 1) 0 _ _ _ _ _ _ q hq
                have hsz : W.heap.size = w2.heap.size := by rw [← hW]; simp only [Jr.set_size]
                exact ⟨Jr.grown_more HM2.out.grown hb6 (by omega), kd, 0, 0, ⟨#[]⟩, ai, s1.2.length, ci, ak, s1.1.length, ck, rfl, .inl ⟨_, r3, HOO.out, HR2.out.below hb6 (by omega), HM2.out.tree W (fun q h1 h2 => hoth q (by omega)) (by omega)⟩⟩
              | none =>
                simp only [he] at q
                rw [he] at isE
                have is44 := fun u q => Jp.is 44 (Js.ws l2) false g T u q
                rw [Jr.is_ws] at is44
                cases hc : Js.is 44 l2 with
                | none =>
                  simp only [hc] at q
                  rw [hc] at is44
                  have HOW : Hid (∀ t r, O = some (t, r) → Js.wide t) := fun t r e => by rw [q] at e; cases e
                  clear q he hc
                  go_wp2_with (first | (go_at_call 77; refine (isE _ HR.out).mono ?_; rintro e w2 ⟨rfl, b2, q2⟩; have HM2 := Lib.hid (HM.out.still b2); have HR2 := Lib.hid q2; clear b2 q2 isE) | (go_at_call 77; refine (is44 _ HR2.out).mono ?_; rintro e w5 ⟨rfl, b5, q5⟩; have HM5 := Lib.hid (HM2.out.still b5); have HR5 := Lib.hid q5; have c2 : w5.cell? ⟨g, 2, none⟩ = some (.bool false) := Jp.Rd.bad q5; have f2 := Jp.Rd.froz q5; clear b5 q5 is44))
                  go_roundw
                  case rel => exact .inr ⟨_, _, _, _, _, HM5.out.bad.still (Jr.grown_set _ _ _ _), HR5.out.spoil, HOW.out, ha1, by omega⟩
                  case measure => rw [Jp.mea_bad HR5.out.spoil, HMG.out]; exact Nat.succ_pos _
                | some r3 =>
                  simp only [hc] at q
                  rw [hc] at is44
                  have HOO := Lib.hid q
                  have HL : Hid (r3.length < l2.length) := Js.is_len hc
                  clear q he hc
                  go_wp2_with (first | (go_at_call 77; refine (isE _ HR.out).mono ?_; rintro e w2 ⟨rfl, b2, q2⟩; have HM2 := Lib.hid (HM.out.still b2); have HR2 := Lib.hid q2; clear b2 q2 isE) | (go_at_call 77; refine (is44 _ HR2.out).mono ?_; rintro e w5 ⟨rfl, b5, q5⟩; have HM5 := Lib.hid (HM2.out.still b5); have HR5 := Lib.hid q5; clear b5 q5 is44))
                  go_roundw
                  case rel => exact .inl ⟨s1, r3, _, _, HM5.out, HR5.out, HOO.out, ha1, hb1, by have := HL.out; omega⟩
                  case measure => rw [Jp.mea_good HR5.out, HMG.out]; have := HL.out; simp only [Option.getD_some]; omega
            · obtain ⟨ai, ci, ak, ck, rfl, rfl⟩ := M0.forms
              have isE := fun r u q => HBE.out r u q
              have is44 := fun r u q => Jp.isBad 44 r g T u q
              have HM := Lib.hid M0
              have HR := Lib.hid R0
              have HO := Lib.hid hO
              clear hcut M0 R0 hO HIS HBE HKE HV
              go_wp2_with (first | (go_at_call 77; refine (isE _ _ HR.out).mono ?_; rintro e w2 ⟨B2, r2, rfl, b2, q2⟩; have HM2 := Lib.hid (HM.out.still b2); have HR2 := Lib.hid q2; have c2 : w2.cell? ⟨g, 2, none⟩ = some (.bool true) := Jp.Rd.bad q2; have f2 := Jp.Rd.froz q2; obtain ⟨y0, y1, y2, y3, y4, y5⟩ := HM2.out.var.cells; obtain ⟨u0, u1, u2, u3, u4, u5⟩ := HM2.out.res.cells; have z0 := HM2.out.res.has.frozen 0; have z1 := HM2.out.res.has.frozen 1; have z2 := HM2.out.res.has.frozen 2; have z3 := HM2.out.res.has.frozen 3; have z4 := HM2.out.res.has.frozen 4; have z5 := HM2.out.res.has.frozen 5; clear b2 q2 isE) | (go_at_call 77; refine (is44 _ _ HR2.out).mono ?_; rintro e w5 ⟨B5, r5, rfl, b5, q5⟩; have HM5 := Lib.hid (HM2.out.still b5); have HR5 := Lib.hid q5; have c2 : w5.cell? ⟨g, 2, none⟩ = some (.bool true) := Jp.Rd.bad q5; have f2 := Jp.Rd.froz q5; clear b5 q5 is44))
              · obtain ⟨W, hW, hX, hb6⟩ := Jr.six HM2.out.res (.int .i64 kd) (.int .i64 0) (.int .u64 0) (.string ⟨#[]⟩) (.slice ai n1 ci) (.slice ak m1 ck)
                rw [hW]
                obtain ⟨x0, x1, x2, x3, x4, x5⟩ := hX.cells
                refine bodyPost_ret (v := .agg #[.int .i64 kd, .int .i64 0, .int .u64 0, .string ⟨#[]⟩, .slice ai n1 ci, .slice ak m1 ck]) (by simp [results, Tryz.results53, go_sem, x0, x1, x2, x3, x4, x5]) rfl ?_
                exact Jp.badRet HM2.out HR2.out HO.out hb6
              · exact ⟨.inr ⟨_, _, _, _, _, HM5.out.still (Jr.grown_set _ _ _ _), HR5.out.spoil, HO.out, ha1, hb1⟩, by rw [Jp.mea_bad HR5.out.spoil, HMG.out]; exact Nat.succ_pos _⟩
              · exact ⟨.inr ⟨_, _, _, _, _, HM5.out, HR5.out, HO.out, ha1, hb1⟩, by rw [Jp.mea_bad HR5.out, HMG.out]; exact Nat.succ_pos _⟩
      · have d1 : decide ((s.2.length : Int) ≤ 64) = false := decide_eq_false (by omega)
        have d1n : decide (s.2.length ≤ 64) = false := decide_eq_false (by omega)
        obtain ⟨u0, u1, u2, u3, u4, u5⟩ := M0.res.cells; have z0 := M0.res.has.frozen 0; have z1 := M0.res.has.frozen 1; have z2 := M0.res.has.frozen 2; have z3 := M0.res.has.frozen 3; have z4 := M0.res.has.frozen 4; have z5 := M0.res.has.frozen 5
        have HM := Lib.hid M0
        have HR := Lib.hid R0
        have HO := Lib.hid hO
        clear hrel M0 R0 hO
        go_wp2_with fail
        obtain ⟨W, hW, hX, hb6⟩ := Jr.six (HM.out.res.other n4 2 (.bool true)) (.int .i64 kd) (.int .i64 0) (.int .u64 0) (.string ⟨#[]⟩) (.slice ai s.2.length ci) (.slice ak s.1.length ck)
        rw [hW]
        obtain ⟨x0, x1, x2, x3, x4, x5⟩ := hX.cells
        refine bodyPost_ret (v := .agg #[.int .i64 kd, .int .i64 0, .int .u64 0, .string ⟨#[]⟩, .slice ai s.2.length ci, .slice ak s.1.length ck]) (by simp [results, Tryz.results53, go_sem, x0, x1, x2, x3, x4, x5]) rfl ?_
        exact Jp.badRet (HM.out.bad.still (Jr.grown_set _ _ _ _)) HR.out.spoil (by rw [HO.out]; exact Jp.hd_wide (Js.value_len d) (by omega)) hb6
    · obtain ⟨ai, ci, ak, ck, rfl, rfl⟩ := M0.forms
      have c2 : wr.cell? ⟨g, 2, none⟩ = some (.bool true) := Jp.Rd.bad R0; have f2 := Jp.Rd.froz R0
      obtain ⟨y0, y1, y2, y3, y4, y5⟩ := M0.var.cells
      obtain ⟨u0, u1, u2, u3, u4, u5⟩ := M0.res.cells; have z0 := M0.res.has.frozen 0; have z1 := M0.res.has.frozen 1; have z2 := M0.res.has.frozen 2; have z3 := M0.res.has.frozen 3; have z4 := M0.res.has.frozen 4; have z5 := M0.res.has.frozen 5
      have HM := Lib.hid M0
      have HR := Lib.hid R0
      have HO := Lib.hid hO
      clear hrel M0 R0 hO
      go_wp2_with fail
      obtain ⟨W, hW, hX, hb6⟩ := Jr.six (HM.out.res.other n4 2 (.bool true)) (.int .i64 kd) (.int .i64 0) (.int .u64 0) (.string ⟨#[]⟩) (.slice ai n ci) (.slice ak m ck)
      rw [hW]
      obtain ⟨x0, x1, x2, x3, x4, x5⟩ := hX.cells
      refine bodyPost_ret (v := .agg #[.int .i64 kd, .int .i64 0, .int .u64 0, .string ⟨#[]⟩, .slice ai n ci, .slice ak m ck]) (by simp [results, Tryz.results53, go_sem, x0, x1, x2, x3, x4, x5]) rfl ?_
      exact Jp.badRet (HM.out.still (Jr.grown_set _ _ _ _)) HR.out.spoil HO.out hb6
end Go.Proofs.YtboalkfagfgnpaaGreatDoor

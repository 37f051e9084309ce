/-
  THE WALK of stolelaw16.TemplateRows: it returns true.
-/
import Derived.Test.YtjppobeomocgbaaGreatDoorTMParsetoGBits
import Derived.Test.YtjppobeomocgbaaGreatDoorTTemplateForms
namespace Go.Proofs.YtjppobeomocgbaaGreatDoor
open Go.RowKit
set_option maxRecDepth 100000 in
set_option maxHeartbeats 8000000 in
theorem Law.templateRows (ks : List Int) (v : Value) (R : Nat → Prop) (w : World) (hT : Mp.T w) (h : Dt.Lies w R (Dt.ints ks) v) : Calls Tryz.prog 6 #[v] w fun e w' => e = .returned (.bool true) ∧ Below w.heap.size w w' := by
  have aw := Mw.awake w hT
  obtain ⟨a, d, rfl, hd, hm, hx⟩ := h.ints
  have hml : ks.length ≤ 9223372036854775807 := by unfold maxLen at hm; omega
  have ps := fun s u (h : Mp.T u) => Mp.parse s u h
  have HT := Lib.hid hT
  have HX := Lib.hid hx
  have er := fun x u => Iw.num x u
  clear hT hx h hm
  go_enter Tryz.func6, Tryz.ntmps6
  go_wp2_with (first | (go_at_call 13; refine aw.mono ?_; rintro e w1 ⟨rfl, b1⟩; have B1 := Lib.hid b1; clear b1 aw))
  have HO1 : Hid (Mr.Own w.heap.size [] w1 (.slice none 0 0) []) := Gr.Own.nil _ _ _ _ _
  have HS1 : Hid (Mr.S ⟨#[]⟩ false [] 0) := Mr.S.nil
  go_loopw [3, 4, 5, 6] (fun sv wv tv iv wr => ∃ (i : Nat) (S : ByteArray) (b : Bool) (l : List It) (a1 : Option Addr) (d1 : Nat) (xs : List Value), i ≤ 40 ∧ i ≤ ks.length ∧ sv = .string S ∧ wv = .slice a1 l.length d1 ∧ tv = .bool b ∧ iv = .int .i64 (i : Int) ∧ Hid (Mr.S S b l i) ∧ Hid (Mr.Own w.heap.size l wr (.slice a1 l.length d1) xs) ∧ Hid (Below w.heap.size w wr) ∧ Hid (l.length = i)) (fun _ _ _ iv _ => ks.length - (intOf iv).toNat)
  case atStart => exact ⟨0, _, false, [], none, 0, [], by omega, by omega, rfl, rfl, rfl, rfl, HS1, HO1, B1, rfl⟩
  case round =>
    clear HO1 HS1 B1
    obtain ⟨i, S, b, l, a1, d1, xs, hi, hik, rfl, rfl, rfl, rfl, HS, HO, HB, HL0⟩ := hrel
    have hl40 : l.length ≤ 40 := by rw [HL0.out]; exact hi
    have hsz := HS.out.len
    by_cases hgo : i < ks.length ∧ i < 40
    · obtain ⟨hik2, hi40⟩ := hgo
      have g1 : decide ((i : Int) < (ks.length : Int)) = true := decide_eq_true (by omega)
      have g2 : decide ((i : Int) < 40) = true := decide_eq_true (by omega)
      have g3 : decide (i < ks.length) = true := decide_eq_true hik2
      have g4 : decide (i < 40) = true := decide_eq_true hi40
      obtain ⟨bb, o, rfl, x0⟩ := HX.out i ks[i] (List.getElem?_eq_getElem hik2)
      have x0 := Tp.keep HB.out x0
      have hid : i < d := by omega
      generalize ks[i] = kx at *
      obtain ⟨r, hr, hr8⟩ : ∃ r : Nat, Go.bits .and .i64 kx 7 = (r : Int) ∧ r < 8 := ⟨(kx % 8).toNat, by rw [Lb.and7]; omega, by omega⟩
      have dm := fun u => Dm.decimal i (by omega) u
      obtain ⟨D, hD⟩ : ∃ D : ByteArray, ⟨(Lib.decDigits i).toArray⟩ = D := ⟨_, rfl⟩
      have HD : Hid (D.data.toList = Mr.d i) := by rw [← hD]; rfl
      have hdl := Mr.d_len hi40
      have hDs : D.size ≤ 2 := by rw [← Wk.len_data, HD.out]; exact hdl
      rw [hD] at dm
      clear hD HX ps er HT
      have hcase : r = 0 ∨ r = 1 ∨ r = 2 ∨ r = 3 ∨ 4 ≤ r := by omega
      rcases hcase with rfl | rfl | rfl | rfl | h4
      · cases b with
        | false =>
          have z0 : (S ++ ⟨#[116]⟩ : ByteArray).size = S.size + 1 := by rw [ByteArray.size_append]; rfl
          have z1 : (S ++ ⟨#[116]⟩ ++ D : ByteArray).size = S.size + 1 + D.size := by rw [ByteArray.size_append, z0]
          have y0 : (⟨#[116]⟩ ++ D : ByteArray).size = 1 + D.size := by rw [ByteArray.size_append]; rfl
          have TD : (⟨#[116]⟩ ++ D : ByteArray).data.toList = [116] ++ Mr.d i := by rw [Lf.append, HD.out]
          have HS2 : Hid (Mr.S (S ++ ⟨#[116]⟩ ++ D) true (l ++ [.mk 0 ([116] ++ Mr.d i) [] [] []]) (i + 1)) := HS.out.text hi40 (by rw [Lf.append, Lf.append, HD.out, List.append_assoc])
          clear HS
          go_wp2_with (first | (go_at_call 14; refine (dm _).mono ?_; rintro e w2 ⟨rfl, b2⟩; have HO2 := Lib.hid (HO.out.below b2); have HB2 := Lib.hid (HB.out.trans (b2.mono HB.out.size)); have x0 := Tp.keep b2 x0; clear b2 dm) | (at_builtin; refine Ro.push rfl _ _ 22 37 5 96 _ rfl Tryz.underlying22 It.info rfl (by decide) _ rfl (HO2.out.own.alloc _) ((w2).heap.size) (It.five 0 (⟨#[116]⟩ ++ D) (.slice none 0 0) (.slice none 0 0) (.slice none 0 0)) rfl (Gr.cells (w2) (It.five 0 (⟨#[116]⟩ ++ D) (.slice none 0 0) (.slice none 0 0) (.slice none 0 0)) 37) rfl (It.ones _ _ _ _ _ _ _ _ _ _ _) (by unfold maxLen; omega) (by omega) (by have := HB2.out.size; (try simp at this); simp; omega) ?_; intro v7 w7 R7 hg7 hf7; obtain ⟨a7, d7, xs7, rfl, HN7, b7⟩ := Mr.pushed (x := .mk 0 ([116] ++ Mr.d i) [] [] []) HO2.out HB2.out.size (Mr.fitText _ _ 0 TD) R7 hg7 hf7; have HB7 := Lib.hid (HB2.out.trans b7); clear R7 hg7 hf7 b7))
          go_roundw
          case rel => exact ⟨i + 1, _, true, l ++ [.mk 0 ([116] ++ Mr.d i) [] [] []], a7, d7, xs7, by omega, by omega, rfl, by rw [List.length_append]; rfl, rfl, by go_num, HS2, by rw [List.length_append]; exact HN7, HB7, by unfold Hid; rw [List.length_append, HL0.out]; rfl⟩
          case measure => simp [intOf]; omega
        | true =>
          have z0 : (S ++ ⟨#[123, 123, 47, 42, 32]⟩ : ByteArray).size = S.size + 5 := by rw [ByteArray.size_append]; rfl
          have z1 : (S ++ ⟨#[123, 123, 47, 42, 32]⟩ ++ D : ByteArray).size = S.size + 5 + D.size := by rw [ByteArray.size_append, z0]
          have z2 : (S ++ ⟨#[123, 123, 47, 42, 32]⟩ ++ D ++ ⟨#[32, 42, 47, 125, 125]⟩ : ByteArray).size = S.size + 5 + D.size + 5 := by rw [ByteArray.size_append, z1]; rfl
          have z3 : (S ++ ⟨#[123, 123, 47, 42, 32]⟩ ++ D ++ ⟨#[32, 42, 47, 125, 125]⟩ ++ ⟨#[116]⟩ : ByteArray).size = S.size + 5 + D.size + 5 + 1 := by rw [ByteArray.size_append, z2]; rfl
          have z4 : (S ++ ⟨#[123, 123, 47, 42, 32]⟩ ++ D ++ ⟨#[32, 42, 47, 125, 125]⟩ ++ ⟨#[116]⟩ ++ D : ByteArray).size = S.size + 5 + D.size + 5 + 1 + D.size := by rw [ByteArray.size_append, z3]
          have y0 : (⟨#[116]⟩ ++ D : ByteArray).size = 1 + D.size := by rw [ByteArray.size_append]; rfl
          have TD : (⟨#[116]⟩ ++ D : ByteArray).data.toList = [116] ++ Mr.d i := by rw [Lf.append, HD.out]
          have HS2 : Hid (Mr.S (S ++ ⟨#[123, 123, 47, 42, 32]⟩ ++ D ++ ⟨#[32, 42, 47, 125, 125]⟩ ++ ⟨#[116]⟩ ++ D) true (l ++ [.mk 0 ([116] ++ Mr.d i) [] [] []]) (i + 1)) := HS.out.com hi40 (by rw [Lf.append, Lf.append, Lf.append, Lf.append, Lf.append, HD.out]; simp only [List.append_assoc]; rfl)
          clear HS
          go_wp2_with (first | (go_at_call 14; refine (dm _).mono ?_; rintro e w2 ⟨rfl, b2⟩; have HO2 := Lib.hid (HO.out.below b2); have HB2 := Lib.hid (HB.out.trans (b2.mono HB.out.size)); have x0 := Tp.keep b2 x0; clear b2 dm) | (at_builtin; refine Ro.push rfl _ _ 22 37 5 96 _ rfl Tryz.underlying22 It.info rfl (by decide) _ rfl (HO2.out.own.alloc _) ((w2).heap.size) (It.five 0 (⟨#[116]⟩ ++ D) (.slice none 0 0) (.slice none 0 0) (.slice none 0 0)) rfl (Gr.cells (w2) (It.five 0 (⟨#[116]⟩ ++ D) (.slice none 0 0) (.slice none 0 0) (.slice none 0 0)) 37) rfl (It.ones _ _ _ _ _ _ _ _ _ _ _) (by unfold maxLen; omega) (by omega) (by have := HB2.out.size; (try simp at this); simp; omega) ?_; intro v7 w7 R7 hg7 hf7; obtain ⟨a7, d7, xs7, rfl, HN7, b7⟩ := Mr.pushed (x := .mk 0 ([116] ++ Mr.d i) [] [] []) HO2.out HB2.out.size (Mr.fitText _ _ 0 TD) R7 hg7 hf7; have HB7 := Lib.hid (HB2.out.trans b7); clear R7 hg7 hf7 b7))
          go_roundw
          case rel => exact ⟨i + 1, _, true, l ++ [.mk 0 ([116] ++ Mr.d i) [] [] []], a7, d7, xs7, by omega, by omega, rfl, by rw [List.length_append]; rfl, rfl, by go_num, HS2, by rw [List.length_append]; exact HN7, HB7, by unfold Hid; rw [List.length_append, HL0.out]; rfl⟩
          case measure => simp [intOf]; omega
      · have z0 : (S ++ ⟨#[123, 123, 36, 118]⟩ : ByteArray).size = S.size + 4 := by rw [ByteArray.size_append]; rfl
        have z1 : (S ++ ⟨#[123, 123, 36, 118]⟩ ++ D : ByteArray).size = S.size + 4 + D.size := by rw [ByteArray.size_append, z0]
        have z2 : (S ++ ⟨#[123, 123, 36, 118]⟩ ++ D ++ ⟨#[32, 58, 61, 32]⟩ : ByteArray).size = S.size + 4 + D.size + 4 := by rw [ByteArray.size_append, z1]; rfl
        have z3 : (S ++ ⟨#[123, 123, 36, 118]⟩ ++ D ++ ⟨#[32, 58, 61, 32]⟩ ++ D : ByteArray).size = S.size + 4 + D.size + 4 + D.size := by rw [ByteArray.size_append, z2]
        have z4 : (S ++ ⟨#[123, 123, 36, 118]⟩ ++ D ++ ⟨#[32, 58, 61, 32]⟩ ++ D ++ ⟨#[125, 125]⟩ : ByteArray).size = S.size + 4 + D.size + 4 + D.size + 2 := by rw [ByteArray.size_append, z3]; rfl
        have y0 : (⟨#[118]⟩ ++ D : ByteArray).size = 1 + D.size := by rw [ByteArray.size_append]; rfl
        have TD : (⟨#[118]⟩ ++ D : ByteArray).data.toList = [118] ++ Mr.d i := by rw [Lf.append, HD.out]
        have hll : (Mr.set i).length ≤ 60 := by unfold Mr.set; simp only [List.length_append, List.length_cons, List.length_nil]; omega
        have HS2 : Hid (Mr.S (S ++ ⟨#[123, 123, 36, 118]⟩ ++ D ++ ⟨#[32, 58, 61, 32]⟩ ++ D ++ ⟨#[125, 125]⟩) false (l ++ [Mr.iSet i]) (i + 1)) := HS.out.act (Mr.fact i hi40).g1 (Mr.fact i hi40).f1 hll (by rw [Lf.append, Lf.append, Lf.append, Lf.append, Lf.append, HD.out]; unfold Mr.set; simp only [List.append_assoc]; rfl)
        clear HS
        go_wp2_with (first | (go_at_call 14; refine (dm _).mono ?_; rintro e w2 ⟨rfl, b2⟩; have HO2 := Lib.hid (HO.out.below b2); have HB2 := Lib.hid (HB.out.trans (b2.mono HB.out.size)); have x0 := Tp.keep b2 x0; clear b2 dm) | (at_builtin; have HO3 : Hid (Mr.Own w.heap.size l ((w2.alloc (.cells #[.int .i64 2, .string ⟨#[]⟩, .slice none 0 0, .int .i64 (i : Int), .string ⟨#[]⟩] 43)).alloc (.cells #[.string ⟨#[]⟩, .slice (some ⟨w2.heap.size, 0, none⟩) 1 1] 46)) (.slice a1 l.length d1) xs) := HO2.out.below (Mr.lay_below w2 2 (i : Int) ⟨#[]⟩); have HB3 : Hid (Below w.heap.size w ((w2.alloc (.cells #[.int .i64 2, .string ⟨#[]⟩, .slice none 0 0, .int .i64 (i : Int), .string ⟨#[]⟩] 43)).alloc (.cells #[.string ⟨#[]⟩, .slice (some ⟨w2.heap.size, 0, none⟩) 1 1] 46))) := HB2.out.trans ((Mr.lay_below w2 2 (i : Int) ⟨#[]⟩).mono HB2.out.size); refine Ro.push rfl _ _ 22 37 5 96 _ rfl Tryz.underlying22 It.info rfl (by decide) _ rfl (HO3.out.own.alloc _) (w2.heap.size + 1 + 1) (It.five 2 ((⟨#[118]⟩ : ByteArray) ++ D) (.slice (some ⟨w2.heap.size + 1, 0, none⟩) 1 1) (.slice none 0 0) (.slice none 0 0)) rfl (Mr.cells2 w2 _ _ (It.five 2 ((⟨#[118]⟩ : ByteArray) ++ D) (.slice (some ⟨w2.heap.size + 1, 0, none⟩) 1 1) (.slice none 0 0) (.slice none 0 0)) 37) rfl (It.ones _ _ _ _ _ _ _ _ _ _ _) (by unfold maxLen; omega) (by omega) (by have := HB3.out.size; (try simp at this); simp; omega) ?_; intro v7 w7 R7 hg7 hf7; obtain ⟨a7, d7, xs7, rfl, HN7, b7⟩ := Mr.pushed (x := Mr.iSet i) HO3.out HB3.out.size (Mr.fitPipe HO2.out.own HB2.out.size 2 2 (i : Int) TD rfl) R7 hg7 hf7; have HB7 := Lib.hid (HB3.out.trans b7); clear R7 hg7 hf7 b7))
        go_roundw
        case rel => exact ⟨i + 1, _, false, l ++ [Mr.iSet i], a7, d7, xs7, by omega, by omega, rfl, by rw [List.length_append]; rfl, rfl, by go_num, HS2, by rw [List.length_append]; exact HN7, HB7, by unfold Hid; rw [List.length_append, HL0.out]; rfl⟩
        case measure => simp [intOf]; omega
      · have z0 : (S ++ ⟨#[123, 123, 116, 101, 109, 112, 108, 97, 116, 101, 32, 34, 110]⟩ : ByteArray).size = S.size + 13 := by rw [ByteArray.size_append]; rfl
        have z1 : (S ++ ⟨#[123, 123, 116, 101, 109, 112, 108, 97, 116, 101, 32, 34, 110]⟩ ++ D : ByteArray).size = S.size + 13 + D.size := by rw [ByteArray.size_append, z0]
        have z2 : (S ++ ⟨#[123, 123, 116, 101, 109, 112, 108, 97, 116, 101, 32, 34, 110]⟩ ++ D ++ ⟨#[34, 125, 125]⟩ : ByteArray).size = S.size + 13 + D.size + 3 := by rw [ByteArray.size_append, z1]; rfl
        have y0 : (⟨#[110]⟩ ++ D : ByteArray).size = 1 + D.size := by rw [ByteArray.size_append]; rfl
        have TD : (⟨#[110]⟩ ++ D : ByteArray).data.toList = [110] ++ Mr.d i := by rw [Lf.append, HD.out]
        have hll : (Mr.call i).length ≤ 60 := by unfold Mr.call; simp only [List.length_append, List.length_cons, List.length_nil]; omega
        have HS2 : Hid (Mr.S (S ++ ⟨#[123, 123, 116, 101, 109, 112, 108, 97, 116, 101, 32, 34, 110]⟩ ++ D ++ ⟨#[34, 125, 125]⟩) false (l ++ [Mr.iCall i]) (i + 1)) := HS.out.act (Mr.fact i hi40).g2 (Mr.fact i hi40).f2 hll (by rw [Lf.append, Lf.append, Lf.append, HD.out]; unfold Mr.call; simp only [List.append_assoc]; rfl)
        clear HS
        go_wp2_with (first | (go_at_call 14; refine (dm _).mono ?_; rintro e w2 ⟨rfl, b2⟩; have HO2 := Lib.hid (HO.out.below b2); have HB2 := Lib.hid (HB.out.trans (b2.mono HB.out.size)); have x0 := Tp.keep b2 x0; clear b2 dm) | (at_builtin; refine Ro.push rfl _ _ 22 37 5 96 _ rfl Tryz.underlying22 It.info rfl (by decide) _ rfl (HO2.out.own.alloc _) ((w2).heap.size) (It.five 6 (⟨#[110]⟩ ++ D) (.slice none 0 0) (.slice none 0 0) (.slice none 0 0)) rfl (Gr.cells (w2) (It.five 6 (⟨#[110]⟩ ++ D) (.slice none 0 0) (.slice none 0 0) (.slice none 0 0)) 37) rfl (It.ones _ _ _ _ _ _ _ _ _ _ _) (by unfold maxLen; omega) (by omega) (by have := HB2.out.size; (try simp at this); simp; omega) ?_; intro v7 w7 R7 hg7 hf7; obtain ⟨a7, d7, xs7, rfl, HN7, b7⟩ := Mr.pushed (x := Mr.iCall i) HO2.out HB2.out.size (Mr.fitText _ _ 6 TD) R7 hg7 hf7; have HB7 := Lib.hid (HB2.out.trans b7); clear R7 hg7 hf7 b7))
        go_roundw
        case rel => exact ⟨i + 1, _, false, l ++ [Mr.iCall i], a7, d7, xs7, by omega, by omega, rfl, by rw [List.length_append]; rfl, rfl, by go_num, HS2, by rw [List.length_append]; exact HN7, HB7, by unfold Hid; rw [List.length_append, HL0.out]; rfl⟩
        case measure => simp [intOf]; omega
      · have z0 : (S ++ ⟨#[123, 123, 105, 102, 32, 46, 125, 125, 123, 123, 101, 110, 100, 125, 125]⟩ : ByteArray).size = S.size + 15 := by rw [ByteArray.size_append]; rfl
        have hf := fun g u => Mw.field g u
        have HS2 : Hid (Mr.S (S ++ ⟨#[123, 123, 105, 102, 32, 46, 125, 125, 123, 123, 101, 110, 100, 125, 125]⟩) false (l ++ [.mk 3 [] Mh.dot [] []]) (i + 1)) := HS.out.blk (by rw [Lf.append])
        clear HS
        go_wp2_with (first | (go_at_call 14; refine (dm _).mono ?_; rintro e w2 ⟨rfl, b2⟩; have HO2 := Lib.hid (HO.out.below b2); have HB2 := Lib.hid (HB.out.trans (b2.mono HB.out.size)); have x0 := Tp.keep b2 x0; clear b2 dm) | (go_at_call 15; refine (Mh.hole2 _).mono ?_; rintro e w3 ⟨g, he, l3, b3⟩; unfold Mh.val at he; subst he; have HO3 := Lib.hid (HO2.out.below b3); have HB3 := Lib.hid (HB2.out.trans (b3.mono HB2.out.size)); have HL3 := Lib.hid l3; have HO2o := Lib.hid HO2.out.own; clear l3 b3) | (at_builtin; refine Ro.push rfl _ _ 22 37 5 96 _ rfl Tryz.underlying22 It.info rfl (by decide) _ rfl (HO3.out.own.alloc _) ((w3).heap.size) (It.five 3 ⟨#[]⟩ (.slice (some ⟨g, 0, none⟩) 1 1) (.slice none 0 0) (.slice none 0 0)) rfl (Gr.cells (w3) (It.five 3 ⟨#[]⟩ (.slice (some ⟨g, 0, none⟩) 1 1) (.slice none 0 0) (.slice none 0 0)) 37) rfl (It.ones _ _ _ _ _ _ _ _ _ _ _) (by unfold maxLen; omega) (by omega) (by have := HB3.out.size; (try simp at this); simp; omega) ?_; intro v7 w7 R7 hg7 hf7; obtain ⟨a7, d7, xs7, rfl, HN7, b7⟩ := Mr.pushed (x := .mk 3 [] Mh.dot [] []) HO3.out HB3.out.size (Mr.fitIf HO2o.out HB2.out.size HL3.out) R7 hg7 hf7; have HB7 := Lib.hid (HB3.out.trans b7); clear R7 hg7 hf7 b7))
        go_roundw
        case rel => exact ⟨i + 1, _, false, l ++ [.mk 3 [] Mh.dot [] []], a7, d7, xs7, by omega, by omega, rfl, by rw [List.length_append]; rfl, rfl, by go_num, HS2, by rw [List.length_append]; exact HN7, HB7, by unfold Hid; rw [List.length_append, HL0.out]; rfl⟩
        case measure => simp [intOf]; omega
      · have e0 : ((r : Int) == 0) = false := beq_eq_false_iff_ne.2 (by omega)
        have e1 : ((r : Int) == 1) = false := beq_eq_false_iff_ne.2 (by omega)
        have e2 : ((r : Int) == 2) = false := beq_eq_false_iff_ne.2 (by omega)
        have e3 : ((r : Int) == 3) = false := beq_eq_false_iff_ne.2 (by omega)
        have z0 : (S ++ ⟨#[123, 123, 34, 113]⟩ : ByteArray).size = S.size + 4 := by rw [ByteArray.size_append]; rfl
        have z1 : (S ++ ⟨#[123, 123, 34, 113]⟩ ++ D : ByteArray).size = S.size + 4 + D.size := by rw [ByteArray.size_append, z0]
        have z2 : (S ++ ⟨#[123, 123, 34, 113]⟩ ++ D ++ ⟨#[34, 125, 125]⟩ : ByteArray).size = S.size + 4 + D.size + 3 := by rw [ByteArray.size_append, z1]; rfl
        have y0 : (⟨#[113]⟩ ++ D : ByteArray).size = 1 + D.size := by rw [ByteArray.size_append]; rfl
        have TD : (⟨#[113]⟩ ++ D : ByteArray).data.toList = [113] ++ Mr.d i := by rw [Lf.append, HD.out]
        have hll : (Mr.quo i).length ≤ 60 := by unfold Mr.quo; simp only [List.length_append, List.length_cons, List.length_nil]; omega
        have HS2 : Hid (Mr.S (S ++ ⟨#[123, 123, 34, 113]⟩ ++ D ++ ⟨#[34, 125, 125]⟩) false (l ++ [Mr.iQuo i]) (i + 1)) := HS.out.act (Mr.fact i hi40).g3 (Mr.fact i hi40).f3 hll (by rw [Lf.append, Lf.append, Lf.append, HD.out]; unfold Mr.quo; simp only [List.append_assoc]; rfl)
        clear HS
        go_wp2_with (first | (go_at_call 14; refine (dm _).mono ?_; rintro e w2 ⟨rfl, b2⟩; have HO2 := Lib.hid (HO.out.below b2); have HB2 := Lib.hid (HB.out.trans (b2.mono HB.out.size)); have x0 := Tp.keep b2 x0; clear b2 dm) | (at_builtin; have HO3 : Hid (Mr.Own w.heap.size l ((w2.alloc (.cells #[.int .i64 3, .string ⟨#[]⟩, .slice none 0 0, .int .i64 0, .string ((⟨#[113]⟩ : ByteArray) ++ D)] 43)).alloc (.cells #[.string ⟨#[]⟩, .slice (some ⟨w2.heap.size, 0, none⟩) 1 1] 46)) (.slice a1 l.length d1) xs) := HO2.out.below (Mr.lay_below w2 3 0 ((⟨#[113]⟩ : ByteArray) ++ D)); have HB3 : Hid (Below w.heap.size w ((w2.alloc (.cells #[.int .i64 3, .string ⟨#[]⟩, .slice none 0 0, .int .i64 0, .string ((⟨#[113]⟩ : ByteArray) ++ D)] 43)).alloc (.cells #[.string ⟨#[]⟩, .slice (some ⟨w2.heap.size, 0, none⟩) 1 1] 46))) := HB2.out.trans ((Mr.lay_below w2 3 0 ((⟨#[113]⟩ : ByteArray) ++ D)).mono HB2.out.size); refine Ro.push rfl _ _ 22 37 5 96 _ rfl Tryz.underlying22 It.info rfl (by decide) _ rfl (HO3.out.own.alloc _) (w2.heap.size + 1 + 1) (It.five 1 ⟨#[]⟩ (.slice (some ⟨w2.heap.size + 1, 0, none⟩) 1 1) (.slice none 0 0) (.slice none 0 0)) rfl (Mr.cells2 w2 _ _ (It.five 1 ⟨#[]⟩ (.slice (some ⟨w2.heap.size + 1, 0, none⟩) 1 1) (.slice none 0 0) (.slice none 0 0)) 37) rfl (It.ones _ _ _ _ _ _ _ _ _ _ _) (by unfold maxLen; omega) (by omega) (by have := HB3.out.size; (try simp at this); simp; omega) ?_; intro v7 w7 R7 hg7 hf7; obtain ⟨a7, d7, xs7, rfl, HN7, b7⟩ := Mr.pushed (x := Mr.iQuo i) HO3.out HB3.out.size (Mr.fitPipe HO2.out.own HB2.out.size 1 3 0 rfl TD) R7 hg7 hf7; have HB7 := Lib.hid (HB3.out.trans b7); clear R7 hg7 hf7 b7))
        go_roundw
        case rel => exact ⟨i + 1, _, false, l ++ [Mr.iQuo i], a7, d7, xs7, by omega, by omega, rfl, by rw [List.length_append]; rfl, rfl, by go_num, HS2, by rw [List.length_append]; exact HN7, HB7, by unfold Hid; rw [List.length_append, HL0.out]; rfl⟩
        case measure => simp [intOf]; omega
    · have pr := ps S
      rw [HS.out.parse hi] at pr
      clear HS HX ps
      by_cases hik2 : i < ks.length
      · have g1 : decide ((i : Int) < (ks.length : Int)) = true := decide_eq_true (by omega)
        have g2 : decide ((i : Int) < 40) = false := decide_eq_false (by omega)
        have g3 : decide (i < ks.length) = true := decide_eq_true hik2
        have g4 : decide (i < 40) = false := decide_eq_false (by omega)
        go_wp2_with (first | (go_at_call 8; refine Calls.mono (pr _ (HT.out.on HB.out)) ?_; rintro e w3 ⟨v3, rfl, l3, b3⟩; have HL3 := Lib.hid l3; have HO3 := Lib.hid (HO.out.below b3); have B3 := Lib.hid (HB.out.trans (b3.mono HB.out.size)); clear l3 b3 pr) | (go_at_call 11; refine (er _ _).mono ?_; rintro e w9 ⟨rfl, hw⟩; have hw := hw.symm; subst hw) | (go_at_call 10; refine Calls.mono (Sa.items _ l (Nat.le_refl _) _ _ _ (fun _ => True) _ HL3.out (Mr.Own.lies HO3.out)) ?_; rintro e w8 ⟨rfl, b8⟩; have B8 := Lib.hid (Wk.below_step B3.out b8); clear b8))
        go_ret
        exact ⟨rfl, B8.out⟩
      · have g1 : decide ((i : Int) < (ks.length : Int)) = false := decide_eq_false (by omega)
        have g3 : decide (i < ks.length) = false := decide_eq_false hik2
        go_wp2_with (first | (go_at_call 8; refine Calls.mono (pr _ (HT.out.on HB.out)) ?_; rintro e w3 ⟨v3, rfl, l3, b3⟩; have HL3 := Lib.hid l3; have HO3 := Lib.hid (HO.out.below b3); have B3 := Lib.hid (HB.out.trans (b3.mono HB.out.size)); clear l3 b3 pr) | (go_at_call 11; refine (er _ _).mono ?_; rintro e w9 ⟨rfl, hw⟩; have hw := hw.symm; subst hw) | (go_at_call 10; refine Calls.mono (Sa.items _ l (Nat.le_refl _) _ _ _ (fun _ => True) _ HL3.out (Mr.Own.lies HO3.out)) ?_; rintro e w8 ⟨rfl, b8⟩; have B8 := Lib.hid (Wk.below_step B3.out b8); clear b8))
        go_ret
        exact ⟨rfl, B8.out⟩
end Go.Proofs.YtjppobeomocgbaaGreatDoor

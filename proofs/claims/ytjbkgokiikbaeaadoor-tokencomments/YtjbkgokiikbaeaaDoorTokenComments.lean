/-
  THE WALK of stolelaw5.TokenComments: whatever the two texts, the call returns true.
-/
import Derived.Test.YtjbkgokiikbaeaaDoorTAwake
import Derived.Test.YtjbkgokiikbaeaaDoorTQuiet
import Derived.Test.YtjbkgokiikbaeaaDoorTCom
namespace Go.Proofs.YtjbkgokiikbaeaaDoor
open Go.RowKit
/-- what begins so and goes on without 13 and one byte more -/
def Cm.Good (l : List UInt8) (n : UInt8) (x : ByteArray) : Prop := ∃ k, x.data.toList = l ++ k ∧ ∀ c ∈ k, c ≠ n ∧ c ≠ 13
theorem Cm.good0 (l : List UInt8) (n : UInt8) : Hid (Cm.Good l n ⟨l.toArray⟩) := ⟨[], by simp, fun c h => by cases h⟩
theorem Cm.good1 {l : List UInt8} {n : UInt8} {x E : ByteArray} {c : UInt8} (h : Cm.Good l n x) (he : E.data.toList = [c]) (h1 : ¬ c = n) (h2 : ¬ c = 13) : Hid (Cm.Good l n (x ++ E)) := by
  obtain ⟨k, e, hk⟩ := h
  refine ⟨k ++ [c], ?_, ?_⟩
  · rw [ByteArray.data_append, Array.toList_append, e, he, List.append_assoc]
  · intro y hy
    rcases List.mem_append.1 hy with q | q
    · exact hk y q
    · rw [List.mem_singleton.1 q]
      exact ⟨h1, h2⟩
theorem Cm.page (C B : ByteArray) (hC : Cm.Good [] 45 C) (hB : Cm.Good [113] 62 B) : ∃ V1 V2 V3 V4 : ByteArray, (⟨#[97, 60, 33, 45, 45]⟩ : ByteArray) ++ C = V1 ∧ V1 ++ (⟨#[45, 45, 62, 60, 33]⟩ : ByteArray) = V2 ∧ V2 ++ B = V3 ∧ V3 ++ (⟨#[62, 122]⟩ : ByteArray) = V4 ∧
    V1.size = C.size + 5 ∧ V2.size = C.size + 10 ∧ V3.size = C.size + 10 + B.size ∧ V4.size = C.size + 12 + B.size ∧
    Rd.tokens V4 = [⟨0, Ts.e, ⟨#[97]⟩, [], false⟩, ⟨3, Ts.e, C, [], false⟩, ⟨3, Ts.e, B, [], false⟩, ⟨0, Ts.e, ⟨#[122]⟩, [], false⟩] := by
  obtain ⟨c, ec, hc⟩ := hC
  obtain ⟨b, eb, hb⟩ := hB
  have eC : C = ⟨c.toArray⟩ := by apply ByteArray.ext; rw [← Array.toList_inj, ec]; simp
  have eB : B = ⟨(113 :: b).toArray⟩ := by apply ByteArray.ext; rw [← Array.toList_inj, eb]; simp
  have h := Cm.tokens c b hc hb
  rw [← eC, ← eB] at h
  refine ⟨_, _, _, _, rfl, rfl, rfl, rfl, ?_, ?_, ?_, ?_, ?_⟩
  · rw [ByteArray.size_append]; show 5 + _ = _; omega
  · rw [ByteArray.size_append, ByteArray.size_append]; show 5 + _ + 5 = _; omega
  · rw [ByteArray.size_append, ByteArray.size_append, ByteArray.size_append]; show 5 + _ + 5 + _ = _; omega
  · rw [ByteArray.size_append, ByteArray.size_append, ByteArray.size_append, ByteArray.size_append]; show 5 + _ + 5 + _ + 2 = _; omega
  · rw [← h]
    congr 1
    rw [eC, eB]
    apply ByteArray.ext
    simp [ByteArray.data_append]
theorem Cm.lit (V : World) (a c b z : ByteArray) : Tk.Lies (V.alloc (.cells #[.int .i64 0, .string ⟨#[]⟩, .string a, .slice none 0 0, .bool false, .int .i64 3, .string ⟨#[]⟩, .string c, .slice none 0 0, .bool false, .int .i64 3, .string ⟨#[]⟩, .string b, .slice none 0 0, .bool false, .int .i64 0, .string ⟨#[]⟩, .string z, .slice none 0 0, .bool false] 30)) (fun k => V.heap.size ≤ k) [⟨0, Ts.e, a, [], false⟩, ⟨3, Ts.e, c, [], false⟩, ⟨3, Ts.e, b, [], false⟩, ⟨0, Ts.e, z, [], false⟩] (.slice (some ⟨V.heap.size, 0, none⟩) 4 4) :=
  Tk.Lies.lit [⟨0, Ts.e, a, [], false⟩, ⟨3, Ts.e, c, [], false⟩, ⟨3, Ts.e, b, [], false⟩, ⟨0, Ts.e, z, [], false⟩] [.slice none 0 0, .slice none 0 0, .slice none 0 0, .slice none 0 0] _ (heap_alloc_new V _) rfl (Nat.le_refl _) (by show (4 : Nat) ≤ maxLen; decide) ⟨Ak.Lies.nil _ _, Ak.Lies.nil _ _, Ak.Lies.nil _ _, Ak.Lies.nil _ _, trivial⟩
set_option maxRecDepth 100000 in
set_option maxHeartbeats 8000000 in
theorem Law.tokenComments (s t : ByteArray) (m : Int) (w : World) (hm : w.cell? ⟨0, 0, none⟩ = some (.int .i64 m)) (_hs : s.size ≤ reachBytes) (_ht : t.size ≤ reachBytes) :
    Calls Tryd.prog 5 #[.string s, .string t] w fun e w' => e = .returned (.bool true) ∧ Below w.heap.size w w' := by
  have haw := Aw.awake m w hm
  have HM := Lib.hid hm
  unfold reachBytes at _hs _ht
  clear hm
  go_enter Tryd.func5, Tryd.ntmps5
  go_wp2_with (go_at_call 6; refine haw.mono ?_; rintro e w1 ⟨rfl, q1⟩; clear haw; have HB1 := Lib.hid q1; clear q1)
  go_loop [5, 7] (fun y i => ∃ (k : Nat) (x : ByteArray), k ≤ s.size ∧ k ≤ 300 ∧ i = .int .i64 (k : Int) ∧ y = .string x ∧ Hid (Cm.Good [] 45 x) ∧ x.size ≤ k + 0) (fun _ i => s.size - (intOf i).toNat)
  case atStart => exact ⟨0, ⟨#[]⟩, Nat.zero_le _, Nat.zero_le _, rfl, rfl, Cm.good0 _ _, Nat.le_refl _⟩
  case round =>
    obtain ⟨kC, C, hk, hk3, rfl, rfl, HC, hxC⟩ := hrel
    by_cases hlt : kC < s.size
    · have d1 : decide ((kC : Int) < (s.size : Int)) = true := decide_eq_true (by omega)
      by_cases h3 : kC < 300
      · have d2 : decide ((kC : Int) < 300) = true := decide_eq_true (by omega)
        have hcut := Rm.text_cut s kC (kC + 1) (by omega) (by omega)
        rw [show ((kC + 1 : Nat) : Int) = (kC : Int) + 1 by omega] at hcut
        have hw : IntKind.i64.wrap ((kC : Int) + 1) = (kC : Int) + 1 := by rw [IntKind.wrap_i64]; omega
        have he : (s.extract kC (kC + 1)).data.toList = [s[kC]] := by
          rw [Wk.part_data]
          rw [List.drop_eq_getElem_cons (by rw [Wk.len_data]; exact hlt)]
          rfl
        have hes : (s.extract kC (kC + 1)).size = 1 := by rw [← Wk.len_data, he]; rfl
        have HE := Lib.hid he
        generalize s.extract kC (kC + 1) = E at *
        clear he
        by_cases c1 : s[kC] = 45
        · have t1 : ((s[kC].toNat : Int) != 45) = false := Qt.ne_false c1
          clear c1
          go_wp2
          go_round
          case rel => exact ⟨kC + 1, C, by omega, by omega, by go_num, rfl, HC, by omega⟩
          case measure => simp [intOf]; omega
        have t1 : ((s[kC].toNat : Int) != 45) = true := Qt.ne_true c1
        by_cases c3 : s[kC] = 13
        · have t3 : ((s[kC].toNat : Int) != 13) = false := Qt.ne_false c3
          clear c3 c1
          go_wp2
          go_round
          case rel => exact ⟨kC + 1, C, by omega, by omega, by go_num, rfl, HC, by omega⟩
          case measure => simp [intOf]; omega
        have t3 : ((s[kC].toNat : Int) != 13) = true := Qt.ne_true c3
        have HN : Hid (Cm.Good [] 45 (C ++ E)) := Cm.good1 HC.out HE.out c1 c3
        have hxe : (C ++ E).size = C.size + 1 := by rw [ByteArray.size_append, hes]
        clear c1 c3 HE
        go_wp2
        go_round
        case rel => exact ⟨kC + 1, C ++ E, by omega, by omega, by go_num, rfl, HN, by omega⟩
        case measure => simp [intOf]; omega
      · have d2 : decide ((kC : Int) < 300) = false := decide_eq_false (by omega)
        have hCs : C.size ≤ 300 := by omega
        clear hk hk3
        go_wp2
        go_loop [6, 8] (fun y i => ∃ (k : Nat) (x : ByteArray), k ≤ t.size ∧ k ≤ 300 ∧ i = .int .i64 (k : Int) ∧ y = .string x ∧ Hid (Cm.Good [113] 62 x) ∧ x.size ≤ k + 1) (fun _ i => t.size - (intOf i).toNat)
        case atStart => exact ⟨0, ⟨#[113]⟩, Nat.zero_le _, Nat.zero_le _, rfl, rfl, Cm.good0 _ _, Nat.le_refl _⟩
        case round =>
          obtain ⟨kB, B, hk, hk3, rfl, rfl, HB, hxB⟩ := hrel
          by_cases hlt : kB < t.size
          · have d1 : decide ((kB : Int) < (t.size : Int)) = true := decide_eq_true (by omega)
            by_cases h3 : kB < 300
            · have d2 : decide ((kB : Int) < 300) = true := decide_eq_true (by omega)
              have hcut := Rm.text_cut t kB (kB + 1) (by omega) (by omega)
              rw [show ((kB + 1 : Nat) : Int) = (kB : Int) + 1 by omega] at hcut
              have hw : IntKind.i64.wrap ((kB : Int) + 1) = (kB : Int) + 1 := by rw [IntKind.wrap_i64]; omega
              have he : (t.extract kB (kB + 1)).data.toList = [t[kB]] := by
                rw [Wk.part_data]
                rw [List.drop_eq_getElem_cons (by rw [Wk.len_data]; exact hlt)]
                rfl
              have hes : (t.extract kB (kB + 1)).size = 1 := by rw [← Wk.len_data, he]; rfl
              have HE := Lib.hid he
              generalize t.extract kB (kB + 1) = E at *
              clear he
              by_cases c1 : t[kB] = 62
              · have t1 : ((t[kB].toNat : Int) != 62) = false := Qt.ne_false c1
                clear c1
                go_wp2
                go_round
                case rel => exact ⟨kB + 1, B, by omega, by omega, by go_num, rfl, HB, by omega⟩
                case measure => simp [intOf]; omega
              have t1 : ((t[kB].toNat : Int) != 62) = true := Qt.ne_true c1
              by_cases c3 : t[kB] = 13
              · have t3 : ((t[kB].toNat : Int) != 13) = false := Qt.ne_false c3
                clear c3 c1
                go_wp2
                go_round
                case rel => exact ⟨kB + 1, B, by omega, by omega, by go_num, rfl, HB, by omega⟩
                case measure => simp [intOf]; omega
              have t3 : ((t[kB].toNat : Int) != 13) = true := Qt.ne_true c3
              have HN : Hid (Cm.Good [113] 62 (B ++ E)) := Cm.good1 HB.out HE.out c1 c3
              have hxe : (B ++ E).size = B.size + 1 := by rw [ByteArray.size_append, hes]
              clear c1 c3 HE
              go_wp2
              go_round
              case rel => exact ⟨kB + 1, B ++ E, by omega, by omega, by go_num, rfl, HN, by omega⟩
              case measure => simp [intOf]; omega
            · have d2 : decide ((kB : Int) < 300) = false := decide_eq_false (by omega)
              have hBs : B.size ≤ 301 := by omega
              obtain ⟨V1, V2, V3, V4, e1, e2, e3, e4, z1, z2, z3, z4, hTok⟩ := Cm.page C B HC.out HB.out
              have hT := fun V hb => Tk.short V4 m V (by omega) (Tp.keep hb HM.out : World.cell? V _ = _)
              rw [hTok] at hT
              clear hTok HM HC HB hk3 hxB hxC
              go_wp2_with (first | (go_at_call 7; refine (hT _ HB1.out).mono ?_; rintro e w2 ⟨v2, rfl, hl2, hb2⟩; have HL2 := Lib.hid hl2; have HB2 := Lib.hid (HB1.out.trans (hb2.mono HB1.out.size)); clear hT hl2 hb2) | (go_at_call 8; refine (Aw.num _ _).mono ?_; rintro e w' ⟨rfl, hw⟩; have hw := hw.symm; subst hw) | (go_at_call 10; refine (Sa.tokens _ _ _ (fun _ => True) _ _ (HL2.out.on fun k hk => ⟨trivial, Below.heap_alloc _ _ _ hk.2⟩) (Cm.lit w2 _ _ _ _)).mono ?_; rintro e w3 ⟨rfl, n3, hw3⟩; have HC3 : Hid (Below w2.heap.size w2 w3) := Lib.hid (by rw [hw3]; exact Sa.drews ((Below.refl _ _).alloc (Nat.le_refl _) _) n3); clear hw3 HL2))
              go_ret
              exact ⟨rfl, HB2.out.trans (HC3.out.mono HB2.out.size)⟩
          · have d1 : decide ((kB : Int) < (t.size : Int)) = false := decide_eq_false (by omega)
            have hBs : B.size ≤ 301 := by omega
            obtain ⟨V1, V2, V3, V4, e1, e2, e3, e4, z1, z2, z3, z4, hTok⟩ := Cm.page C B HC.out HB.out
            have hT := fun V hb => Tk.short V4 m V (by omega) (Tp.keep hb HM.out : World.cell? V _ = _)
            rw [hTok] at hT
            clear hTok HM HC HB hk3 hxB hxC
            go_wp2_with (first | (go_at_call 7; refine (hT _ HB1.out).mono ?_; rintro e w2 ⟨v2, rfl, hl2, hb2⟩; have HL2 := Lib.hid hl2; have HB2 := Lib.hid (HB1.out.trans (hb2.mono HB1.out.size)); clear hT hl2 hb2) | (go_at_call 8; refine (Aw.num _ _).mono ?_; rintro e w' ⟨rfl, hw⟩; have hw := hw.symm; subst hw) | (go_at_call 10; refine (Sa.tokens _ _ _ (fun _ => True) _ _ (HL2.out.on fun k hk => ⟨trivial, Below.heap_alloc _ _ _ hk.2⟩) (Cm.lit w2 _ _ _ _)).mono ?_; rintro e w3 ⟨rfl, n3, hw3⟩; have HC3 : Hid (Below w2.heap.size w2 w3) := Lib.hid (by rw [hw3]; exact Sa.drews ((Below.refl _ _).alloc (Nat.le_refl _) _) n3); clear hw3 HL2))
            go_ret
            exact ⟨rfl, HB2.out.trans (HC3.out.mono HB2.out.size)⟩
    · have d1 : decide ((kC : Int) < (s.size : Int)) = false := decide_eq_false (by omega)
      have hCs : C.size ≤ 300 := by omega
      clear hk hk3
      go_wp2
      go_loop [6, 8] (fun y i => ∃ (k : Nat) (x : ByteArray), k ≤ t.size ∧ k ≤ 300 ∧ i = .int .i64 (k : Int) ∧ y = .string x ∧ Hid (Cm.Good [113] 62 x) ∧ x.size ≤ k + 1) (fun _ i => t.size - (intOf i).toNat)
      case atStart => exact ⟨0, ⟨#[113]⟩, Nat.zero_le _, Nat.zero_le _, rfl, rfl, Cm.good0 _ _, Nat.le_refl _⟩
      case round =>
        obtain ⟨kB, B, hk, hk3, rfl, rfl, HB, hxB⟩ := hrel
        by_cases hlt : kB < t.size
        · have d1 : decide ((kB : Int) < (t.size : Int)) = true := decide_eq_true (by omega)
          by_cases h3 : kB < 300
          · have d2 : decide ((kB : Int) < 300) = true := decide_eq_true (by omega)
            have hcut := Rm.text_cut t kB (kB + 1) (by omega) (by omega)
            rw [show ((kB + 1 : Nat) : Int) = (kB : Int) + 1 by omega] at hcut
            have hw : IntKind.i64.wrap ((kB : Int) + 1) = (kB : Int) + 1 := by rw [IntKind.wrap_i64]; omega
            have he : (t.extract kB (kB + 1)).data.toList = [t[kB]] := by
              rw [Wk.part_data]
              rw [List.drop_eq_getElem_cons (by rw [Wk.len_data]; exact hlt)]
              rfl
            have hes : (t.extract kB (kB + 1)).size = 1 := by rw [← Wk.len_data, he]; rfl
            have HE := Lib.hid he
            generalize t.extract kB (kB + 1) = E at *
            clear he
            by_cases c1 : t[kB] = 62
            · have t1 : ((t[kB].toNat : Int) != 62) = false := Qt.ne_false c1
              clear c1
              go_wp2
              go_round
              case rel => exact ⟨kB + 1, B, by omega, by omega, by go_num, rfl, HB, by omega⟩
              case measure => simp [intOf]; omega
            have t1 : ((t[kB].toNat : Int) != 62) = true := Qt.ne_true c1
            by_cases c3 : t[kB] = 13
            · have t3 : ((t[kB].toNat : Int) != 13) = false := Qt.ne_false c3
              clear c3 c1
              go_wp2
              go_round
              case rel => exact ⟨kB + 1, B, by omega, by omega, by go_num, rfl, HB, by omega⟩
              case measure => simp [intOf]; omega
            have t3 : ((t[kB].toNat : Int) != 13) = true := Qt.ne_true c3
            have HN : Hid (Cm.Good [113] 62 (B ++ E)) := Cm.good1 HB.out HE.out c1 c3
            have hxe : (B ++ E).size = B.size + 1 := by rw [ByteArray.size_append, hes]
            clear c1 c3 HE
            go_wp2
            go_round
            case rel => exact ⟨kB + 1, B ++ E, by omega, by omega, by go_num, rfl, HN, by omega⟩
            case measure => simp [intOf]; omega
          · have d2 : decide ((kB : Int) < 300) = false := decide_eq_false (by omega)
            have hBs : B.size ≤ 301 := by omega
            obtain ⟨V1, V2, V3, V4, e1, e2, e3, e4, z1, z2, z3, z4, hTok⟩ := Cm.page C B HC.out HB.out
            have hT := fun V hb => Tk.short V4 m V (by omega) (Tp.keep hb HM.out : World.cell? V _ = _)
            rw [hTok] at hT
            clear hTok HM HC HB hk3 hxB hxC
            go_wp2_with (first | (go_at_call 7; refine (hT _ HB1.out).mono ?_; rintro e w2 ⟨v2, rfl, hl2, hb2⟩; have HL2 := Lib.hid hl2; have HB2 := Lib.hid (HB1.out.trans (hb2.mono HB1.out.size)); clear hT hl2 hb2) | (go_at_call 8; refine (Aw.num _ _).mono ?_; rintro e w' ⟨rfl, hw⟩; have hw := hw.symm; subst hw) | (go_at_call 10; refine (Sa.tokens _ _ _ (fun _ => True) _ _ (HL2.out.on fun k hk => ⟨trivial, Below.heap_alloc _ _ _ hk.2⟩) (Cm.lit w2 _ _ _ _)).mono ?_; rintro e w3 ⟨rfl, n3, hw3⟩; have HC3 : Hid (Below w2.heap.size w2 w3) := Lib.hid (by rw [hw3]; exact Sa.drews ((Below.refl _ _).alloc (Nat.le_refl _) _) n3); clear hw3 HL2))
            go_ret
            exact ⟨rfl, HB2.out.trans (HC3.out.mono HB2.out.size)⟩
        · have d1 : decide ((kB : Int) < (t.size : Int)) = false := decide_eq_false (by omega)
          have hBs : B.size ≤ 301 := by omega
          obtain ⟨V1, V2, V3, V4, e1, e2, e3, e4, z1, z2, z3, z4, hTok⟩ := Cm.page C B HC.out HB.out
          have hT := fun V hb => Tk.short V4 m V (by omega) (Tp.keep hb HM.out : World.cell? V _ = _)
          rw [hTok] at hT
          clear hTok HM HC HB hk3 hxB hxC
          go_wp2_with (first | (go_at_call 7; refine (hT _ HB1.out).mono ?_; rintro e w2 ⟨v2, rfl, hl2, hb2⟩; have HL2 := Lib.hid hl2; have HB2 := Lib.hid (HB1.out.trans (hb2.mono HB1.out.size)); clear hT hl2 hb2) | (go_at_call 8; refine (Aw.num _ _).mono ?_; rintro e w' ⟨rfl, hw⟩; have hw := hw.symm; subst hw) | (go_at_call 10; refine (Sa.tokens _ _ _ (fun _ => True) _ _ (HL2.out.on fun k hk => ⟨trivial, Below.heap_alloc _ _ _ hk.2⟩) (Cm.lit w2 _ _ _ _)).mono ?_; rintro e w3 ⟨rfl, n3, hw3⟩; have HC3 : Hid (Below w2.heap.size w2 w3) := Lib.hid (by rw [hw3]; exact Sa.drews ((Below.refl _ _).alloc (Nat.le_refl _) _) n3); clear hw3 HL2))
          go_ret
          exact ⟨rfl, HB2.out.trans (HC3.out.mono HB2.out.size)⟩
end Go.Proofs.YtjbkgokiikbaeaaDoor

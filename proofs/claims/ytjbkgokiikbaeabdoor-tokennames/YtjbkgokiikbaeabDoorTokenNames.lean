/-
  THE WALK of stolelaw5.TokenNames: whatever the number and the flag, the call returns true.
-/
import Derived.Test.YtjbkgokiikbaeabDoorTAwake
import Derived.Test.YtjbkgokiikbaeabDoorTNm2
namespace Go.Proofs.YtjbkgokiikbaeabDoor
open Go.RowKit
theorem Bt.and6 (n : Int) : Go.bits .and .i64 n 63 = n % 64 := by
  have hm : (BitVec.ofInt 64 63).toNat = 2 ^ 6 - 1 := by decide
  have key : (BitVec.ofInt 64 n &&& BitVec.ofInt 64 63).toNat = (n % ((2 ^ 64 : Nat) : Int)).toNat % 2 ^ 6 := by
    rw [BitVec.toNat_and, BitVec.toNat_ofInt, hm, Nat.and_two_pow_sub_one_eq_mod]
  show IntKind.i64.wrap ((BitVec.ofInt 64 n &&& BitVec.ofInt 64 63).toNat : Nat) = n % 64
  rw [key, IntKind.wrap_i64]
  omega
theorem Nw.many (n : Int) : ∃ k : Nat, Go.bits .and .i64 n 63 = (k : Int) ∧ k < 64 := by
  refine ⟨(n % 64).toNat, ?_, by omega⟩
  rw [Bt.and6]
  omega
/-- the i-th byte of the name, great and small -/
def Nw.c (i : Nat) : UInt8 := UInt8.ofNat (65 + i % 26)
def Nw.lo (i : Nat) : UInt8 := UInt8.ofNat (97 + i % 26)
def Nw.name (k : Nat) : List UInt8 := (List.range k).map Nw.c
def Nw.cut (k : Nat) : List UInt8 := (List.range k).map Nw.lo
theorem Nw.cN (i : Nat) : (Nw.c i).toNat = 65 + i % 26 := by unfold Nw.c; rw [UInt8.toNat_ofNat']; omega
theorem Nw.loN (i : Nat) : (Nw.lo i).toNat = 97 + i % 26 := by unfold Nw.lo; rw [UInt8.toNat_ofNat']; omega
theorem Nw.low (i : Nat) : Pl.lowB (Nw.c i) = Nw.lo i := by
  unfold Pl.lowB
  rw [if_pos (by rw [Nw.cN]; omega)]
  apply UInt8.toNat_inj.1
  rw [UInt8.toNat_add, Nw.cN, Nw.loN]
  show (65 + i % 26 + 32) % 256 = _
  omega
theorem Nw.name_snoc (k : Nat) : Nw.name (k + 1) = Nw.name k ++ [Nw.c k] := by simp [Nw.name, List.range_succ]
theorem Nw.cut_snoc (k : Nat) : Nw.cut (k + 1) = Nw.cut k ++ [Nw.lo k] := by simp [Nw.cut, List.range_succ]
theorem Nw.name_len (k : Nat) : (Nw.name k).length = k := by simp [Nw.name]
theorem Nw.cut_len (k : Nat) : (Nw.cut k).length = k := by simp [Nw.cut]
theorem Nw.rest (k : Nat) : ∃ l, Nw.name (k + 1) = 65 :: l ∧ (∀ c ∈ l, Nm.up c) ∧ ((65 :: l).map Pl.lowB).take 32 = Nw.cut (min (k + 1) 32) := by
  refine ⟨(List.range k).map (fun i => Nw.c (i + 1)), ?_, ?_, ?_⟩
  · simp [Nw.name, List.range_succ_eq_map, Function.comp_def]
    decide
  · intro c hc
    simp only [List.mem_map] at hc
    obtain ⟨i, _, rfl⟩ := hc
    exact ⟨by rw [Nw.cN]; omega, by rw [Nw.cN]; omega⟩
  · have e : (65 :: (List.range k).map (fun i => Nw.c (i + 1)) : List UInt8) = Nw.name (k + 1) := by
      simp [Nw.name, List.range_succ_eq_map, Function.comp_def]
      decide
    rw [e]
    simp only [Nw.name, Nw.cut, List.map_map]
    rw [← List.map_take, List.take_range]
    rw [Nat.min_comm]
    exact List.map_congr_left fun i _ => Nw.low i
theorem Nw.endTok (k : Nat) : Rd.tokens ⟨([60, 47] ++ (Nw.name (k + 1) ++ [62])).toArray⟩ = [⟨2, ⟨(Nw.cut (min (k + 1) 32)).toArray⟩, Ts.e, [], false⟩] := by
  obtain ⟨l, e, hl, hc⟩ := Nw.rest k
  rw [e, ← hc]
  exact Nm.endTokens l hl
theorem Nw.tagTok (k : Nat) : Rd.tokens ⟨([60] ++ (Nw.name (k + 1) ++ (32 :: (Nw.name (k + 1) ++ [61, 49, 62])))).toArray⟩ = [⟨1, ⟨(Nw.cut (min (k + 1) 32)).toArray⟩, Ts.e, [(⟨(Nw.cut (min (k + 1) 32)).toArray⟩, ⟨#[49]⟩)], false⟩] := by
  obtain ⟨l, e, hl, hc⟩ := Nw.rest k
  rw [e, ← hc]
  exact Nm.tagTokens l hl
theorem Nw.snocB (l : List UInt8) (c : UInt8) : (⟨l.toArray⟩ : ByteArray) ++ (⟨#[c]⟩ : ByteArray) = ⟨(l ++ [c]).toArray⟩ := by
  apply ByteArray.ext
  simp [ByteArray.data_append]
/-- WALK -/
theorem Nw.page (k : Nat) (X Y : ByteArray) (hX : X = ⟨(Nw.name (k + 1)).toArray⟩) (hY : Y = ⟨(Nw.cut (min (k + 1) 32)).toArray⟩) :
    (∃ V1 V2 : ByteArray, (⟨#[60, 47]⟩ : ByteArray) ++ X = V1 ∧ V1 ++ (⟨#[62]⟩ : ByteArray) = V2 ∧ V1.size = k + 3 ∧ V2.size = k + 4 ∧ Rd.tokens V2 = [⟨2, Y, Ts.e, [], false⟩]) ∧
    (∃ V1 V2 V3 V4 : ByteArray, (⟨#[60]⟩ : ByteArray) ++ X = V1 ∧ V1 ++ (⟨#[32]⟩ : ByteArray) = V2 ∧ V2 ++ X = V3 ∧ V3 ++ (⟨#[61, 49, 62]⟩ : ByteArray) = V4 ∧ V1.size = k + 2 ∧ V2.size = k + 3 ∧ V3.size = k + 3 + (k + 1) ∧ V4.size = k + 6 + (k + 1) ∧ Rd.tokens V4 = [⟨1, Y, Ts.e, [(Y, ⟨#[49]⟩)], false⟩]) := by
  have zX : X.size = k + 1 := by rw [hX]; show (List.toArray _).size = _; simp [Nw.name_len]
  have l2 : (⟨#[60, 47]⟩ : ByteArray).size = 2 := rfl
  have l1 : (⟨#[62]⟩ : ByteArray).size = 1 := rfl
  have l1' : (⟨#[60]⟩ : ByteArray).size = 1 := rfl
  have l1'' : (⟨#[32]⟩ : ByteArray).size = 1 := rfl
  have l3 : (⟨#[61, 49, 62]⟩ : ByteArray).size = 3 := rfl
  refine ⟨⟨_, _, rfl, rfl, ?_, ?_, ?_⟩, ⟨_, _, _, _, rfl, rfl, rfl, rfl, ?_, ?_, ?_, ?_, ?_⟩⟩
  case refine_3 =>
    rw [hY, ← Nw.endTok k]
    congr 1
    rw [hX]
    apply ByteArray.ext
    simp [ByteArray.data_append]
  case refine_8 =>
    rw [hY, ← Nw.tagTok k]
    congr 1
    rw [hX]
    apply ByteArray.ext
    simp [ByteArray.data_append]
  all_goals (simp only [ByteArray.size_append]; omega)
theorem Nw.lit1 (V : World) (a : ByteArray) : Tk.Lies (V.alloc (.cells #[.int .i64 2, .string a, .string ⟨#[]⟩, .slice none 0 0, .bool false] 34)) (fun k => V.heap.size ≤ k) [⟨2, a, Ts.e, [], false⟩] (.slice (some ⟨V.heap.size, 0, none⟩) 1 1) :=
  Tk.Lies.lit [⟨2, a, Ts.e, [], false⟩] [.slice none 0 0] _ (heap_alloc_new V _) rfl (Nat.le_refl _) (by show (1 : Nat) ≤ maxLen; decide) ⟨Ak.Lies.nil _ _, trivial⟩
theorem Nw.lit2 (V : World) (a : ByteArray) : Tk.Lies ((V.alloc (.cells #[.string a, .string ⟨#[49]⟩] 44)).alloc (.cells #[.int .i64 1, .string a, .string ⟨#[]⟩, .slice (some ⟨V.heap.size, 0, none⟩) 1 1, .bool false] 34)) (fun k => V.heap.size ≤ k) [⟨1, a, Ts.e, [(a, ⟨#[49]⟩)], false⟩] (.slice (some ⟨V.heap.size + 1, 0, none⟩) 1 1) := by
  have h1 : Ak.Lies (V.alloc (.cells #[.string a, .string ⟨#[49]⟩] 44)) (fun k => V.heap.size ≤ k ∧ k < V.heap.size + 1) [(a, ⟨#[49]⟩)] (.slice (some ⟨V.heap.size, 0, none⟩) 1 1) := Ak.Lies.lit [(a, ⟨#[49]⟩)] _ (heap_alloc_new V _) rfl ⟨Nat.le_refl _, Nat.lt_succ_self _⟩ (by show (1 : Nat) ≤ maxLen; decide)
  have hs : (V.alloc (.cells #[.string a, .string ⟨#[49]⟩] 44)).heap.size = V.heap.size + 1 := by simp
  have h2 := heap_alloc_new (V.alloc (.cells #[.string a, .string ⟨#[49]⟩] 44)) (.cells #[.int .i64 1, .string a, .string ⟨#[]⟩, .slice (some ⟨V.heap.size, 0, none⟩) 1 1, .bool false] 34)
  rw [hs] at h2
  exact Tk.Lies.lit [⟨1, a, Ts.e, [(a, ⟨#[49]⟩)], false⟩] [.slice (some ⟨V.heap.size, 0, none⟩) 1 1] _ h2 rfl (Nat.le_succ _) (by show (1 : Nat) ≤ maxLen; decide) ⟨h1.on fun k hk => ⟨hk.1, Below.heap_alloc _ _ _ (by rw [hs]; exact hk.2)⟩, trivial⟩
set_option maxRecDepth 100000 in
set_option maxHeartbeats 8000000 in
theorem Law.tokenNames (n : Int) (b : Bool) (m : Int) (w : World) (hm : w.cell? ⟨0, 0, none⟩ = some (.int .i64 m)) (_hn : -9223372036854775808 ≤ n ∧ n ≤ 9223372036854775807) :
    Calls Tryd.prog 6 #[.int .i64 n, .bool b] w fun e w' => e = .returned (.bool true) ∧ Below w.heap.size w w' := by
  obtain ⟨k, hk, hk64⟩ := Nw.many n
  have haw := Aw.awake m w hm
  have HM := Lib.hid hm
  clear hm
  go_enter Tryd.func6, Tryd.ntmps6
  go_wp2_with (go_at_call 7; refine haw.mono ?_; rintro e w1 ⟨rfl, q1⟩; clear haw; have HB1 := Lib.hid q1; clear q1)
  go_loopw [6, 7] (fun x i wr => ∃ (j : Nat) (X : ByteArray), j ≤ k + 1 ∧ i = .int .i64 (j : Int) ∧ x = .string X ∧ X.size = j ∧ Hid (X = ⟨(Nw.name j).toArray⟩) ∧ Hid (Below w.heap.size w wr)) (fun _ i _ => k + 1 - (intOf i).toNat)
  case atStart => exact ⟨0, ⟨#[]⟩, Nat.zero_le _, rfl, rfl, rfl, rfl, HB1.out⟩
  case round =>
    clear HB1
    obtain ⟨j, X, hj, rfl, rfl, zX, HX, HB2⟩ := hrel
    by_cases hlt : j < k + 1
    · have d1 : decide ((j : Int) < 1 + (k : Int)) = true := decide_eq_true (by omega)
      have hc : IntKind.u8.wrap (65 + (j : Int) % 26) = ((Nw.c j).toNat : Int) := by
        rw [Nw.cN]
        unfold IntKind.wrap
        simp [IntKind.bits, IntKind.signed]
        omega
      have HN : Hid (X ++ ⟨#[Nw.c j]⟩ = ⟨(Nw.name (j + 1)).toArray⟩) := by unfold Hid; rw [HX.out, Nw.name_snoc]; exact Nw.snocB _ _
      have zN : (X ++ (⟨#[Nw.c j]⟩ : ByteArray)).size = j + 1 := by rw [ByteArray.size_append, zX]; rfl
      generalize Nw.c j = c at *
      have hv := Tp.conv1 wr c
      go_wp2
      go_roundw
      case rel => exact ⟨j + 1, X ++ ⟨#[c]⟩, by omega, by go_num, rfl, zN, HN, HB2.out.alloc HB2.out.size _⟩
      case measure => simp [intOf]; omega
    · have hjk : j = k + 1 := by omega
      have d1 : decide ((j : Int) < 1 + (k : Int)) = false := decide_eq_false (by omega)
      rw [hjk] at HX zX
      have HJ := Lib.hid hjk
      clear hjk
      go_wp2
      go_loopw [8, 9] (fun x i wr => ∃ (j : Nat) (Y : ByteArray), j ≤ k + 1 ∧ j ≤ 32 ∧ i = .int .i64 (j : Int) ∧ x = .string Y ∧ Y.size = j ∧ Hid (Y = ⟨(Nw.cut j).toArray⟩) ∧ Hid (Below w.heap.size w wr)) (fun _ i _ => k + 1 - (intOf i).toNat)
      case atStart => exact ⟨0, ⟨#[]⟩, Nat.zero_le _, Nat.zero_le _, rfl, rfl, rfl, rfl, HB2.out⟩
      case round =>
        clear HB2 HJ hlt hj d1
        obtain ⟨i, Y, hi, hi32, rfl, rfl, zY, HY, HB3⟩ := hrel
        by_cases hlt : i < k + 1
        · have d1 : decide ((i : Int) < (X.size : Int)) = true := decide_eq_true (by omega)
          by_cases h32 : i < 32
          · have d2 : decide ((i : Int) < 32) = true := decide_eq_true (by omega)
            have hi' : i < X.size := by omega
            have hx : X[i] = Nw.c i := by
              have e : X[i] = X.data.toList[i]'(by rw [Wk.len_data]; omega) := rfl
              have e2 : X.data.toList = Nw.name (k + 1) := by rw [HX.out]
              rw [e]
              simp only [e2, Nw.name, List.getElem_map, List.getElem_range]
            have hl : IntKind.u8.wrap ((X[i].toNat : Int) + 32) = ((Nw.lo i).toNat : Int) := by
              rw [hx, Nw.cN, Nw.loN]
              unfold IntKind.wrap
              simp [IntKind.bits, IntKind.signed]
              omega
            have HN : Hid (Y ++ ⟨#[Nw.lo i]⟩ = ⟨(Nw.cut (i + 1)).toArray⟩) := by unfold Hid; rw [HY.out, Nw.cut_snoc]; exact Nw.snocB _ _
            have zN : (Y ++ (⟨#[Nw.lo i]⟩ : ByteArray)).size = i + 1 := by rw [ByteArray.size_append, zY]; rfl
            clear hx
            generalize Nw.lo i = c at *
            have hv := Tp.conv1 wr c
            go_wp2
            go_roundw
            case rel => exact ⟨i + 1, Y ++ ⟨#[c]⟩, by omega, by omega, by go_num, rfl, zN, HN, HB3.out.alloc HB3.out.size _⟩
            case measure => simp [intOf]; omega
          · have d2 : decide ((i : Int) < 32) = false := decide_eq_false (by omega)
            have HY2 : Hid (Y = ⟨(Nw.cut (min (k + 1) 32)).toArray⟩) := by unfold Hid; rw [HY.out]; congr; omega
            clear HY
            obtain ⟨hTe, hTt⟩ := Nw.page k X Y HX.out HY2.out
            cases b with
            | true =>
              obtain ⟨V1, V2, e1, e2, z1, z2, hTok⟩ := hTe
              have hT := fun V hb => Tk.short V2 m V (by omega) (Tp.keep hb HM.out : World.cell? V _ = _)
              rw [hTok] at hT
              clear hTok hTt HM HX HY2
              go_wp2_with (first | (go_at_call 9; refine (hT _ HB3.out).mono ?_; rintro e w2 ⟨v2, rfl, hl2, hb2⟩; have HL2 := Lib.hid hl2; have HB2 := Lib.hid (HB3.out.trans (hb2.mono HB3.out.size)); clear hT hl2 hb2) | (go_at_call 10; refine (Aw.num _ _).mono ?_; rintro e w' ⟨rfl, hw⟩; have hw := hw.symm; subst hw) | (go_at_call 11; refine (Sa.tokens _ _ _ (fun _ => True) _ _ (HL2.out.on fun k hk => ⟨trivial, Below.heap_alloc _ _ _ hk.2⟩) (Nw.lit1 w2 _)).mono ?_; rintro e w3 ⟨rfl, n3, hw3⟩; have HC3 : Hid (Below w2.heap.size w2 w3) := Lib.hid (by rw [hw3]; exact Sa.drews ((Below.refl _ _).alloc (Nat.le_refl _) _) n3); clear hw3 HL2))
              go_ret
              exact ⟨rfl, HB2.out.trans (HC3.out.mono HB2.out.size)⟩
            | false =>
              obtain ⟨V1, V2, V3, V4, e1, e2, e3, e4, z1, z2, z3, z4, hTok⟩ := hTt
              have hT := fun V hb => Tk.short V4 m V (by omega) (Tp.keep hb HM.out : World.cell? V _ = _)
              rw [hTok] at hT
              clear hTok hTe HM HX HY2
              go_wp2_with (first | (go_at_call 9; refine (hT _ HB3.out).mono ?_; rintro e w2 ⟨v2, rfl, hl2, hb2⟩; have HL2 := Lib.hid hl2; have HB2 := Lib.hid (HB3.out.trans (hb2.mono HB3.out.size)); clear hT hl2 hb2) | (go_at_call 10; refine (Aw.num _ _).mono ?_; rintro e w' ⟨rfl, hw⟩; have hw := hw.symm; subst hw) | (go_at_call 11; refine (Sa.tokens _ _ _ (fun _ => True) _ _ (HL2.out.on fun k hk => ⟨trivial, (Below.heap_alloc _ _ _ (by simp; omega)).trans (Below.heap_alloc _ _ _ hk.2)⟩) (Nw.lit2 w2 _)).mono ?_; rintro e w3 ⟨rfl, n3, hw3⟩; have HC3 : Hid (Below w2.heap.size w2 w3) := Lib.hid (by rw [hw3]; exact Sa.drews (((Below.refl _ _).alloc (Nat.le_refl _) _).alloc (by simp) _) n3); clear hw3 HL2))
              go_ret
              exact ⟨rfl, HB2.out.trans (HC3.out.mono HB2.out.size)⟩
        · have d1 : decide ((i : Int) < (X.size : Int)) = false := decide_eq_false (by omega)
          have HY2 : Hid (Y = ⟨(Nw.cut (min (k + 1) 32)).toArray⟩) := by unfold Hid; rw [HY.out]; congr; omega
          clear HY
          obtain ⟨hTe, hTt⟩ := Nw.page k X Y HX.out HY2.out
          cases b with
          | true =>
            obtain ⟨V1, V2, e1, e2, z1, z2, hTok⟩ := hTe
            have hT := fun V hb => Tk.short V2 m V (by omega) (Tp.keep hb HM.out : World.cell? V _ = _)
            rw [hTok] at hT
            clear hTok hTt HM HX HY2
            go_wp2_with (first | (go_at_call 9; refine (hT _ HB3.out).mono ?_; rintro e w2 ⟨v2, rfl, hl2, hb2⟩; have HL2 := Lib.hid hl2; have HB2 := Lib.hid (HB3.out.trans (hb2.mono HB3.out.size)); clear hT hl2 hb2) | (go_at_call 10; refine (Aw.num _ _).mono ?_; rintro e w' ⟨rfl, hw⟩; have hw := hw.symm; subst hw) | (go_at_call 11; refine (Sa.tokens _ _ _ (fun _ => True) _ _ (HL2.out.on fun k hk => ⟨trivial, Below.heap_alloc _ _ _ hk.2⟩) (Nw.lit1 w2 _)).mono ?_; rintro e w3 ⟨rfl, n3, hw3⟩; have HC3 : Hid (Below w2.heap.size w2 w3) := Lib.hid (by rw [hw3]; exact Sa.drews ((Below.refl _ _).alloc (Nat.le_refl _) _) n3); clear hw3 HL2))
            go_ret
            exact ⟨rfl, HB2.out.trans (HC3.out.mono HB2.out.size)⟩
          | false =>
            obtain ⟨V1, V2, V3, V4, e1, e2, e3, e4, z1, z2, z3, z4, hTok⟩ := hTt
            have hT := fun V hb => Tk.short V4 m V (by omega) (Tp.keep hb HM.out : World.cell? V _ = _)
            rw [hTok] at hT
            clear hTok hTe HM HX HY2
            go_wp2_with (first | (go_at_call 9; refine (hT _ HB3.out).mono ?_; rintro e w2 ⟨v2, rfl, hl2, hb2⟩; have HL2 := Lib.hid hl2; have HB2 := Lib.hid (HB3.out.trans (hb2.mono HB3.out.size)); clear hT hl2 hb2) | (go_at_call 10; refine (Aw.num _ _).mono ?_; rintro e w' ⟨rfl, hw⟩; have hw := hw.symm; subst hw) | (go_at_call 11; refine (Sa.tokens _ _ _ (fun _ => True) _ _ (HL2.out.on fun k hk => ⟨trivial, (Below.heap_alloc _ _ _ (by simp; omega)).trans (Below.heap_alloc _ _ _ hk.2)⟩) (Nw.lit2 w2 _)).mono ?_; rintro e w3 ⟨rfl, n3, hw3⟩; have HC3 : Hid (Below w2.heap.size w2 w3) := Lib.hid (by rw [hw3]; exact Sa.drews (((Below.refl _ _).alloc (Nat.le_refl _) _).alloc (by simp) _) n3); clear hw3 HL2))
            go_ret
            exact ⟨rfl, HB2.out.trans (HC3.out.mono HB2.out.size)⟩
end Go.Proofs.YtjbkgokiikbaeabDoor

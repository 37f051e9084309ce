/-
  THE WALKS of lex's readText and readAction.
-/
import Derived.Test.YtfcmcmokmhklhaaDoorLScan
import Derived.Test.YtfcmcmokmhklhaaDoorLTell
import Derived.Deep.Cut
namespace Go.Proofs.YtfcmcmokmhklhaaDoor
open Go.RowKit
theorem Sq.M.then {w w' : World} {g : Nat} (h : Sq.M w g) (hb : Below g w w') (hg : 0 < g) : Sq.M w' g := by
  obtain ⟨h1, m, hm⟩ := h
  exact ⟨h1, m, (World.cell?_of_block (a := ⟨0, 0, none⟩) (hb.block _ hg)).trans hm⟩
theorem Sq.M.lt {w : World} {g : Nat} (h : Sq.M w g) : 0 < g := by have := h.1; omega
/-- a text, trimmed or not -/
def Lq.base (t : Bool) (l : List UInt8) : List UInt8 := if t = true then Lx.left l else l
def Lq.cut (m : Bool) (l : List UInt8) : List UInt8 := if m = true then Lx.right l else l
theorem Lq.one0 (k : Nat) : Lx.one [] k = [] := rfl
theorem Lq.one1 {T : List UInt8} (h : ¬ T = []) (k : Nat) : Lx.one T k = [⟨false, T, k⟩] := by unfold Lx.one; rw [if_neg h]
structure Sq.At2 (w w' : World) (g : Nat) (s : ByteArray) (i : Nat) (v : Value) (o : Int) (t : Bool) (ps : List Pc) : Prop where
  at' : Sq.At w' g s i v o t
  row : Sq.Row w' g v ps
  low : Below g w w'
theorem Sq.At2.keep {w w1 w2 : World} {g : Nat} {s : ByteArray} {i j : Nat} {v : Value} {o o' : Int} {t t' : Bool} {ps : List Pc} (h : Sq.At2 w w1 g s i v o t ps) (ha : Sq.At w2 g s j v o' t') (hk : Sq.Kept w1 w2 g) : Sq.At2 w w2 g s j v o' t' ps :=
  ⟨ha, h.row.on hk, h.low.trans (hk.below (Nat.le_of_lt (Bs.Box.lt h.at')))⟩
theorem Sq.At2.then {w w1 w2 : World} {g : Nat} {s : ByteArray} {i : Nat} {v : Value} {o : Int} {t : Bool} {ps : List Pc} (h : Sq.At2 w w1 g s i v o t ps) (hb : Below w1.heap.size w1 w2) : Sq.At2 w w2 g s i v o t ps :=
  h.keep (h.at'.then hb) (Sq.Kept.of g hb)
set_option maxRecDepth 100000 in
set_option maxHeartbeats 4000000 in
theorem Sq.readText (ps : List Pc) (g : Nat) (s : ByteArray) (p : Nat) (v : Value) (o : Int) (t : Bool) (w : World) (h : Sq.At w g s p v o t) (hr : Sq.Row w g v ps) (hM : Sq.M w g) (hp : p ≤ s.size) (hs : s.size ≤ 65536) (hn : ps.length ≤ 65536) (I : Nat) (m : Bool) (T : List UInt8) (hI : Lx.text p (s.data.toList.drop p) = I) (hm : Lx.mark s.data.toList (I + 2) = m) (hT : Lq.cut m (Lq.base t ((s.data.toList.drop p).take (I - p))) = T) :
    Calls Tryd.prog 17 #[.pointer (some ⟨g, 0, none⟩)] w fun e w' => ∃ v', e = .returned (.bool (decide (I < s.size))) ∧ Sq.At2 w w' g s (if I < s.size then (if m = true then I + 4 else I + 2) else I) v' (I : Int) t (ps ++ Lx.one T p) := by
  obtain ⟨B, hB⟩ : ∃ B, decide (I < s.size) = B := ⟨_, rfl⟩
  obtain ⟨q, hq⟩ : ∃ q, (if I < s.size then (if m = true then I + 4 else I + 2) else I) = q := ⟨_, rfl⟩
  obtain ⟨ps2, hps⟩ : ∃ ps2, ps ++ Lx.one T p = ps2 := ⟨_, rfl⟩
  rw [hB, hq, hps]
  have HB := Lib.hid hB
  have HQ := Lib.hid hq
  have HPS := Lib.hid hps
  clear hB hq hps
  have hIp := Lx.text_ge (s.data.toList.drop p) p
  rw [List.length_drop, Wk.len_data, hI] at hIp
  have hI2 : I ≤ s.size := by omega
  have u1 := Sq.upTo ⟨#[123, 123]⟩ I g s p v o t w h hM hIp.1 hI2 hs (by rw [← hI]; exact Ll.cut_text _ _)
  have hU : (s.extract p I).data.toList = (s.data.toList.drop p).take (I - p) := Lib.extract_data s p I
  have hUz : (s.extract p I).size ≤ 65536 := by rw [← Wk.len_data, hU, List.length_take, List.length_drop, Wk.len_data]; omega
  rw [← hU] at hT
  have op : ∀ (hl : I < s.size), Lx.two s.data.toList I 123 123 = true := fun hl => Lx.text_open hI (by rw [Wk.len_data]; exact hp) (by rw [Wk.len_data]; exact hl)
  generalize s.extract p I = U at *
  have c1 := h.c1
  have HA := Lib.hid (show Sq.At2 w w g s p v o t ps from ⟨h, hr, Below.refl _ _⟩)
  have HM := Lib.hid hM
  have HT := Lib.hid hT
  have HP := Lib.hid op
  clear hU hI hM hr h hT op
  go_enter Tryd.func17, Tryd.ntmps17
  go_upto_if 18 with (go_at_call 28; refine u1.mono ?_; rintro e w1 ⟨rfl, a1, b1⟩; have H1 := Lib.hid (HA.out.keep a1 b1); clear a1 b1 u1; have c4 := H1.out.at'.c4)
  go_cut [4] from 15 (fun u wx => ∃ U2 : ByteArray, u = .string U2 ∧ U2.size ≤ 65536 ∧ Hid (U2.data.toList = Lq.base t U.data.toList) ∧ Hid (Sq.At2 w wx g s I v o t ps))
  case first =>
    clear HT HP
    cases t with
    | false =>
      go_wp2_with fail
      go_meet
      exact ⟨U, rfl, hUz, rfl, H1⟩
    | true =>
      have k1 := fun u => Sh.strings_TrimLeft U ⟨#[9, 10, 32]⟩ u (by decide) (Go.Proofs.ascii_of_all (by decide))
      rw [show Lib.trimLeftS U.data.toList (⟨#[9, 10, 32]⟩ : ByteArray).data.toList = Lx.left U.data.toList from Ll.left _] at k1
      have hl := Lx.left_len U.data.toList
      rw [Wk.len_data] at hl
      go_wp2_with (go_at_call 29; refine (k1 _).mono ?_; rintro e w2 ⟨rfl, b2⟩; have H2 := Lib.hid (H1.out.then b2); clear b2)
      go_meet
      exact ⟨⟨(Lx.left U.data.toList).toArray⟩, rfl, by rw [← Wk.len_data]; show (Lx.left U.data.toList).toArray.toList.length ≤ _; rw [List.toList_toArray]; omega, rfl, H2⟩
  case rest =>
    clear H1 c4 c1
    obtain ⟨U2, rfl, hU2, HU2, H1⟩ := hcut
    have hT2 := HT.out
    rw [← HU2.out] at hT2
    have c1 := H1.out.at'.c1
    have c3 := H1.out.at'.c3
    have f := H1.out.at'.fz
    have hgw : g < wc.heap.size := Bs.Box.lt H1.out.at'
    have H2 : Hid (Sq.At2 w (wc.setCell ⟨g, 3, none⟩ (.int .i64 (I : Int))) g s I v (I : Int) t ps) := H1.out.keep (H1.out.at'.set3 _) ((Sq.Kept.refl _ _).set _ _)
    clear HT HU2 H1
    by_cases hl : I < s.size
    · have s1 := fun u q => Sq.skip2T 123 123 g s I v (I : Int) t u q hI2 hs (HP.out hl)
      have hl2 := Lx.two_lt (HP.out hl)
      rw [Wk.len_data] at hl2
      have m1 := fun u q => Sq.trimMark g s (I + 2) v (I : Int) t u q hl2 hs
      rw [hm] at m1
      have hB := HB.out
      rw [decide_eq_true hl] at hB
      subst hB
      have hq := HQ.out
      rw [if_pos hl] at hq
      clear HB HQ
      cases m with
      | true =>
        rw [if_pos rfl] at hq
        subst hq
        have hT3 : Lx.right U2.data.toList = T := hT2
        have k2 := fun u => Sh.strings_TrimRight U2 ⟨#[9, 10, 32]⟩ u (by omega) (by decide) (Go.Proofs.ascii_of_all (by decide))
        rw [show Lib.trimRightS U2.data.toList (⟨#[9, 10, 32]⟩ : ByteArray).data.toList = Lx.right U2.data.toList from Ll.right _, hT3] at k2
        have hz3 : T.length ≤ 65536 := by rw [← hT3]; have := Lx.right_len U2.data.toList; rw [Wk.len_data] at this; omega
        clear hT2 hT3 HP hl hm
        by_cases hT0 : T = []
        · subst hT0
          have n0 : (⟨([] : List UInt8).toArray⟩ : ByteArray).toList = [] := by rw [ByteArray.toList_eq]
          have n1 : (⟨([] : List UInt8).toArray⟩ : ByteArray).toList.isEmpty = true := by rw [n0]; rfl
          have n2 : ((⟨([] : List UInt8).toArray⟩ : ByteArray).toList != []) = false := by rw [n0]; rfl
          have n3 : ((⟨([] : List UInt8).toArray⟩ : ByteArray).toList == []) = true := by rw [n0]; rfl
          have hps := HPS.out
          rw [Lq.one0, List.append_nil] at hps
          subst hps
          generalize (⟨([] : List UInt8).toArray⟩ : ByteArray) = E at *
          go_wp2_with (first | (go_at_call 30; refine (s1 _ H2.out.at').mono ?_; rintro e w3 ⟨rfl, a3, b3⟩; have H3 := Lib.hid (H2.out.keep a3 b3); clear a3 b3 s1 H2) | (go_at_call 31; refine (m1 _ H3.out.at').mono ?_; rintro e w4 ⟨rfl, a4, b4⟩; have H4 := Lib.hid (H3.out.keep a4 b4); clear a4 b4 m1 H3) | (go_at_call 32; refine (k2 _).mono ?_; rintro e w5 ⟨rfl, b5⟩; have H5 := Lib.hid (H4.out.then b5); clear b5 k2 H4))
          go_ret
          exact ⟨v, rfl, H5.out⟩
        · have n0 : ¬ (⟨T.toArray⟩ : ByteArray).toList = [] := by rw [ByteArray.toList_eq]; exact hT0
          have n1 : (⟨T.toArray⟩ : ByteArray).toList.isEmpty = false := List.isEmpty_eq_false_iff.2 n0
          have n2 : ((⟨T.toArray⟩ : ByteArray).toList != []) = true := by simpa using n0
          have n3 : ((⟨T.toArray⟩ : ByteArray).toList == []) = false := by simpa using n0
          have tl := fun (i' : Nat) u q r => Sq.tell false ⟨T.toArray⟩ p ps g s i' v (I : Int) t u q r hn (by rw [← Wk.len_data]; exact hz3)
          rw [show (⟨T.toArray⟩ : ByteArray).data.toList = T from rfl] at tl
          have hps := HPS.out
          rw [Lq.one1 hT0] at hps
          subst hps
          clear HPS
          generalize (⟨T.toArray⟩ : ByteArray) = E at *
          go_wp2_with (first | (go_at_call 30; refine (s1 _ H2.out.at').mono ?_; rintro e w3 ⟨rfl, a3, b3⟩; have H3 := Lib.hid (H2.out.keep a3 b3); clear a3 b3 s1 H2) | (go_at_call 31; refine (m1 _ H3.out.at').mono ?_; rintro e w4 ⟨rfl, a4, b4⟩; have H4 := Lib.hid (H3.out.keep a4 b4); clear a4 b4 m1 H3) | (go_at_call 32; refine (k2 _).mono ?_; rintro e w5 ⟨rfl, b5⟩; have H5 := Lib.hid (H4.out.then b5); clear b5 k2 H4) | (go_at_call 33; refine (tl _ _ H5.out.at' H5.out.row).mono ?_; rintro e w6 ⟨v6, rfl, a6, r6, b6⟩; have H6 := Lib.hid (show Sq.At2 w w6 g s _ v6 (I : Int) t (ps ++ [⟨false, T, p⟩]) from ⟨a6, r6, H5.out.low.trans b6⟩); clear a6 r6 b6))
          go_ret
          exact ⟨v6, rfl, H6.out⟩
      | false =>
        rw [if_neg (by decide)] at hq
        subst hq
        have hT3 : U2.data.toList = T := hT2
        have hz3 : T.length ≤ 65536 := by rw [← hT3, Wk.len_data]; exact hU2
        have hU3 : U2 = ⟨T.toArray⟩ := WideShapes.bytes_inj (by rw [hT3])
        subst hU3
        clear hT2 hT3 HP hl hm
        by_cases hT0 : T = []
        · subst hT0
          have n0 : (⟨([] : List UInt8).toArray⟩ : ByteArray).toList = [] := by rw [ByteArray.toList_eq]
          have n1 : (⟨([] : List UInt8).toArray⟩ : ByteArray).toList.isEmpty = true := by rw [n0]; rfl
          have n2 : ((⟨([] : List UInt8).toArray⟩ : ByteArray).toList != []) = false := by rw [n0]; rfl
          have n3 : ((⟨([] : List UInt8).toArray⟩ : ByteArray).toList == []) = true := by rw [n0]; rfl
          have hps := HPS.out
          rw [Lq.one0, List.append_nil] at hps
          subst hps
          generalize (⟨([] : List UInt8).toArray⟩ : ByteArray) = E at *
          go_wp2_with (first | (go_at_call 30; refine (s1 _ H2.out.at').mono ?_; rintro e w3 ⟨rfl, a3, b3⟩; have H3 := Lib.hid (H2.out.keep a3 b3); clear a3 b3 s1 H2) | (go_at_call 31; refine (m1 _ H3.out.at').mono ?_; rintro e w4 ⟨rfl, a4, b4⟩; have H4 := Lib.hid (H3.out.keep a4 b4); clear a4 b4 m1 H3))
          go_ret
          exact ⟨v, rfl, H4.out⟩
        · have n0 : ¬ (⟨T.toArray⟩ : ByteArray).toList = [] := by rw [ByteArray.toList_eq]; exact hT0
          have n1 : (⟨T.toArray⟩ : ByteArray).toList.isEmpty = false := List.isEmpty_eq_false_iff.2 n0
          have n2 : ((⟨T.toArray⟩ : ByteArray).toList != []) = true := by simpa using n0
          have n3 : ((⟨T.toArray⟩ : ByteArray).toList == []) = false := by simpa using n0
          have tl := fun (i' : Nat) u q r => Sq.tell false ⟨T.toArray⟩ p ps g s i' v (I : Int) t u q r hn (by rw [← Wk.len_data]; exact hz3)
          rw [show (⟨T.toArray⟩ : ByteArray).data.toList = T from rfl] at tl
          have hps := HPS.out
          rw [Lq.one1 hT0] at hps
          subst hps
          clear HPS
          generalize (⟨T.toArray⟩ : ByteArray) = E at *
          go_wp2_with (first | (go_at_call 30; refine (s1 _ H2.out.at').mono ?_; rintro e w3 ⟨rfl, a3, b3⟩; have H3 := Lib.hid (H2.out.keep a3 b3); clear a3 b3 s1 H2) | (go_at_call 31; refine (m1 _ H3.out.at').mono ?_; rintro e w4 ⟨rfl, a4, b4⟩; have H4 := Lib.hid (H3.out.keep a4 b4); clear a4 b4 m1 H3) | (go_at_call 33; refine (tl _ _ H4.out.at' H4.out.row).mono ?_; rintro e w6 ⟨v6, rfl, a6, r6, b6⟩; have H6 := Lib.hid (show Sq.At2 w w6 g s _ v6 (I : Int) t (ps ++ [⟨false, T, p⟩]) from ⟨a6, r6, H4.out.low.trans b6⟩); clear a6 r6 b6))
          go_ret
          exact ⟨v6, rfl, H6.out⟩
    · have hI3 : I = s.size := by omega
      have s1 := fun u q => Sq.skip2F 123 123 g s I v (I : Int) t u q hI2 hs (Lx.two_false (by omega) _ _)
      have hm2 : m = false := by rw [← hm, Lx.mark_eq, dif_neg (by omega)]
      subst hm2
      have hB := HB.out
      rw [decide_eq_false hl] at hB
      subst hB
      have hq := HQ.out
      rw [if_neg hl] at hq
      subst hq
      clear HB HQ
      have hT3 : U2.data.toList = T := hT2
      have hz3 : T.length ≤ 65536 := by rw [← hT3, Wk.len_data]; exact hU2
      have hU3 : U2 = ⟨T.toArray⟩ := WideShapes.bytes_inj (by rw [hT3])
      subst hU3
      clear hT2 hT3 HP hm hI3 hl
      by_cases hT0 : T = []
      · subst hT0
        have n0 : (⟨([] : List UInt8).toArray⟩ : ByteArray).toList = [] := by rw [ByteArray.toList_eq]
        have n1 : (⟨([] : List UInt8).toArray⟩ : ByteArray).toList.isEmpty = true := by rw [n0]; rfl
        have n2 : ((⟨([] : List UInt8).toArray⟩ : ByteArray).toList != []) = false := by rw [n0]; rfl
        have n3 : ((⟨([] : List UInt8).toArray⟩ : ByteArray).toList == []) = true := by rw [n0]; rfl
        have hps := HPS.out
        rw [Lq.one0, List.append_nil] at hps
        subst hps
        generalize (⟨([] : List UInt8).toArray⟩ : ByteArray) = E at *
        go_wp2_with (first | (go_at_call 30; refine (s1 _ H2.out.at').mono ?_; rintro e w3 ⟨rfl, a3, b3⟩; have H3 := Lib.hid (H2.out.keep a3 b3); clear a3 b3 s1 H2))
        go_ret
        exact ⟨v, rfl, H3.out⟩
      · have n0 : ¬ (⟨T.toArray⟩ : ByteArray).toList = [] := by rw [ByteArray.toList_eq]; exact hT0
        have n1 : (⟨T.toArray⟩ : ByteArray).toList.isEmpty = false := List.isEmpty_eq_false_iff.2 n0
        have n2 : ((⟨T.toArray⟩ : ByteArray).toList != []) = true := by simpa using n0
        have n3 : ((⟨T.toArray⟩ : ByteArray).toList == []) = false := by simpa using n0
        have tl := fun (i' : Nat) u q r => Sq.tell false ⟨T.toArray⟩ p ps g s i' v (I : Int) t u q r hn (by rw [← Wk.len_data]; exact hz3)
        rw [show (⟨T.toArray⟩ : ByteArray).data.toList = T from rfl] at tl
        have hps := HPS.out
        rw [Lq.one1 hT0] at hps
        subst hps
        clear HPS
        generalize (⟨T.toArray⟩ : ByteArray) = E at *
        go_wp2_with (first | (go_at_call 30; refine (s1 _ H2.out.at').mono ?_; rintro e w3 ⟨rfl, a3, b3⟩; have H3 := Lib.hid (H2.out.keep a3 b3); clear a3 b3 s1 H2) | (go_at_call 33; refine (tl _ _ H3.out.at' H3.out.row).mono ?_; rintro e w6 ⟨v6, rfl, a6, r6, b6⟩; have H6 := Lib.hid (show Sq.At2 w w6 g s _ v6 (I : Int) t (ps ++ [⟨false, T, p⟩]) from ⟨a6, r6, H3.out.low.trans b6⟩); clear a6 r6 b6))
        go_ret
        exact ⟨v6, rfl, H6.out⟩
end Go.Proofs.YtfcmcmokmhklhaaDoor

/-
  THE WALK of lex's readAction.
-/
import Derived.Test.YtfcmcmokmhklhaaDoorLRead
import Derived.Deep.RegionWith
namespace Go.Proofs.YtfcmcmokmhklhaaDoor
open Go.RowKit
/-- what readAction answers -/
def Sq.RAct (w w' : World) (g : Nat) (s : ByteArray) (o : Nat) (ps : List Pc) (e : Ending) : Option La → Prop
  | none => e = .returned (.bool false) ∧ Below g w w'
  | some a => ∃ v', e = .returned (.bool true) ∧ Sq.At2 w w' g s a.fin v' (o : Int) a.trims (ps ++ if a.com = true then [] else [⟨true, a.text, o⟩])
theorem Sq.RAct.com {w w' : World} {g : Nat} {s : ByteArray} {v : Value} {o : Nat} {ps : List Pc} {r : Option La} {tr en : Bool} {j : Nat} (h : Sq.At2 w w' g s j v (o : Int) tr ps) (h1 : r = none → en = false) (h2 : ∀ a, r = some a → en = true ∧ a = ⟨j, [], tr, true⟩) : Sq.RAct w w' g s o ps (.returned (.bool en)) r := by
  cases r with
  | none => exact ⟨by rw [h1 rfl], h.low⟩
  | some a =>
    obtain ⟨e1, e2⟩ := h2 a rfl
    subst e1 e2
    refine ⟨v, rfl, ?_⟩
    simp only [if_true, List.append_nil]
    exact h
set_option maxRecDepth 100000 in
set_option maxHeartbeats 4000000 in
theorem Sq.readAction (ps : List Pc) (g : Nat) (s : ByteArray) (i : Nat) (v : Value) (o : Nat) (t : Bool) (w : World) (h : Sq.At w g s i v (o : Int) t) (hr : Sq.Row w g v ps) (hM : Sq.M w g) (hi : i ≤ s.size) (hs : s.size ≤ 65536) (hn : ps.length ≤ 65536) (k : Nat) (hk : Lx.skip i (s.data.toList.drop i) = k) :
    Calls Tryd.prog 18 #[.pointer (some ⟨g, 0, none⟩)] w fun e w' => Sq.RAct w w' g s o ps e (Lx.act s.data.toList k) := by
  have hk2 := Lx.skip_ge (s.data.toList.drop i) i
  rw [List.length_drop, Wk.len_data, hk] at hk2
  have hk3 : k ≤ s.size := by omega
  have b0 := fun u q => Sq.skipBlanks g s i v (o : Int) t u q hi hs
  rw [hk] at b0
  have HA := Lib.hid (show Sq.At2 w w g s i v (o : Int) t ps from ⟨h, hr, Below.refl _ _⟩)
  have hg0 := hM.lt
  have HM := fun (u : World) (hb : Below g w u) => hM.then hb hg0
  cases h2 : Lx.two s.data.toList k 47 42 with
  | true =>
    have s1 := fun u q => Sq.skip2T 47 42 g s k v (o : Int) t u q hk3 hs h2
    have hl2 := Lx.two_lt h2
    rw [Wk.len_data] at hl2
    have c0 := fun u q m => Sq.comment g s (k + 2) v (o : Int) t u q m hl2 hs
    have ha : Lx.act s.data.toList k = Lx.comment s.data.toList (k + 2) := by unfold Lx.act; rw [if_pos h2]
    rw [ha]
    generalize Lx.comment s.data.toList (k + 2) = r at *
    clear h hr hM hk h2 ha
    go_enter Tryd.func18, Tryd.ntmps18
    go_wp2_with (first | (go_at_call 34; refine (b0 _ HA.out.at').mono ?_; rintro e w1 ⟨rfl, a1, b1⟩; have H1 := Lib.hid (HA.out.keep a1 b1); clear a1 b1 b0 HA) | (go_at_call 30; refine (s1 _ H1.out.at').mono ?_; rintro e w2 ⟨rfl, a2, b2⟩; have H2 := Lib.hid (H1.out.keep a2 b2); clear a2 b2 s1 H1) | (go_at_call 35; refine (c0 _ H2.out.at' (HM _ H2.out.low)).mono ?_; rintro e w3 ⟨tr, en, j, rfl, a3⟩; have H3 := Lib.hid (H2.out.keep a3.at' a3.kept); have HC := Lib.hid a3; clear a3 c0 H2; have d4 := H3.out.at'.c4; have f4 := H3.out.at'.fz))
    go_ret
    exact Sq.RAct.com (H3.out.keep (H3.out.at'.set4 tr) ((Sq.Kept.refl _ _).set _ _)) HC.out.none HC.out.some
  | false =>
    have s1 := fun u q => Sq.skip2F 47 42 g s k v (o : Int) t u q hk3 hs h2
    have c0 := fun u q => Sq.action g s k v (o : Int) t u q hk3 hs
    have ha : Lx.act s.data.toList k = Lx.plain s.data.toList k := by unfold Lx.act; rw [if_neg (by rw [h2]; decide)]
    rw [ha]
    cases hf : Lx.find false false k (s.data.toList.drop k) with
    | none =>
      rw [Lx.plain_none hf]
      rw [hf] at c0
      clear h hr hM hk h2 ha hf
      go_enter Tryd.func18, Tryd.ntmps18
      go_wp2_with (first | (go_at_call 34; refine (b0 _ HA.out.at').mono ?_; rintro e w1 ⟨rfl, a1, b1⟩; have H1 := Lib.hid (HA.out.keep a1 b1); clear a1 b1 b0 HA) | (go_at_call 30; refine (s1 _ H1.out.at').mono ?_; rintro e w2 ⟨rfl, a2, b2⟩; have H2 := Lib.hid (H1.out.keep a2 b2); clear a2 b2 s1 H1) | (go_at_call 36; refine (c0 _ H2.out.at').mono ?_; rintro e w3 ⟨j, rfl, a3⟩; have H3 := Lib.hid (H2.out.keep a3.at' a3.kept); clear a3 c0 H2; unfold Sq.actV))
      go_ret
      exact ⟨rfl, H3.out.low⟩
    | some f =>
      have hf2 := Lx.find_ge _ _ _ _ _ hf
      rw [List.length_drop, Wk.len_data] at hf2
      have hT : (s.extract k f).data.toList = (s.data.toList.drop k).take (f - k) := Lib.extract_data s k f
      have hTz : (s.extract k f).size ≤ 65536 := by rw [← Wk.len_data, hT, List.length_take, List.length_drop, Wk.len_data]; omega
      have ct := fun u => Sq.cutTrim (s.extract k f) u hTz
      have HP := fun (U : ByteArray) (q : Lq.Cut (s.extract k f) U (Lx.trims (s.extract k f).data.toList)) => Lx.plain_some hf hT rfl q.symm
      rw [hf] at c0
      rw [show Sq.actV s k (some f) = .tuple #[.string (s.extract k f), .bool true] from rfl] at c0
      generalize hTT : s.extract k f = T at *
      obtain ⟨tr, htr⟩ : ∃ tr, Lx.trims T.data.toList = tr := ⟨_, rfl⟩
      rw [htr] at ct HP
      have HUz : ∀ U : ByteArray, Lq.Cut T U tr → U.size ≤ 65536 := fun U q => by
        unfold Lq.Cut at q
        rw [← Wk.len_data, q]
        split
        · rw [List.length_take, Wk.len_data]; omega
        · rw [Wk.len_data]; exact hTz
      obtain ⟨r, hr2⟩ : ∃ r, Lx.plain s.data.toList k = r := ⟨_, rfl⟩
      rw [hr2]
      rw [hr2] at HP
      have HP' := Lib.hid HP
      have HUz' := Lib.hid HUz
      clear h hr hM hk h2 ha hf hT hTT htr hr2 HP HUz HM
      go_enter Tryd.func18, Tryd.ntmps18
      go_upto_region 10 with (first | (go_at_call 34; refine (b0 _ HA.out.at').mono ?_; rintro e w1 ⟨rfl, a1, b1⟩; have H1 := Lib.hid (HA.out.keep a1 b1); clear a1 b1 b0 HA) | (go_at_call 30; refine (s1 _ H1.out.at').mono ?_; rintro e w2 ⟨rfl, a2, b2⟩; have H2 := Lib.hid (H1.out.keep a2 b2); clear a2 b2 s1 H1) | (go_at_call 36; refine (c0 _ H2.out.at').mono ?_; rintro e w3 ⟨j, rfl, a3⟩; have ej := a3.find f rfl; subst ej; have H3 := Lib.hid (H2.out.keep a3.at' a3.kept); clear a3 c0 H2) | (go_at_call 37; refine (ct _).mono ?_; rintro e w4 ⟨U, rfl, hU, b4⟩; have HU := Lib.hid hU; have H4 := Lib.hid (H3.out.then b4); clear hU b4 ct H3; have d4 := H4.out.at'.c4; have f4 := H4.out.at'.fz))
      have H5 : Hid (Sq.At2 w (w4.setCell ⟨g, 4, none⟩ (.bool tr)) g s (f + 2) v (o : Int) tr ps) := H4.out.keep (H4.out.at'.set4 tr) ((Sq.Kept.refl _ _).set _ _)
      generalize w4.setCell ⟨g, 4, none⟩ (.bool tr) = w5 at *
      have d3 := H5.out.at'.c3
      have hUz := HUz'.out U HU.out
      have hr3 := HP'.out U HU.out
      have HR3 := Lib.hid hr3
      clear hr3
      have hX : Lx.right (Lx.left U.data.toList) = (⟨(Lx.right (Lx.left U.data.toList)).toArray⟩ : ByteArray).data.toList := rfl
      have kt := fun u => Sh.strings_Trim U ⟨#[9, 10, 32]⟩ u (by omega) (by decide) (Go.Proofs.ascii_of_all (by decide))
      rw [show Lib.trimS U.data.toList (⟨#[9, 10, 32]⟩ : ByteArray).data.toList = Lx.right (Lx.left U.data.toList) from Ll.both _] at kt
      have hXz : (Lx.right (Lx.left U.data.toList)).length ≤ 65536 := by
        have := Lx.right_len (Lx.left U.data.toList)
        have := Lx.left_len U.data.toList
        rw [Wk.len_data] at this
        omega
      have tl := fun u q r => Sq.tell true ⟨(Lx.right (Lx.left U.data.toList)).toArray⟩ o ps g s (f + 2) v (o : Int) tr u q r hn (by rw [← Wk.len_data]; exact hXz)
      rw [← hX] at tl
      clear hX hXz d4 f4 H4 HU HP' HUz'
      generalize Lx.right (Lx.left U.data.toList) = X at *
      generalize (⟨X.toArray⟩ : ByteArray) = E at *
      go_region_with (first | (go_at_call 38; refine (kt _).mono ?_; rintro e w6 ⟨rfl, b6⟩; have H6 := Lib.hid (Sq.At2.then (w1 := _) (by exact (H5.out.then (Below.refl _ _).drew)) b6); clear b6 kt; have d3' := H6.out.at'.c3) | (go_at_call 33; refine (tl _ H6.out.at' H6.out.row).mono ?_; rintro e w7 ⟨v7, rfl, a7, r7, b7⟩; have H7 := Lib.hid (show Sq.At2 w w7 g s (f + 2) v7 (o : Int) tr (ps ++ [⟨true, X, o⟩]) from ⟨a7, r7, H6.out.low.trans b7⟩); clear a7 r7 b7 tl))
      all_goals go_wp2
      all_goals go_ret
      all_goals rw [HR3.out]
      all_goals exact ⟨v7, rfl, H7.out⟩
end Go.Proofs.YtfcmcmokmhklhaaDoor

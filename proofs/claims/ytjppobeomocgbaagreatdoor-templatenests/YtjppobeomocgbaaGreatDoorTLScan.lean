/-
  THE WALKS of lex's skipQuoted, action, skipComment.
-/
import Derived.Test.YtjppobeomocgbaaGreatDoorTLCur
import Derived.Test.YtjppobeomocgbaaGreatDoorTLRef3
namespace Go.Proofs.YtjppobeomocgbaaGreatDoor
open Go.RowKit
/-- where skipQuoted stands when it is done -/
structure Sq.QOut (w w' : World) (g : Nat) (s : ByteArray) (i : Nat) (p : Value) (o : Int) (t : Bool) (j : Nat) : Prop where
  ge : i ≤ j
  le : j ≤ s.size
  at' : Sq.At w' g s j p o t
  kept : Sq.Kept w w' g
  find : Lx.find true false i (s.data.toList.drop i) = Lx.find false false j (s.data.toList.drop j)
set_option maxRecDepth 100000 in
set_option maxHeartbeats 4000000 in
theorem Sq.quoted (g : Nat) (s : ByteArray) (i : Nat) (p : Value) (o : Int) (t : Bool) (w : World) (h : Sq.At w g s i p o t) (hi : i ≤ s.size) (hs : s.size ≤ 65536) :
    Calls Tryz.prog 77 #[.pointer (some ⟨g, 0, none⟩)] w fun e w' => ∃ j, e = .returned (.tuple #[]) ∧ Sq.QOut w w' g s i p o t j := by
  have H := Lib.hid h
  clear h
  go_enter Tryz.func77, Tryz.ntmps77
  go_wp2_with fail
  go_loopw [] (fun wr => ∃ j : Nat, i ≤ j ∧ j ≤ s.size ∧ Hid (Sq.At wr g s j p o t) ∧ Hid (Sq.Kept w wr g) ∧ Hid (Lx.find true false i (s.data.toList.drop i) = Lx.find true false j (s.data.toList.drop j))) (fun wr => s.size - (intOf ((wr.cell? ⟨g, 1, none⟩).getD undef)).toNat)
  case atStart => exact ⟨i, Nat.le_refl _, hi, H, Sq.Kept.refl _ _, rfl⟩
  case round =>
    clear H
    obtain ⟨j, hij, hj, HA, HK, HF⟩ := hrel
    have c0 := HA.out.c0
    have c1 := HA.out.c1
    have HM : Hid ((intOf ((wr.cell? ⟨g, 1, none⟩).getD undef)).toNat = j) := by unfold Hid; rw [c1]; rfl
    by_cases hlt : j < s.size
    · have d1 : decide ((j : Int) < (s.size : Int)) = true := decide_eq_true (by omega)
      go_wp2_with fail
      go_quiet (fail)
      have H1 := Lib.hid (HA.out.drewN nq)
      have K1 := Lib.hid (HK.out.drewN nq)
      generalize wr.drewN nq = w1 at *
      have t1 := fun u q => Sq.take g s j p o t u q hlt hs
      clear c0 c1 HA HK
      by_cases h34 : s[j] = 34
      · have e34 : ((s[j].toNat : Int) == 34) = true := Tp.eq_true (d := 34) h34
        have HF2 := Lib.hid (HF.out.trans (Lx.find_quote true hlt h34))
        clear HF h34
        go_wp2_with (go_at_call 76; refine (t1 _ H1.out).mono ?_; rintro e w2 ⟨rfl, a2, b2⟩; have H2 := Lib.hid a2; have K2 := Lib.hid (K1.out.trans b2); clear a2 b2 t1)
        refine bodyPost_ret (results_none rfl _ _ _) rfl ?_
        exact ⟨j + 1, rfl, by omega, by omega, H2.out, K2.out, HF2.out⟩
      · have e34 : ((s[j].toNat : Int) == 34) = false := Tp.eq_false (d := 34) h34
        by_cases h92 : s[j] = 92
        · have e92 : ((s[j].toNat : Int) == 92) = true := Tp.eq_true (d := 92) h92
          have HF2 := Lib.hid (HF.out.trans (Lx.find_esc hlt h92))
          clear HF h34 h92
          by_cases hl2 : j + 1 < s.size
          · have t2 := fun u q => Sq.take g s (j + 1) p o t u q hl2 hs
            go_wp2_with (go_at_call 76; first | (refine (t1 _ H1.out).mono ?_; rintro e w2 ⟨rfl, a2, b2⟩; have H2 := Lib.hid a2; have K2 := Lib.hid (K1.out.trans b2); clear a2 b2 t1 H1) | (refine (t2 _ H2.out).mono ?_; rintro e w3 ⟨rfl, a3, b3⟩; have H3 := Lib.hid a3; have K3 := Lib.hid (K2.out.trans b3); clear a3 b3 t2))
            go_roundw
            case rel => exact ⟨j + 1 + 1, by omega, by omega, H3, K3, HF2⟩
            case measure => rw [HM.out, H3.out.c1]; simp [intOf]; omega
          · have ej : j + 1 = s.size := by omega
            have t2 := fun u q => Sq.take0 g s p o t u q
            have HF3 : Hid (Lx.find true false i (s.data.toList.drop i) = Lx.find true false (j + 1) (s.data.toList.drop (j + 1))) := by
              unfold Hid
              rw [HF2.out, Lx.find_nil _ _ (by omega), Lx.find_nil _ _ (by omega)]
            rw [← ej] at t2
            clear HF2
            go_wp2_with (go_at_call 76; first | (refine (t1 _ H1.out).mono ?_; rintro e w2 ⟨rfl, a2, b2⟩; have H2 := Lib.hid a2; have K2 := Lib.hid (K1.out.trans b2); clear a2 b2 t1 H1) | (refine (t2 _ H2.out).mono ?_; rintro e w3 ⟨rfl, a3, b3⟩; have H3 := Lib.hid a3; have K3 := Lib.hid (K2.out.trans b3); clear a3 b3 t2))
            go_roundw
            case rel => exact ⟨j + 1, by omega, by omega, H3, K3, HF3⟩
            case measure => rw [HM.out, H3.out.c1]; simp [intOf]; omega
        · have e92 : ((s[j].toNat : Int) == 92) = false := Tp.eq_false (d := 92) h92
          have HF2 := Lib.hid (HF.out.trans (Lx.find_text hlt h92 h34))
          clear HF h34 h92
          go_wp2_with (go_at_call 76; refine (t1 _ H1.out).mono ?_; rintro e w2 ⟨rfl, a2, b2⟩; have H2 := Lib.hid a2; have K2 := Lib.hid (K1.out.trans b2); clear a2 b2 t1)
          go_roundw
          case rel => exact ⟨j + 1, by omega, by omega, H2, K2, HF2⟩
          case measure => rw [HM.out, H2.out.c1]; simp [intOf]; omega
    · have ej : j = s.size := by omega
      subst ej
      have d1 : decide ((s.size : Int) < (s.size : Int)) = false := decide_eq_false (by omega)
      have HF3 : Hid (Lx.find true false i (s.data.toList.drop i) = Lx.find false false s.size (s.data.toList.drop s.size)) := by
        unfold Hid
        rw [HF.out, Lx.find_nil _ _ (Nat.le_refl _), Lx.find_nil _ _ (Nat.le_refl _)]
      clear HF
      go_wp2_with fail
      go_quiet (fail)
      have H1 := Lib.hid (HA.out.drewN nq)
      have K1 := Lib.hid (HK.out.drewN nq)
      generalize wr.drewN nq = w1 at *
      clear c0 c1 HA HK
      go_wp2_with fail
      go_end0
      exact ⟨s.size, rfl, hij, Nat.le_refl _, H1.out, K1.out, HF3.out⟩
/-- what action answers -/
def Sq.actV (s : ByteArray) (k : Nat) : Option Nat → Value
  | none => .tuple #[.string ⟨#[]⟩, .bool false]
  | some f => .tuple #[.string (s.extract k f), .bool true]
/-- where action stands when it is done -/
structure Sq.AOut (w w' : World) (g : Nat) (s : ByteArray) (p : Value) (o : Int) (t : Bool) (r : Option Nat) (j : Nat) : Prop where
  le : j ≤ s.size
  at' : Sq.At w' g s j p o t
  kept : Sq.Kept w w' g
  find : ∀ f, r = some f → j = f + 2
set_option maxRecDepth 100000 in
set_option maxHeartbeats 4000000 in
theorem Sq.action (g : Nat) (s : ByteArray) (k : Nat) (p : Value) (o : Int) (t : Bool) (w : World) (h : Sq.At w g s k p o t) (hk : k ≤ s.size) (hs : s.size ≤ 65536) :
    Calls Tryz.prog 49 #[.pointer (some ⟨g, 0, none⟩)] w fun e w' => ∃ j, e = .returned (Sq.actV s k (Lx.find false false k (s.data.toList.drop k))) ∧ Sq.AOut w w' g s p o t (Lx.find false false k (s.data.toList.drop k)) j := by
  obtain ⟨r, hr⟩ : ∃ r, Lx.find false false k (s.data.toList.drop k) = r := ⟨_, rfl⟩
  rw [hr]
  have HR := Lib.hid hr
  have H := Lib.hid h
  have c1 := h.c1
  clear h hr
  go_enter Tryz.func49, Tryz.ntmps49
  go_wp2_with fail
  go_loopw [] (fun wr => ∃ j : Nat, k ≤ j ∧ j ≤ s.size ∧ Hid (Sq.At wr g s j p o t) ∧ Hid (Sq.Kept w wr g) ∧ Hid (Lx.find false false j (s.data.toList.drop j) = r)) (fun wr => s.size - (intOf ((wr.cell? ⟨g, 1, none⟩).getD undef)).toNat)
  case atStart => exact ⟨k, Nat.le_refl _, hk, H, Sq.Kept.refl _ _, HR⟩
  case round =>
    clear H c1 HR
    obtain ⟨j, hij, hj, HA, HK, HF⟩ := hrel
    have c0 := HA.out.c0
    have c1 := HA.out.c1
    have HM : Hid ((intOf ((wr.cell? ⟨g, 1, none⟩).getD undef)).toNat = j) := by unfold Hid; rw [c1]; rfl
    by_cases hlt : j < s.size
    · have d1 : decide ((j : Int) < (s.size : Int)) = true := decide_eq_true (by omega)
      go_wp2_with fail
      go_quiet (fail)
      have H1 := Lib.hid (HA.out.drewN nq)
      have K1 := Lib.hid (HK.out.drewN nq)
      generalize wr.drewN nq = w1 at *
      clear c0 c1 HA HK
      have c1 := H1.out.c1
      cases h2 : Lx.two s.data.toList j 125 125 with
      | true =>
        have s1 := fun u q => Sq.skip2T 125 125 g s j p o t u q hj hs h2
        have hl2 := Lx.two_lt h2
        rw [Wk.len_data] at hl2
        have hr : some j = r := (Lx.find_end h2).symm.trans HF.out
        have cu := fun u => Wk.run_cut u s (k : Int) (j : Int) (by omega) (by omega) (by omega)
        rw [Int.toNat_natCast, Int.toNat_natCast] at cu
        subst hr
        obtain ⟨U, hU⟩ : ∃ U, s.extract k j = U := ⟨_, rfl⟩
        have HU := Lib.hid hU
        rw [hU] at cu
        clear h2 HF hU
        go_wp2_with (go_at_call 43; refine (s1 _ H1.out).mono ?_; rintro e w2 ⟨rfl, a2, b2⟩; have H2 := Lib.hid a2; have K2 := Lib.hid (K1.out.trans b2); clear a2 b2 s1; have c0 := H2.out.c0)
        go_ret2
        exact ⟨j + 2, by rw [← HU.out]; rfl, by omega, H2.out, K2.out, fun f e => by injection e with e; omega⟩
      | false =>
        have s1 := fun u q => Sq.skip2F 125 125 g s j p o t u q hj hs h2
        have t1 := fun u q => Sq.take g s j p o t u q hlt hs
        by_cases h34 : s[j] = 34
        · have e34 : ((s[j].toNat : Int) == 34) = true := Tp.eq_true (d := 34) h34
          have HF2 := Lib.hid ((Lx.find_quote false hlt h34).symm.trans HF.out)
          have q1 := fun u q => Sq.quoted g s (j + 1) p o t u q (by omega) hs
          clear HF h34 h2
          go_wp2_with (first | (go_at_call 43; refine (s1 _ H1.out).mono ?_; rintro e w2 ⟨rfl, a2, b2⟩; have H2 := Lib.hid a2; have K2 := Lib.hid (K1.out.trans b2); clear a2 b2 s1 H1) | (go_at_call 76; refine (t1 _ H2.out).mono ?_; rintro e w3 ⟨rfl, a3, b3⟩; have H3 := Lib.hid a3; have K3 := Lib.hid (K2.out.trans b3); clear a3 b3 t1) | (go_at_call 77; refine (q1 _ H3.out).mono ?_; rintro e w4 ⟨j4, rfl, a4⟩; have H4 := Lib.hid a4; clear a4 q1))
          go_roundw
          case rel => exact ⟨j4, by have := H4.out.ge; omega, H4.out.le, H4.out.at', K3.out.trans H4.out.kept, H4.out.find.symm.trans HF2.out⟩
          case measure => rw [HM.out, H4.out.at'.c1]; have := H4.out.ge; simp [intOf]; omega
        · have e34 : ((s[j].toNat : Int) == 34) = false := Tp.eq_false (d := 34) h34
          have HF2 := Lib.hid ((Lx.find_out hlt h34 h2).symm.trans HF.out)
          clear HF h34 h2
          go_wp2_with (first | (go_at_call 43; refine (s1 _ H1.out).mono ?_; rintro e w2 ⟨rfl, a2, b2⟩; have H2 := Lib.hid a2; have K2 := Lib.hid (K1.out.trans b2); clear a2 b2 s1 H1) | (go_at_call 76; refine (t1 _ H2.out).mono ?_; rintro e w3 ⟨rfl, a3, b3⟩; have H3 := Lib.hid a3; have K3 := Lib.hid (K2.out.trans b3); clear a3 b3 t1))
          go_roundw
          case rel => exact ⟨j + 1, by omega, by omega, H3, K3, HF2⟩
          case measure => rw [HM.out, H3.out.c1]; simp [intOf]; omega
    · have ej : j = s.size := by omega
      subst ej
      have d1 : decide ((s.size : Int) < (s.size : Int)) = false := decide_eq_false (by omega)
      have hr : none = r := (Lx.find_nil _ _ (Nat.le_refl _)).symm.trans HF.out
      subst hr
      clear HF
      go_wp2_with fail
      go_quiet (fail)
      have H1 := Lib.hid (HA.out.drewN nq)
      have K1 := Lib.hid (HK.out.drewN nq)
      generalize wr.drewN nq = w1 at *
      clear c0 c1 HA HK
      go_wp2_with fail
      go_ret2
      exact ⟨s.size, rfl, Nat.le_refl _, H1.out, K1.out, fun f e => by cases e⟩
/-- what skipComment answers, and where it stands -/
structure Sq.COut (w w' : World) (g : Nat) (s : ByteArray) (p : Value) (o : Int) (t : Bool) (r : Option La) (tr en : Bool) (j : Nat) : Prop where
  le : j ≤ s.size
  at' : Sq.At w' g s j p o t
  kept : Sq.Kept w w' g
  none : r = none → en = false
  some : ∀ a, r = some a → en = true ∧ a = ⟨j, [], tr, true⟩
theorem Lq.starAt_none {s : ByteArray} {k : Nat} (h : Lx.star k (s.data.toList.drop k) = none) (hk : k ≤ s.size) : Lx.starAt k (s.data.toList.drop k) = s.size := by
  unfold Lx.starAt
  rw [h, Option.getD_none, List.length_drop, Wk.len_data]
  omega
theorem Lq.starAt_some {s : ByteArray} {k f : Nat} (h : Lx.star k (s.data.toList.drop k) = some f) : Lx.starAt k (s.data.toList.drop k) = f := by
  unfold Lx.starAt
  rw [h, Option.getD_some]
theorem Lq.star_two : ∀ (l : List UInt8) (i f : Nat), Lx.star i l = some f → Lx.two l (f - i) 42 47 = true := by
  intro l
  induction l with
  | nil => intro i f h; cases h
  | cons a l ih =>
    intro i f h
    have hg := Lx.star_ge (a :: l) i f h
    unfold Lx.star at h
    split at h
    · rename_i q
      injection h with h
      subst h
      rw [Nat.sub_self]
      unfold Lx.two
      rw [List.getElem?_cons_zero, Nat.zero_add, List.getElem?_cons_succ, ← List.head?_eq_getElem?, q.1, q.2]
      rfl
    · have h2 := Lx.star_ge l (i + 1) f h
      rw [show f - i = (f - (i + 1)) + 1 by omega, Lx.two_cons]
      exact ih (i + 1) f h
theorem Lq.star_at {s : ByteArray} {k f : Nat} (h : Lx.star k (s.data.toList.drop k) = some f) : Lx.two s.data.toList f 42 47 = true := by
  have h1 := Lq.star_two _ _ _ h
  have h2 := Lx.star_ge _ _ _ h
  rw [Lx.two_drop, show k + (f - k) = f by omega] at h1
  exact h1
theorem Sq.skip2 (a b : UInt8) (en : Bool) (g : Nat) (s : ByteArray) (i : Nat) (p : Value) (o : Int) (t : Bool) (w : World) (h : Sq.At w g s i p o t) (hi : i ≤ s.size) (hs : s.size ≤ 65536) (hb : Lx.two s.data.toList i a b = en) :
    Calls Tryz.prog 43 #[.pointer (some ⟨g, 0, none⟩), .string ⟨#[a, b]⟩] w fun e w' => ∃ j, e = .returned (.bool en) ∧ (j ≤ s.size ∧ (en = true → j = i + 2)) ∧ Sq.At w' g s j p o t ∧ Sq.Kept w w' g := by
  cases en with
  | true =>
    have := Lx.two_lt hb
    rw [Wk.len_data] at this
    exact (Sq.skip2T a b g s i p o t w h hi hs hb).mono fun _ _ h => ⟨i + 2, h.1, ⟨this, fun _ => rfl⟩, h.2⟩
  | false => exact (Sq.skip2F a b g s i p o t w h hi hs hb).mono fun _ _ h => ⟨i, h.1, ⟨hi, fun e => by cases e⟩, h.2⟩
set_option maxRecDepth 100000 in
set_option maxHeartbeats 4000000 in
theorem Sq.comment (g : Nat) (s : ByteArray) (k : Nat) (p : Value) (o : Int) (t : Bool) (w : World) (h : Sq.At w g s k p o t) (hM : Sq.M w g) (hk : k ≤ s.size) (hs : s.size ≤ 65536) :
    Calls Tryz.prog 48 #[.pointer (some ⟨g, 0, none⟩)] w fun e w' => ∃ tr en j, e = .returned (.tuple #[.bool tr, .bool en]) ∧ Sq.COut w w' g s p o t (Lx.comment s.data.toList k) tr en j := by
  obtain ⟨r, hr⟩ : ∃ r, Lx.comment s.data.toList k = r := ⟨_, rfl⟩
  rw [hr]
  have H := Lib.hid h
  cases hf : Lx.star k (s.data.toList.drop k) with
  | none =>
    have e1 : none = r := (Lx.comment_none hf).symm.trans hr
    subst e1
    have u1 := Sq.upTo ⟨#[42, 47]⟩ s.size g s k p o t w h hM hk (Nat.le_refl _) hs (by rw [← Lq.starAt_none hf hk]; exact Ll.cut_star _ _)
    have s1 := fun u q => Sq.skip2F 42 47 g s s.size p o t u q (Nat.le_refl _) hs (Lx.two_false (by omega) _ _)
    clear h hf hr hM
    go_enter Tryz.func48, Tryz.ntmps48
    go_wp2_with (first | (go_at_call 41; refine u1.mono ?_; rintro e w1 ⟨rfl, a1, b1⟩; have H1 := Lib.hid a1; have K1 := Lib.hid b1; clear a1 b1 u1 H) | (go_at_call 43; refine (s1 _ H1.out).mono ?_; rintro e w2 ⟨rfl, a2, b2⟩; have H2 := Lib.hid a2; have K2 := Lib.hid (K1.out.trans b2); clear a2 b2 s1))
    go_ret2
    exact ⟨false, false, s.size, rfl, Nat.le_refl _, H2.out, K2.out, fun _ => rfl, fun a e => by cases e⟩
  | some f =>
    have hf2 := Lx.star_ge _ _ _ hf
    rw [List.length_drop, Wk.len_data] at hf2
    have u1 := Sq.upTo ⟨#[42, 47]⟩ f g s k p o t w h hM hf2.1 (by omega) hs (by rw [← Lq.starAt_some hf]; exact Ll.cut_star _ _)
    have s1 := fun u q => Sq.skip2T 42 47 g s f p o t u q (by omega) hs (Lq.star_at hf)
    obtain ⟨I, hI⟩ : ∃ I, Lx.skip (f + 2) (s.data.toList.drop (f + 2)) = I := ⟨_, rfl⟩
    have b0 := fun u q => Sq.skipBlanks g s (f + 2) p o t u q (by omega) hs
    have hI2 := Lx.skip_ge (s.data.toList.drop (f + 2)) (f + 2)
    rw [List.length_drop, Wk.len_data, hI] at hI2
    rw [hI] at b0
    obtain ⟨tr, htr⟩ : ∃ tr, (decide (f + 2 < I) && decide (s.data.toList[I]? = some 45)) = tr := ⟨_, rfl⟩
    obtain ⟨J, hJ⟩ : ∃ J, (if tr = true then I + 1 else I) = J := ⟨_, rfl⟩
    have hJ2 : J ≤ s.size := by
      rw [← hJ]
      cases tr with
      | false => rw [if_neg (by decide)]; omega
      | true =>
        rw [if_pos rfl]
        simp only [Bool.and_eq_true, decide_eq_true_eq] at htr
        have := (List.getElem?_eq_some_iff.1 htr.2).1
        rw [Wk.len_data] at this
        omega
    obtain ⟨en, hen⟩ : ∃ en, Lx.two s.data.toList J 125 125 = en := ⟨_, rfl⟩
    have HO : Hid ((r = none → en = false) ∧ ∀ a, r = some a → en = true ∧ a = ⟨J + 2, [], tr, true⟩) := by
      cases en with
      | true =>
        have := Lx.comment_good hf hI htr hJ hen
        rw [hr] at this
        rw [this]
        exact ⟨fun e => (by cases e), fun a e => ⟨rfl, (Option.some.inj e).symm⟩⟩
      | false =>
        have := Lx.comment_bad hf hI htr hJ hen
        rw [hr] at this
        rw [this]
        exact ⟨fun _ => rfl, fun a e => by cases e⟩
    clear h hr hf hM hf2
    by_cases g1 : f + 2 < I
    · have d1 : decide (f + 2 < I) = true := decide_eq_true g1
      by_cases g2 : s.data.toList[I]? = some 45
      · have e2 : true = tr := by rw [← htr, d1, decide_eq_true g2]; rfl
        subst e2
        have e3 : I + 1 = J := by rw [← hJ, if_pos rfl]
        subst e3
        have s2 := fun u q => Sq.skip1T 45 g s I p o t u q (by omega) hs g2
        have s3 := fun u q => Sq.skip2 125 125 en g s (I + 1) p o t u q hJ2 hs hen
        clear htr hJ g2 hen hI
        go_enter Tryz.func48, Tryz.ntmps48
        go_wp2_with (first | (go_at_call 41; refine u1.mono ?_; rintro e w1 ⟨rfl, a1, b1⟩; have H1 := Lib.hid a1; have K1 := Lib.hid b1; clear a1 b1 u1 H) | (go_at_call 47; refine (b0 _ H2.out).mono ?_; rintro e w3 ⟨rfl, a3, b3⟩; have H3 := Lib.hid a3; have K3 := Lib.hid (K2.out.trans b3); clear a3 b3 b0) | (go_at_call 43; first | (refine (s1 _ H1.out).mono ?_; rintro e w2 ⟨rfl, a2, b2⟩; have H2 := Lib.hid a2; have K2 := Lib.hid (K1.out.trans b2); clear a2 b2 s1) | (refine (s2 _ H3.out).mono ?_; rintro e w4 ⟨rfl, a4, b4⟩; have H4 := Lib.hid a4; have K4 := Lib.hid (K3.out.trans b4); clear a4 b4 s2) | (refine (s3 _ H4.out).mono ?_; rintro e w5 ⟨j5, rfl, c5, a5, b5⟩; have H5 := Lib.hid a5; have K5 := Lib.hid (K4.out.trans b5); have HJ5 := Lib.hid c5; clear a5 b5 c5 s3)))
        go_ret2
        exact ⟨_, en, j5, rfl, HJ5.out.1, H5.out, K5.out, HO.out.1, fun a e => ⟨(HO.out.2 a e).1, by rw [HJ5.out.2 (HO.out.2 a e).1]; exact (HO.out.2 a e).2⟩⟩
      · have e2 : false = tr := by rw [← htr, d1, decide_eq_false g2]; rfl
        subst e2
        have e3 : I = J := by rw [← hJ, if_neg (by decide)]
        subst e3
        have s2 := fun u q => Sq.skip1F 45 g s I p o t u q (by omega) hs g2
        have s3 := fun u q => Sq.skip2 125 125 en g s I p o t u q hJ2 hs hen
        clear htr hJ g2 hen hI
        go_enter Tryz.func48, Tryz.ntmps48
        go_wp2_with (first | (go_at_call 41; refine u1.mono ?_; rintro e w1 ⟨rfl, a1, b1⟩; have H1 := Lib.hid a1; have K1 := Lib.hid b1; clear a1 b1 u1 H) | (go_at_call 47; refine (b0 _ H2.out).mono ?_; rintro e w3 ⟨rfl, a3, b3⟩; have H3 := Lib.hid a3; have K3 := Lib.hid (K2.out.trans b3); clear a3 b3 b0) | (go_at_call 43; first | (refine (s1 _ H1.out).mono ?_; rintro e w2 ⟨rfl, a2, b2⟩; have H2 := Lib.hid a2; have K2 := Lib.hid (K1.out.trans b2); clear a2 b2 s1) | (refine (s2 _ H3.out).mono ?_; rintro e w4 ⟨rfl, a4, b4⟩; have H4 := Lib.hid a4; have K4 := Lib.hid (K3.out.trans b4); clear a4 b4 s2) | (refine (s3 _ H4.out).mono ?_; rintro e w5 ⟨j5, rfl, c5, a5, b5⟩; have H5 := Lib.hid a5; have K5 := Lib.hid (K4.out.trans b5); have HJ5 := Lib.hid c5; clear a5 b5 c5 s3)))
        go_ret2
        exact ⟨_, en, j5, rfl, HJ5.out.1, H5.out, K5.out, HO.out.1, fun a e => ⟨(HO.out.2 a e).1, by rw [HJ5.out.2 (HO.out.2 a e).1]; exact (HO.out.2 a e).2⟩⟩
    · have d1 : decide (f + 2 < I) = false := decide_eq_false g1
      have e2 : false = tr := by rw [← htr, d1]; rfl
      subst e2
      have e3 : I = J := by rw [← hJ, if_neg (by decide)]
      subst e3
      have s3 := fun u q => Sq.skip2 125 125 en g s I p o t u q hJ2 hs hen
      clear htr hJ hen hI
      go_enter Tryz.func48, Tryz.ntmps48
      go_wp2_with (first | (go_at_call 41; refine u1.mono ?_; rintro e w1 ⟨rfl, a1, b1⟩; have H1 := Lib.hid a1; have K1 := Lib.hid b1; clear a1 b1 u1 H) | (go_at_call 47; refine (b0 _ H2.out).mono ?_; rintro e w3 ⟨rfl, a3, b3⟩; have H3 := Lib.hid a3; have K3 := Lib.hid (K2.out.trans b3); clear a3 b3 b0) | (go_at_call 43; first | (refine (s1 _ H1.out).mono ?_; rintro e w2 ⟨rfl, a2, b2⟩; have H2 := Lib.hid a2; have K2 := Lib.hid (K1.out.trans b2); clear a2 b2 s1) | (refine (s3 _ H3.out).mono ?_; rintro e w5 ⟨j5, rfl, c5, a5, b5⟩; have H5 := Lib.hid a5; have K5 := Lib.hid (K3.out.trans b5); have HJ5 := Lib.hid c5; clear a5 b5 c5 s3)))
      go_ret2
      exact ⟨_, en, j5, rfl, HJ5.out.1, H5.out, K5.out, HO.out.1, fun a e => ⟨(HO.out.2 a e).1, by rw [HJ5.out.2 (HO.out.2 a e).1]; exact (HO.out.2 a e).2⟩⟩
end Go.Proofs.YtjppobeomocgbaaGreatDoor

/-
  THE WALKS of page's isNameless, holds and mayBe.
-/
import Derived.Test.YtblpkjlodncpeaaGreatDoorBNMaytoWPlain
namespace Go.Proofs.YtblpkjlodncpeaaGreatDoor
open Go.RowKit
theorem Pq.dec (p : Prop) : ∃ b : Bool, b = true ↔ p := by
 by_cases h : p
 ·
  exact ⟨true, by simp [h]⟩
 ·
  exact ⟨false, by simp [h]⟩
set_option maxRecDepth 100000 in
theorem Pq.nameless (x : Nd) (aa : Option Addr) (ad : Nat) (w : World) (hal : x.attrs.length ≤ maxLen) (b : Bool) (hb : b = true ↔ x.name = Ts.e ∧ x.attrs = []) :
  Calls Tryz.prog 94 #[.agg #[.int .i64 x.kind, .string x.name, .string x.text, .slice aa x.attrs.length ad, .int .i64 x.parent]] w fun e w' => e = .returned (.bool b) ∧ Below w.heap.size w w' := by
 have hal63 : x.attrs.length ≤ 9223372036854775807 := by unfold maxLen at hal; omega
 by_cases NE : x.name.toList = []
 ·
  have n1 : (x.name.toList == []) = true := by rw [NE]; rfl
  have n2 : x.name.toList.isEmpty = true := by rw [NE]; rfl
  by_cases hl : x.attrs = []
  ·
   have hbt : b = true := hb.2 ⟨(Um.empty _).1 NE, hl⟩
   subst hbt
   have l1 : x.attrs.length = 0 := by rw [hl]; rfl
   have l0 : ((x.attrs.length : Int) == 0) = true := by rw [hl]; rfl
   clear hb hl
   go_enter Tryz.func94, Tryz.ntmps94
   go_wp2
   go_ret
   exact ⟨rfl, (Below.refl _ _).alloc (Nat.le_refl _) _⟩
  ·
   have hbf : b = false := by
    cases b
    ·
     rfl
    ·
     exact absurd (hb.1 rfl) (fun q => hl q.2)
   subst hbf
   have l1 : ¬ x.attrs.length = 0 := fun e => hl (List.eq_nil_of_length_eq_zero e)
   have l0 : ((x.attrs.length : Int) == 0) = false := beq_eq_false_iff_ne.2 (by omega)
   clear hb hl
   go_enter Tryz.func94, Tryz.ntmps94
   go_wp2
   go_ret
   exact ⟨rfl, (Below.refl _ _).alloc (Nat.le_refl _) _⟩
 ·
  have hbf : b = false := by
   cases b
   ·
    rfl
   ·
    exact absurd (hb.1 rfl) (fun q => NE ((Um.empty _).2 q.1))
  subst hbf
  have n1 : (x.name.toList == []) = false := beq_eq_false_iff_ne.2 NE
  have n2 : x.name.toList.isEmpty = false := by cases hq : x.name.toList with | nil => exact absurd hq NE | cons _ _ => rfl
  clear hb
  go_enter Tryz.func94, Tryz.ntmps94
  go_wp2
  go_ret
  exact ⟨rfl, (Below.refl _ _).alloc (Nat.le_refl _) _⟩
def Pq.Holds (ns : List Nd) (i : Nat) (p : Int) : Prop := 0 ≤ p ∧ p < (i : Int) ∧ ∃ y, ns[p.toNat]? = some y ∧ (y.kind = 0 ∨ y.kind = 1)
set_option maxRecDepth 100000 in
set_option maxHeartbeats 2000000 in
theorem Pq.holds (ns : List Nd) (a : Option Addr) (d i : Nat) (p : Int) (R : Nat → Prop) (w : World) (h : Nd.Lies w R ns (.slice a ns.length d)) (hi : i ≤ ns.length) (b : Bool) (hb : b = true ↔ Pq.Holds ns i p) :
  Calls Tryz.prog 95 #[.slice a i d, .int .i64 p] w fun e w' => e = .returned (.bool b) ∧ w' = w := by
 have hdm : ns.length ≤ d ∧ d ≤ maxLen := by
  obtain ⟨a', d', e, h1, h2, hx⟩ := h
  injection e with e1 e2 e3
  omega
 have hi63 : i ≤ 9223372036854775807 := by unfold maxLen at hdm; omega
 by_cases hp0 : 0 ≤ p
 ·
  have t1 : decide ((0 : Int) ≤ p) = true := decide_eq_true hp0
  obtain ⟨q, rfl⟩ : ∃ q : Nat, p = (q : Int) := ⟨p.toNat, by omega⟩
  by_cases hlt : q < i
  ·
   have t2 : decide ((q : Int) < (i : Int)) = true := decide_eq_true (by omega)
   obtain ⟨y, hy⟩ : ∃ y, ns[q]? = some y := ⟨_, List.getElem?_eq_getElem (by omega)⟩
   obtain ⟨bb, oo, aa, ad, rfl, _, _, _, c0, _⟩ := Nm.cells h hy
   have hqd : q < d := by omega
   by_cases k0 : y.kind = 0
   ·
    have hbt : b = true := hb.2 ⟨hp0, by omega, y, by rw [Int.toNat_natCast]; exact hy, .inl k0⟩
    subst hbt
    have e0 : (y.kind == 0) = true := by rw [k0]; rfl
    clear hb h hy k0
    go_enter Tryz.func95, Tryz.ntmps95
    go_wp2
    go_ret
    exact ⟨rfl, rfl⟩
   ·
    have e0 : (y.kind == 0) = false := beq_eq_false_iff_ne.2 k0
    by_cases k1 : y.kind = 1
    ·
     have hbt : b = true := hb.2 ⟨hp0, by omega, y, by rw [Int.toNat_natCast]; exact hy, .inr k1⟩
     subst hbt
     have e1 : (y.kind == 1) = true := by rw [k1]; rfl
     clear hb h hy k0 k1
     go_enter Tryz.func95, Tryz.ntmps95
     go_wp2
     go_ret
     exact ⟨rfl, rfl⟩
    ·
     have hbf : b = false := by
      cases b
      ·
       rfl
      ·
       obtain ⟨_, _, z, hz, hk⟩ := hb.1 rfl
       rw [Int.toNat_natCast, hy] at hz
       injection hz with hz
       subst hz
       exact absurd hk (by omega)
     subst hbf
     have e1 : (y.kind == 1) = false := beq_eq_false_iff_ne.2 k1
     clear hb h hy k0 k1
     go_enter Tryz.func95, Tryz.ntmps95
     go_wp2
     go_ret
     exact ⟨rfl, rfl⟩
  ·
   have t2 : decide ((q : Int) < (i : Int)) = false := decide_eq_false (by omega)
   have hbf : b = false := by
    cases b
    ·
     rfl
    ·
     exact absurd (hb.1 rfl).2.1 (by omega)
   subst hbf
   clear hb h
   go_enter Tryz.func95, Tryz.ntmps95
   go_wp2
   go_ret
   exact ⟨rfl, rfl⟩
 ·
  have t1 : decide ((0 : Int) ≤ p) = false := decide_eq_false hp0
  have hbf : b = false := by
   cases b
   ·
    rfl
   ·
    exact absurd (hb.1 rfl).1 hp0
  subst hbf
  clear hb h
  go_enter Tryz.func95, Tryz.ntmps95
  go_wp2
  go_ret
  exact ⟨rfl, rfl⟩
set_option maxRecDepth 100000 in
set_option maxHeartbeats 4000000 in
theorem Pq.mayBe (ns : List Nd) (a : Option Addr) (d i : Nat) (x : Nd) (aa : Option Addr) (ad B : Nat) (w : World) (h : Nd.Lies w (· < B) ns (.slice a ns.length d)) (hB : B ≤ w.heap.size) (hi : i ≤ ns.length) (hal : x.attrs.length ≤ maxLen) (b : Bool) (hb : b = true ↔ Sk.At ns i x) :
  Calls Tryz.prog 47 #[.agg #[.int .i64 x.kind, .string x.name, .string x.text, .slice aa x.attrs.length ad, .int .i64 x.parent], .slice a i d] w fun e w' => e = .returned (.bool b) ∧ Below w.heap.size w w' := by
 have hi63 : i ≤ 9223372036854775807 := by
  obtain ⟨a', d', e, h1, h2, hx⟩ := h
  unfold maxLen at h2
  injection e with e1 e2 e3
  omega
 have HL : Hid (∀ u, Below w.heap.size w u → Nd.Lies u (· < B) ns (.slice a ns.length d)) := fun u hu => h.on fun k hk => ⟨hk, hu.block k (by omega)⟩
 have nl := fun u nb hnb => Pq.nameless x aa ad u hal nb hnb
 have ho := fun u hu hbb hhb => Pq.holds ns a d i x.parent (· < B) u (HL.out u hu) hi hbb hhb
 obtain ⟨nb, hnb⟩ : ∃ nb : Bool, nb = true ↔ x.name = Ts.e ∧ x.attrs = [] := Pq.dec _
 obtain ⟨hh, hhh⟩ : ∃ hh : Bool, hh = true ↔ Pq.Holds ns i x.parent := Pq.dec _
 replace nl := fun u => nl u nb hnb
 replace ho := fun u hu => ho u hu hh hhh
 have ho1 := fun o => ho (w.alloc o) ((Below.refl _ _).alloc (Nat.le_refl _) _)
 have HNB := Lib.hid hnb
 have HHH := Lib.hid hhh
 have HBB := Lib.hid hb
 clear hnb hhh hb h hal hi
 by_cases h0 : i = 0
 ·
  subst h0
  clear ho ho1
  by_cases hk : x.kind = 0
  ·
   have k1 : (x.kind == 0) = true := by rw [hk]; rfl
   by_cases hp : x.parent = -1
   ·
    have p1 : (x.parent == -1) = true := by rw [hp]; rfl
    by_cases TE : x.text.toList = []
    ·
     have te := (Um.empty _).1 TE
     have text1 : (x.text.toList == []) = true := by rw [TE]; rfl
     have text2 : x.text.toList.isEmpty = true := by rw [TE]; rfl
     cases nb with
     | true =>
      have hbt : b = true := HBB.out.2 (by have q := HNB.out.1 rfl; exact .inl ⟨rfl, hk, hp, q.1, te, q.2⟩)
      subst hbt
      clear hk hp TE te
      go_enter Tryz.func47, Tryz.ntmps47
      go_wp2_with (go_at_call 94; refine (nl _).mono ?_; rintro e w1 ⟨rfl, hb1⟩; have q1 : Below w.heap.size w w1 := ((Below.refl _ _).alloc (Nat.le_refl _) _).trans (hb1.mono (by simp)); clear hb1 nl)
      go_ret
      exact ⟨rfl, q1⟩
     | false =>
      have hbf : b = false := by
       cases b
       ·
        rfl
       ·
        exact absurd (HBB.out.1 rfl) (by rintro (q | q); exact absurd (HNB.out.2 ⟨q.2.2.2.1, q.2.2.2.2.2⟩) (by decide); exact absurd q.1 (by decide))
      subst hbf
      clear hk hp TE te
      go_enter Tryz.func47, Tryz.ntmps47
      go_wp2_with (go_at_call 94; refine (nl _).mono ?_; rintro e w1 ⟨rfl, hb1⟩; have q1 : Below w.heap.size w w1 := ((Below.refl _ _).alloc (Nat.le_refl _) _).trans (hb1.mono (by simp)); clear hb1 nl)
      go_ret
      exact ⟨rfl, q1⟩
    ·
     clear nl
     have text1 : (x.text.toList == []) = false := beq_eq_false_iff_ne.2 TE
     have text2 : x.text.toList.isEmpty = false := by cases hq : x.text.toList with | nil => exact absurd hq TE | cons _ _ => rfl
     have hbf : b = false := by
      cases b
      ·
       rfl
      ·
       exact absurd (HBB.out.1 rfl) (by rintro (q | q); exact TE ((Um.empty _).2 q.2.2.2.2.1); exact absurd q.1 (by decide))
     subst hbf
     clear hk hp
     go_enter Tryz.func47, Tryz.ntmps47
     go_wp2
     go_ret
     exact ⟨rfl, (Below.refl _ _).alloc (Nat.le_refl _) _⟩
   ·
    clear nl
    have p1 : (x.parent == -1) = false := beq_eq_false_iff_ne.2 hp
    have hbf : b = false := by
     cases b
     ·
      rfl
     ·
      exact absurd (HBB.out.1 rfl) (by rintro (q | q); exact hp q.2.2.1; exact absurd q.1 (by decide))
    subst hbf
    clear hk hp
    go_enter Tryz.func47, Tryz.ntmps47
    go_wp2
    go_ret
    exact ⟨rfl, (Below.refl _ _).alloc (Nat.le_refl _) _⟩
  ·
   clear nl
   have k1 : (x.kind == 0) = false := beq_eq_false_iff_ne.2 hk
   have hbf : b = false := by
    cases b
    ·
     rfl
    ·
     exact absurd (HBB.out.1 rfl) (by rintro (q | q); exact hk q.2.1; exact absurd q.1 (by decide))
   subst hbf
   clear hk
   go_enter Tryz.func47, Tryz.ntmps47
   go_wp2
   go_ret
   exact ⟨rfl, (Below.refl _ _).alloc (Nat.le_refl _) _⟩
 have hz : ((i : Int) == 0) = false := beq_eq_false_iff_ne.2 (by omega)
 have AT : Hid (Sk.At ns i x ↔ Pq.Holds ns i x.parent ∧ ((x.kind = 1 ∧ x.text = Ts.e) ∨ ((x.kind = 2 ∨ x.kind = 3) ∧ x.name = Ts.e ∧ x.attrs = []))) := by
  unfold Hid Sk.At Pq.Holds
  constructor
  ·
   rintro (q | ⟨_, q1, q2, q3, q4⟩)
   ·
    exact absurd q.1 h0
   ·
    exact ⟨⟨q1, q2, q3⟩, q4⟩
  ·
   rintro ⟨⟨q1, q2, q3⟩, q4⟩
   exact .inr ⟨by omega, q1, q2, q3, q4⟩
 by_cases hk1 : x.kind = 1
 ·
  have k1 : (x.kind == 1) = true := by rw [hk1]; rfl
  clear nl
  by_cases TE : x.text.toList = []
  ·
   have te := (Um.empty _).1 TE
   have text1 : (x.text.toList == []) = true := by rw [TE]; rfl
   have text2 : x.text.toList.isEmpty = true := by rw [TE]; rfl
   cases hh with
   | true =>
    have hbt : b = true := HBB.out.2 (by exact AT.out.2 ⟨HHH.out.1 rfl, .inl ⟨hk1, te⟩⟩)
    subst hbt
    clear hk1 TE te ho
    go_enter Tryz.func47, Tryz.ntmps47
    go_wp2_with (go_at_call 95; refine (ho1 _).mono ?_; rintro e w2 ⟨rfl, hw2⟩; have hw2 := hw2.symm; subst hw2)
    go_ret
    exact ⟨rfl, (Below.refl _ _).alloc (Nat.le_refl _) _⟩
   | false =>
    have hbf : b = false := by
     cases b
     ·
      rfl
     ·
      exact absurd (HBB.out.1 rfl) (by intro q; exact absurd (HHH.out.2 (AT.out.1 q).1) (by decide))
    subst hbf
    clear hk1 TE te ho
    go_enter Tryz.func47, Tryz.ntmps47
    go_wp2_with (go_at_call 95; refine (ho1 _).mono ?_; rintro e w2 ⟨rfl, hw2⟩; have hw2 := hw2.symm; subst hw2)
    go_ret
    exact ⟨rfl, (Below.refl _ _).alloc (Nat.le_refl _) _⟩
  ·
   clear ho ho1
   have text1 : (x.text.toList == []) = false := beq_eq_false_iff_ne.2 TE
   have text2 : x.text.toList.isEmpty = false := by cases hq : x.text.toList with | nil => exact absurd hq TE | cons _ _ => rfl
   have hbf : b = false := by
    cases b
    ·
     rfl
    ·
     exact absurd (HBB.out.1 rfl) (by intro q; rcases (AT.out.1 q).2 with q | q; exact TE ((Um.empty _).2 q.2); exact absurd hk1 (by omega))
   subst hbf
   clear hk1
   go_enter Tryz.func47, Tryz.ntmps47
   go_wp2
   go_ret
   exact ⟨rfl, (Below.refl _ _).alloc (Nat.le_refl _) _⟩
 have k1 : (x.kind == 1) = false := beq_eq_false_iff_ne.2 hk1
 by_cases hk2 : x.kind = 2
 ·
  have k2 : (x.kind == 2) = true := by rw [hk2]; rfl
  clear ho1
  cases nb with
  | true =>
   have hn := HNB.out.1 rfl
   cases hh with
   | true =>
    have hbt : b = true := HBB.out.2 (by exact AT.out.2 ⟨HHH.out.1 rfl, .inr ⟨.inl hk2, hn⟩⟩)
    subst hbt
    clear hn hk1 hk2
    go_enter Tryz.func47, Tryz.ntmps47
    go_wp2_with (first | (go_at_call 94; refine (nl _).mono ?_; rintro e w1 ⟨rfl, hb1⟩; have q1 : Below w.heap.size w w1 := ((Below.refl _ _).alloc (Nat.le_refl _) _).trans (hb1.mono (by simp)); have y4 : w1.cell? ⟨w.heap.size, 4, none⟩ = some (.int .i64 x.parent) := Tp.keep hb1 (by simp [go_sem]); have ho2 := ho w1 q1; clear hb1 nl) | (go_at_call 95; refine ho2.mono ?_; rintro e w2 ⟨rfl, hw2⟩; have hw2 := hw2.symm; subst hw2))
    go_ret
    exact ⟨rfl, q1⟩
   | false =>
    have hbf : b = false := by
     cases b
     ·
      rfl
     ·
      exact absurd (HBB.out.1 rfl) (by intro q; exact absurd (HHH.out.2 (AT.out.1 q).1) (by decide))
    subst hbf
    clear hn hk1 hk2
    go_enter Tryz.func47, Tryz.ntmps47
    go_wp2_with (first | (go_at_call 94; refine (nl _).mono ?_; rintro e w1 ⟨rfl, hb1⟩; have q1 : Below w.heap.size w w1 := ((Below.refl _ _).alloc (Nat.le_refl _) _).trans (hb1.mono (by simp)); have y4 : w1.cell? ⟨w.heap.size, 4, none⟩ = some (.int .i64 x.parent) := Tp.keep hb1 (by simp [go_sem]); have ho2 := ho w1 q1; clear hb1 nl) | (go_at_call 95; refine ho2.mono ?_; rintro e w2 ⟨rfl, hw2⟩; have hw2 := hw2.symm; subst hw2))
    go_ret
    exact ⟨rfl, q1⟩
  | false =>
   clear ho
   have hbf : b = false := by
    cases b
    ·
     rfl
    ·
     exact absurd (HBB.out.1 rfl) (by intro q; rcases (AT.out.1 q).2 with q | q; exact hk1 q.1; exact absurd (HNB.out.2 q.2) (by decide))
   subst hbf
   clear hk1 hk2
   go_enter Tryz.func47, Tryz.ntmps47
   go_wp2_with (go_at_call 94; refine (nl _).mono ?_; rintro e w1 ⟨rfl, hb1⟩; have q1 : Below w.heap.size w w1 := ((Below.refl _ _).alloc (Nat.le_refl _) _).trans (hb1.mono (by simp)); clear hb1 nl)
   go_ret
   exact ⟨rfl, q1⟩
 have k2 : (x.kind == 2) = false := beq_eq_false_iff_ne.2 hk2
 by_cases hk3 : x.kind = 3
 ·
  have k3 : (x.kind == 3) = true := by rw [hk3]; rfl
  clear ho1
  cases nb with
  | true =>
   have hn := HNB.out.1 rfl
   cases hh with
   | true =>
    have hbt : b = true := HBB.out.2 (by exact AT.out.2 ⟨HHH.out.1 rfl, .inr ⟨.inr hk3, hn⟩⟩)
    subst hbt
    clear hn hk1 hk3 hk2
    go_enter Tryz.func47, Tryz.ntmps47
    go_wp2_with (first | (go_at_call 94; refine (nl _).mono ?_; rintro e w1 ⟨rfl, hb1⟩; have q1 : Below w.heap.size w w1 := ((Below.refl _ _).alloc (Nat.le_refl _) _).trans (hb1.mono (by simp)); have y4 : w1.cell? ⟨w.heap.size, 4, none⟩ = some (.int .i64 x.parent) := Tp.keep hb1 (by simp [go_sem]); have ho2 := ho w1 q1; clear hb1 nl) | (go_at_call 95; refine ho2.mono ?_; rintro e w2 ⟨rfl, hw2⟩; have hw2 := hw2.symm; subst hw2))
    go_ret
    exact ⟨rfl, q1⟩
   | false =>
    have hbf : b = false := by
     cases b
     ·
      rfl
     ·
      exact absurd (HBB.out.1 rfl) (by intro q; exact absurd (HHH.out.2 (AT.out.1 q).1) (by decide))
    subst hbf
    clear hn hk1 hk3 hk2
    go_enter Tryz.func47, Tryz.ntmps47
    go_wp2_with (first | (go_at_call 94; refine (nl _).mono ?_; rintro e w1 ⟨rfl, hb1⟩; have q1 : Below w.heap.size w w1 := ((Below.refl _ _).alloc (Nat.le_refl _) _).trans (hb1.mono (by simp)); have y4 : w1.cell? ⟨w.heap.size, 4, none⟩ = some (.int .i64 x.parent) := Tp.keep hb1 (by simp [go_sem]); have ho2 := ho w1 q1; clear hb1 nl) | (go_at_call 95; refine ho2.mono ?_; rintro e w2 ⟨rfl, hw2⟩; have hw2 := hw2.symm; subst hw2))
    go_ret
    exact ⟨rfl, q1⟩
  | false =>
   clear ho
   have hbf : b = false := by
    cases b
    ·
     rfl
    ·
     exact absurd (HBB.out.1 rfl) (by intro q; rcases (AT.out.1 q).2 with q | q; exact hk1 q.1; exact absurd (HNB.out.2 q.2) (by decide))
   subst hbf
   clear hk1 hk3 hk2
   go_enter Tryz.func47, Tryz.ntmps47
   go_wp2_with (go_at_call 94; refine (nl _).mono ?_; rintro e w1 ⟨rfl, hb1⟩; have q1 : Below w.heap.size w w1 := ((Below.refl _ _).alloc (Nat.le_refl _) _).trans (hb1.mono (by simp)); clear hb1 nl)
   go_ret
   exact ⟨rfl, q1⟩
 have k3 : (x.kind == 3) = false := beq_eq_false_iff_ne.2 hk3
 clear nl ho ho1
 have hbf : b = false := by
  cases b
  ·
   rfl
  ·
   exact absurd (HBB.out.1 rfl) (by intro q; rcases (AT.out.1 q).2 with q | q; exact hk1 q.1; rcases q.1 with q | q; exact hk2 q; exact hk3 q)
 subst hbf
 clear hk1 hk2 hk3
 go_enter Tryz.func47, Tryz.ntmps47
 go_wp2
 go_ret
 exact ⟨rfl, (Below.refl _ _).alloc (Nat.le_refl _) _⟩
end Go.Proofs.YtblpkjlodncpeaaGreatDoor

/-
  THE WALK of stoleref5.nodeMay.
-/
import Derived.Test.YtblpkjlodncpeaaGreatDoorBPlaintoKPlain
import Derived.Test.YtblpkjlodncpeaaGreatDoorBTMemtoUMk
import Derived.Test.YtblpkjlodncpeaaGreatDoorBUNdtoUMay
namespace Go.Proofs.YtblpkjlodncpeaaGreatDoor
open Go.RowKit
theorem Nm.cells {w : World} {R : Nat → Prop} {ns : List Nd} {a : Option Addr} {d : Nat} (h : Nd.Lies w R ns (.slice a ns.length d)) {i : Nat} {x : Nd} (hi : ns[i]? = some x) : ∃ b o aa ad, a = some ⟨b, o, none⟩ ∧ i < ns.length ∧ ns.length ≤ d ∧ d ≤ maxLen ∧ w.cell? ⟨b, o + i * 5, none⟩ = some (.int .i64 x.kind) ∧ w.cell? ⟨b, o + i * 5 + 1, none⟩ = some (.string x.name) ∧ w.cell? ⟨b, o + i * 5 + 2, none⟩ = some (.string x.text) ∧ w.cell? ⟨b, o + i * 5 + 3, none⟩ = some (.slice aa x.attrs.length ad) ∧ w.cell? ⟨b, o + i * 5 + 4, none⟩ = some (.int .i64 x.parent) ∧ x.attrs.length ≤ maxLen ∧ Ak.Lies w R x.attrs (.slice aa x.attrs.length ad) := by
 obtain ⟨a', d', e, h1, h2, hx⟩ := h
 injection e with e1 e2 e3
 subst e1
 subst e3
 obtain ⟨b, o, av, ea, hb, c0, c1, c2, c3, c4, hl⟩ := hx i x hi
 obtain ⟨aa, ad, rfl, g1, g2, gx⟩ := id hl
 exact ⟨b, o, aa, ad, ea, (List.getElem?_eq_some_iff.1 hi).1, h1, h2, c0, c1, c2, c3, c4, by omega, hl⟩
set_option maxRecDepth 100000 in
set_option maxHeartbeats 8000000 in
theorem Nm.node0 (ns : List Nd) (a : Option Addr) (d i : Nat) (x : Nd) (R : Nat → Prop) (w : World) (h : Nd.Lies w R ns (.slice a ns.length d)) (hi : ns[i]? = some x) (h0 : i = 0) (b : Bool) (hb : b = true ↔ Sk.At ns i x) :
  Calls Tryz.prog 49 #[.slice a ns.length d, .int .i64 (i : Int)] w fun e w' => e = .returned (.bool b) ∧ Below w.heap.size w w' := by
 obtain ⟨bb, oo, aa, ad, rfl, hin, hld, hdm, c0, c1, c2, c3, c4, hal, _⟩ := Nm.cells h hi
 have hbl : bb < w.heap.size := World.block_lt_of_cell? _ _ c0
 have n1 : w.heap.size ≠ bb := by omega
 have n2 : bb ≠ w.heap.size := by omega
 have hid : i < d := by omega
 have hin63 : ns.length ≤ 9223372036854775807 := by unfold maxLen at hdm; omega
 have hal63 : x.attrs.length ≤ 9223372036854775807 := by unfold maxLen at hal; omega
 subst h0
 rw [Nat.zero_mul, Nat.add_zero] at c0 c1 c2 c3 c4
 replace hb : b = true ↔ (x.kind = 0 ∧ x.parent = -1 ∧ x.name = Ts.e ∧ x.text = Ts.e ∧ x.attrs = []) := by
  rw [hb]
  unfold Sk.At
  constructor
  ·
   rintro (q | q)
   ·
    exact q.2
   ·
    exact absurd q.1 (by decide)
  ·
   intro q; exact .inl ⟨rfl, q⟩
 clear h hi
 by_cases hk : x.kind = 0
 ·
  have k1 : (x.kind == 0) = true := by rw [hk]; rfl
  by_cases hp : x.parent = -1
  ·
   have p1 : (x.parent == -1) = true := by rw [hp]; rfl
   by_cases NAMEE : x.name.toList = []
   ·
    have name1 : (x.name.toList == []) = true := by rw [NAMEE]; rfl
    have name2 : x.name.toList.isEmpty = true := by rw [NAMEE]; rfl
    have name3 : x.name.toList = [] := NAMEE
    by_cases TEXTE : x.text.toList = []
    ·
     have text1 : (x.text.toList == []) = true := by rw [TEXTE]; rfl
     have text2 : x.text.toList.isEmpty = true := by rw [TEXTE]; rfl
     have text3 : x.text.toList = [] := TEXTE
     by_cases hl : x.attrs = []
     ·
      have hbt : b = true := hb.2 ⟨hk, hp, (Um.empty _).1 NAMEE, (Um.empty _).1 TEXTE, hl⟩
      subst hbt
      have l1 : x.attrs.length = 0 := by rw [hl]; rfl
      have l0 : ((x.attrs.length : Int) == 0) = true := by rw [hl]; rfl
      clear hb hl hk hp NAMEE TEXTE
      go_enter Tryz.func49, Tryz.ntmps49
      go_wp2
      go_ret
      exact ⟨rfl, (Below.refl _ _).alloc (Nat.le_refl _) _⟩
     ·
      have hbf : b = false := by
       cases b
       ·
        rfl
       ·
        exact absurd (hb.1 rfl) (fun q => hl q.2.2.2.2)
      subst hbf
      have l1 : ¬ x.attrs.length = 0 := fun e => hl (List.eq_nil_of_length_eq_zero e)
      have l0 : ((x.attrs.length : Int) == 0) = false := beq_eq_false_iff_ne.2 (by omega)
      clear hb hl hk hp NAMEE TEXTE
      go_enter Tryz.func49, Tryz.ntmps49
      go_wp2
      go_ret
      exact ⟨rfl, (Below.refl _ _).alloc (Nat.le_refl _) _⟩
    ·
     have hbf : b = false := by
      cases b
      ·
       rfl
      ·
       exact absurd (hb.1 rfl) (fun q => TEXTE ((Um.empty _).2 q.2.2.2.1))
     subst hbf
     have text1 : (x.text.toList == []) = false := beq_eq_false_iff_ne.2 TEXTE
     have text2 : x.text.toList.isEmpty = false := by cases hq : x.text.toList with | nil => exact absurd hq TEXTE | cons _ _ => rfl
     have text3 : ¬ x.text.toList = [] := TEXTE
     clear hb hk hp NAMEE TEXTE
     go_enter Tryz.func49, Tryz.ntmps49
     go_wp2
     go_ret
     exact ⟨rfl, (Below.refl _ _).alloc (Nat.le_refl _) _⟩
   ·
    have hbf : b = false := by
     cases b
     ·
      rfl
     ·
      exact absurd (hb.1 rfl) (fun q => NAMEE ((Um.empty _).2 q.2.2.1))
    subst hbf
    have name1 : (x.name.toList == []) = false := beq_eq_false_iff_ne.2 NAMEE
    have name2 : x.name.toList.isEmpty = false := by cases hq : x.name.toList with | nil => exact absurd hq NAMEE | cons _ _ => rfl
    have name3 : ¬ x.name.toList = [] := NAMEE
    clear hb hk hp NAMEE
    go_enter Tryz.func49, Tryz.ntmps49
    go_wp2
    go_ret
    exact ⟨rfl, (Below.refl _ _).alloc (Nat.le_refl _) _⟩
  ·
   have hbf : b = false := by
    cases b
    ·
     rfl
    ·
     exact absurd (hb.1 rfl) (fun q => hp q.2.1)
   subst hbf
   have p1 : (x.parent == -1) = false := beq_eq_false_iff_ne.2 hp
   clear hb hk hp
   go_enter Tryz.func49, Tryz.ntmps49
   go_wp2
   go_ret
   exact ⟨rfl, (Below.refl _ _).alloc (Nat.le_refl _) _⟩
 ·
  have hbf : b = false := by
   cases b
   ·
    rfl
   ·
    exact absurd (hb.1 rfl) (fun q => hk q.1)
  subst hbf
  have k1 : (x.kind == 0) = false := beq_eq_false_iff_ne.2 hk
  clear hb hk
  go_enter Tryz.func49, Tryz.ntmps49
  go_wp2
  go_ret
  exact ⟨rfl, (Below.refl _ _).alloc (Nat.le_refl _) _⟩
set_option maxRecDepth 100000 in
set_option maxHeartbeats 8000000 in
theorem Nm.node1 (ns : List Nd) (a : Option Addr) (d i : Nat) (x : Nd) (R : Nat → Prop) (w : World) (h : Nd.Lies w R ns (.slice a ns.length d)) (hi : ns[i]? = some x) (h0 : 0 < i) (b : Bool) (hb : b = true ↔ Sk.At ns i x) :
  Calls Tryz.prog 49 #[.slice a ns.length d, .int .i64 (i : Int)] w fun e w' => e = .returned (.bool b) ∧ Below w.heap.size w w' := by
 obtain ⟨bb, oo, aa, ad, rfl, hin, hld, hdm, c0, c1, c2, c3, c4, hal, _⟩ := Nm.cells h hi
 have hbl : bb < w.heap.size := World.block_lt_of_cell? _ _ c0
 have n1 : w.heap.size ≠ bb := by omega
 have n2 : bb ≠ w.heap.size := by omega
 have hid : i < d := by omega
 have hin63 : ns.length ≤ 9223372036854775807 := by unfold maxLen at hdm; omega
 have hal63 : x.attrs.length ≤ 9223372036854775807 := by unfold maxLen at hal; omega
 have hi0 : ((i : Int) == 0) = false := beq_eq_false_iff_ne.2 (by omega)
 have hi1 : ¬ i = 0 := by omega
 replace hb : b = true ↔ (0 ≤ x.parent ∧ x.parent < (i : Int) ∧ (∃ y, ns[x.parent.toNat]? = some y ∧ (y.kind = 0 ∨ y.kind = 1)) ∧ ((x.kind = 1 ∧ x.text = Ts.e) ∨ ((x.kind = 2 ∨ x.kind = 3) ∧ x.name = Ts.e ∧ x.attrs = []))) := by
  rw [hb]
  unfold Sk.At
  constructor
  ·
   rintro (q | q)
   ·
    exact absurd q.1 (by omega)
   ·
    exact q.2
  ·
   intro q; exact .inr ⟨h0, q⟩
 by_cases hp0 : x.parent < 0
 ·
  have hbf : b = false := by
   cases b
   ·
    rfl
   ·
    exact absurd (hb.1 rfl) (fun q => by omega)
  subst hbf
  have p0 : decide (x.parent < 0) = true := decide_eq_true hp0
  clear hb h hi hi1
  go_enter Tryz.func49, Tryz.ntmps49
  go_wp2
  go_ret
  exact ⟨rfl, (Below.refl _ _).alloc (Nat.le_refl _) _⟩
 ·
  have p0 : decide (x.parent < 0) = false := decide_eq_false hp0
  obtain ⟨p, hpe⟩ : ∃ p : Nat, x.parent = (p : Int) := ⟨x.parent.toNat, by omega⟩
  rw [hpe] at c4 p0 hb
  by_cases hpi : (i : Int) ≤ (p : Int)
  ·
   have hbf : b = false := by
    cases b
    ·
     rfl
    ·
     exact absurd (hb.1 rfl) (fun q => by omega)
   subst hbf
   have p1 : decide ((i : Int) ≤ (p : Int)) = true := decide_eq_true (by omega)
   clear hb h hi hi1 hpe hp0
   go_enter Tryz.func49, Tryz.ntmps49
   go_wp2
   go_ret
   exact ⟨rfl, (Below.refl _ _).alloc (Nat.le_refl _) _⟩
  ·
   have p1 : decide ((i : Int) ≤ (p : Int)) = false := decide_eq_false (by omega)
   obtain ⟨y, hy⟩ : ∃ y, ns[p]? = some y := ⟨_, List.getElem?_eq_getElem (by omega)⟩
   obtain ⟨b2, o2, aa2, ad2, e2, _, _, _, y0, _⟩ := Nm.cells h hy
   injection e2 with e2
   injection e2 with e3 e4
   subst e3
   subst e4
   have hpd : p < d := by omega
   have hpl : p < ns.length := by omega
   rw [Int.toNat_natCast] at hb
   replace hb : b = true ↔ ((y.kind = 0 ∨ y.kind = 1) ∧ ((x.kind = 1 ∧ x.text = Ts.e) ∨ ((x.kind = 2 ∨ x.kind = 3) ∧ x.name = Ts.e ∧ x.attrs = []))) := by
    rw [hb]
    constructor
    ·
     rintro ⟨_, _, ⟨yy, h1, h2⟩, h3⟩
     rw [hy] at h1
     injection h1 with h1
     rw [h1]
     exact ⟨h2, h3⟩
    ·
     intro q
     exact ⟨by omega, by omega, ⟨y, hy, q.1⟩, q.2⟩
   clear h hi hy hi1 hpe hp0
   by_cases hy0 : y.kind = 0
   ·
    have yz : (y.kind != 0) = false := by rw [hy0]; rfl
    replace hy0 : y.kind = 0 ∨ y.kind = 1 := .inl hy0
    by_cases hk1 : x.kind = 1
    ·
     have k1 : (x.kind == 1) = true := by rw [hk1]; rfl
     by_cases TEXTE : x.text.toList = []
     ·
      have text1 : (x.text.toList == []) = true := by rw [TEXTE]; rfl
      have text2 : x.text.toList.isEmpty = true := by rw [TEXTE]; rfl
      have text3 : x.text.toList = [] := TEXTE
      have hbt : b = true := hb.2 ⟨hy0, .inl ⟨hk1, (Um.empty _).1 TEXTE⟩⟩
      subst hbt
      clear hb hk1 TEXTE hy0
      go_enter Tryz.func49, Tryz.ntmps49
      go_wp2
      go_ret
      exact ⟨rfl, (Below.refl _ _).alloc (Nat.le_refl _) _⟩
     ·
      have hbf : b = false := by
       cases b
       ·
        rfl
       ·
        exact absurd (hb.1 rfl) (fun q => by rcases q.2 with r | r; exact TEXTE ((Um.empty _).2 r.2); omega)
      subst hbf
      have text1 : (x.text.toList == []) = false := beq_eq_false_iff_ne.2 TEXTE
      have text2 : x.text.toList.isEmpty = false := by cases hq : x.text.toList with | nil => exact absurd hq TEXTE | cons _ _ => rfl
      have text3 : ¬ x.text.toList = [] := TEXTE
      clear hb hk1 TEXTE hy0
      go_enter Tryz.func49, Tryz.ntmps49
      go_wp2
      go_ret
      exact ⟨rfl, (Below.refl _ _).alloc (Nat.le_refl _) _⟩
    ·
     have k1 : (x.kind == 1) = false := beq_eq_false_iff_ne.2 hk1
     by_cases hk2 : x.kind = 2
     ·
      have k2 : (x.kind == 2) = true := by rw [hk2]; rfl
      by_cases NAMEE : x.name.toList = []
      ·
       have name1 : (x.name.toList == []) = true := by rw [NAMEE]; rfl
       have name2 : x.name.toList.isEmpty = true := by rw [NAMEE]; rfl
       have name3 : x.name.toList = [] := NAMEE
       by_cases hl : x.attrs = []
       ·
        have hbt : b = true := hb.2 ⟨hy0, .inr ⟨.inl hk2, (Um.empty _).1 NAMEE, hl⟩⟩
        subst hbt
        have l1 : x.attrs.length = 0 := by rw [hl]; rfl
        have l0 : ((x.attrs.length : Int) == 0) = true := by rw [hl]; rfl
        clear hb hl hk1 NAMEE hy0 hk2
        go_enter Tryz.func49, Tryz.ntmps49
        go_wp2
        go_ret
        exact ⟨rfl, (Below.refl _ _).alloc (Nat.le_refl _) _⟩
       ·
        have hbf : b = false := by
         cases b
         ·
          rfl
         ·
          exact absurd (hb.1 rfl) (fun q => by rcases q.2 with r | r; exact hk1 r.1; exact hl r.2.2)
        subst hbf
        have l1 : ¬ x.attrs.length = 0 := fun e => hl (List.eq_nil_of_length_eq_zero e)
        have l0 : ((x.attrs.length : Int) == 0) = false := beq_eq_false_iff_ne.2 (by omega)
        clear hb hl hk1 NAMEE hy0 hk2
        go_enter Tryz.func49, Tryz.ntmps49
        go_wp2
        go_ret
        exact ⟨rfl, (Below.refl _ _).alloc (Nat.le_refl _) _⟩
      ·
       have hbf : b = false := by
        cases b
        ·
         rfl
        ·
         exact absurd (hb.1 rfl) (fun q => by rcases q.2 with r | r; exact hk1 r.1; exact NAMEE ((Um.empty _).2 r.2.1))
       subst hbf
       have name1 : (x.name.toList == []) = false := beq_eq_false_iff_ne.2 NAMEE
       have name2 : x.name.toList.isEmpty = false := by cases hq : x.name.toList with | nil => exact absurd hq NAMEE | cons _ _ => rfl
       have name3 : ¬ x.name.toList = [] := NAMEE
       clear hb hk1 NAMEE hy0 hk2
       go_enter Tryz.func49, Tryz.ntmps49
       go_wp2
       go_ret
       exact ⟨rfl, (Below.refl _ _).alloc (Nat.le_refl _) _⟩
     ·
      have k2 : (x.kind == 2) = false := beq_eq_false_iff_ne.2 hk2
      by_cases hk3 : x.kind = 3
      ·
       have k3 : (x.kind == 3) = true := by rw [hk3]; rfl
       by_cases NAMEE : x.name.toList = []
       ·
        have name1 : (x.name.toList == []) = true := by rw [NAMEE]; rfl
        have name2 : x.name.toList.isEmpty = true := by rw [NAMEE]; rfl
        have name3 : x.name.toList = [] := NAMEE
        by_cases hl : x.attrs = []
        ·
         have hbt : b = true := hb.2 ⟨hy0, .inr ⟨.inr hk3, (Um.empty _).1 NAMEE, hl⟩⟩
         subst hbt
         have l1 : x.attrs.length = 0 := by rw [hl]; rfl
         have l0 : ((x.attrs.length : Int) == 0) = true := by rw [hl]; rfl
         clear hb hl hk1 NAMEE hy0 hk2 hk3
         go_enter Tryz.func49, Tryz.ntmps49
         go_wp2
         go_ret
         exact ⟨rfl, (Below.refl _ _).alloc (Nat.le_refl _) _⟩
        ·
         have hbf : b = false := by
          cases b
          ·
           rfl
          ·
           exact absurd (hb.1 rfl) (fun q => by rcases q.2 with r | r; exact hk1 r.1; exact hl r.2.2)
         subst hbf
         have l1 : ¬ x.attrs.length = 0 := fun e => hl (List.eq_nil_of_length_eq_zero e)
         have l0 : ((x.attrs.length : Int) == 0) = false := beq_eq_false_iff_ne.2 (by omega)
         clear hb hl hk1 NAMEE hy0 hk2 hk3
         go_enter Tryz.func49, Tryz.ntmps49
         go_wp2
         go_ret
         exact ⟨rfl, (Below.refl _ _).alloc (Nat.le_refl _) _⟩
       ·
        have hbf : b = false := by
         cases b
         ·
          rfl
         ·
          exact absurd (hb.1 rfl) (fun q => by rcases q.2 with r | r; exact hk1 r.1; exact NAMEE ((Um.empty _).2 r.2.1))
        subst hbf
        have name1 : (x.name.toList == []) = false := beq_eq_false_iff_ne.2 NAMEE
        have name2 : x.name.toList.isEmpty = false := by cases hq : x.name.toList with | nil => exact absurd hq NAMEE | cons _ _ => rfl
        have name3 : ¬ x.name.toList = [] := NAMEE
        clear hb hk1 NAMEE hy0 hk2 hk3
        go_enter Tryz.func49, Tryz.ntmps49
        go_wp2
        go_ret
        exact ⟨rfl, (Below.refl _ _).alloc (Nat.le_refl _) _⟩
      ·
       have hbf : b = false := by
        cases b
        ·
         rfl
        ·
         exact absurd (hb.1 rfl) (fun q => by rcases q.2 with r | r; exact hk1 r.1; omega)
       subst hbf
       have k3 : (x.kind == 3) = false := beq_eq_false_iff_ne.2 hk3
       clear hb hk1 hy0 hk2 hk3
       go_enter Tryz.func49, Tryz.ntmps49
       go_wp2
       go_ret
       exact ⟨rfl, (Below.refl _ _).alloc (Nat.le_refl _) _⟩
   ·
    have yz : (y.kind != 0) = true := bne_iff_ne.2 hy0
    by_cases hy1 : y.kind = 1
    ·
     have y1 : (y.kind != 1) = false := by rw [hy1]; rfl
     have hy2 : y.kind = 0 ∨ y.kind = 1 := .inr hy1
     clear hy1
     by_cases hk1 : x.kind = 1
     ·
      have k1 : (x.kind == 1) = true := by rw [hk1]; rfl
      by_cases TEXTE : x.text.toList = []
      ·
       have text1 : (x.text.toList == []) = true := by rw [TEXTE]; rfl
       have text2 : x.text.toList.isEmpty = true := by rw [TEXTE]; rfl
       have text3 : x.text.toList = [] := TEXTE
       have hbt : b = true := hb.2 ⟨hy2, .inl ⟨hk1, (Um.empty _).1 TEXTE⟩⟩
       subst hbt
       clear hb hk1 TEXTE hy0 hy2
       go_enter Tryz.func49, Tryz.ntmps49
       go_wp2
       go_ret
       exact ⟨rfl, (Below.refl _ _).alloc (Nat.le_refl _) _⟩
      ·
       have hbf : b = false := by
        cases b
        ·
         rfl
        ·
         exact absurd (hb.1 rfl) (fun q => by rcases q.2 with r | r; exact TEXTE ((Um.empty _).2 r.2); omega)
       subst hbf
       have text1 : (x.text.toList == []) = false := beq_eq_false_iff_ne.2 TEXTE
       have text2 : x.text.toList.isEmpty = false := by cases hq : x.text.toList with | nil => exact absurd hq TEXTE | cons _ _ => rfl
       have text3 : ¬ x.text.toList = [] := TEXTE
       clear hb hk1 TEXTE hy0 hy2
       go_enter Tryz.func49, Tryz.ntmps49
       go_wp2
       go_ret
       exact ⟨rfl, (Below.refl _ _).alloc (Nat.le_refl _) _⟩
     ·
      have k1 : (x.kind == 1) = false := beq_eq_false_iff_ne.2 hk1
      by_cases hk2 : x.kind = 2
      ·
       have k2 : (x.kind == 2) = true := by rw [hk2]; rfl
       by_cases NAMEE : x.name.toList = []
       ·
        have name1 : (x.name.toList == []) = true := by rw [NAMEE]; rfl
        have name2 : x.name.toList.isEmpty = true := by rw [NAMEE]; rfl
        have name3 : x.name.toList = [] := NAMEE
        by_cases hl : x.attrs = []
        ·
         have hbt : b = true := hb.2 ⟨hy2, .inr ⟨.inl hk2, (Um.empty _).1 NAMEE, hl⟩⟩
         subst hbt
         have l1 : x.attrs.length = 0 := by rw [hl]; rfl
         have l0 : ((x.attrs.length : Int) == 0) = true := by rw [hl]; rfl
         clear hb hl hk1 NAMEE hy0 hy2 hk2
         go_enter Tryz.func49, Tryz.ntmps49
         go_wp2
         go_ret
         exact ⟨rfl, (Below.refl _ _).alloc (Nat.le_refl _) _⟩
        ·
         have hbf : b = false := by
          cases b
          ·
           rfl
          ·
           exact absurd (hb.1 rfl) (fun q => by rcases q.2 with r | r; exact hk1 r.1; exact hl r.2.2)
         subst hbf
         have l1 : ¬ x.attrs.length = 0 := fun e => hl (List.eq_nil_of_length_eq_zero e)
         have l0 : ((x.attrs.length : Int) == 0) = false := beq_eq_false_iff_ne.2 (by omega)
         clear hb hl hk1 NAMEE hy0 hy2 hk2
         go_enter Tryz.func49, Tryz.ntmps49
         go_wp2
         go_ret
         exact ⟨rfl, (Below.refl _ _).alloc (Nat.le_refl _) _⟩
       ·
        have hbf : b = false := by
         cases b
         ·
          rfl
         ·
          exact absurd (hb.1 rfl) (fun q => by rcases q.2 with r | r; exact hk1 r.1; exact NAMEE ((Um.empty _).2 r.2.1))
        subst hbf
        have name1 : (x.name.toList == []) = false := beq_eq_false_iff_ne.2 NAMEE
        have name2 : x.name.toList.isEmpty = false := by cases hq : x.name.toList with | nil => exact absurd hq NAMEE | cons _ _ => rfl
        have name3 : ¬ x.name.toList = [] := NAMEE
        clear hb hk1 NAMEE hy0 hy2 hk2
        go_enter Tryz.func49, Tryz.ntmps49
        go_wp2
        go_ret
        exact ⟨rfl, (Below.refl _ _).alloc (Nat.le_refl _) _⟩
      ·
       have k2 : (x.kind == 2) = false := beq_eq_false_iff_ne.2 hk2
       by_cases hk3 : x.kind = 3
       ·
        have k3 : (x.kind == 3) = true := by rw [hk3]; rfl
        by_cases NAMEE : x.name.toList = []
        ·
         have name1 : (x.name.toList == []) = true := by rw [NAMEE]; rfl
         have name2 : x.name.toList.isEmpty = true := by rw [NAMEE]; rfl
         have name3 : x.name.toList = [] := NAMEE
         by_cases hl : x.attrs = []
         ·
          have hbt : b = true := hb.2 ⟨hy2, .inr ⟨.inr hk3, (Um.empty _).1 NAMEE, hl⟩⟩
          subst hbt
          have l1 : x.attrs.length = 0 := by rw [hl]; rfl
          have l0 : ((x.attrs.length : Int) == 0) = true := by rw [hl]; rfl
          clear hb hl hk1 NAMEE hy0 hy2 hk2 hk3
          go_enter Tryz.func49, Tryz.ntmps49
          go_wp2
          go_ret
          exact ⟨rfl, (Below.refl _ _).alloc (Nat.le_refl _) _⟩
         ·
          have hbf : b = false := by
           cases b
           ·
            rfl
           ·
            exact absurd (hb.1 rfl) (fun q => by rcases q.2 with r | r; exact hk1 r.1; exact hl r.2.2)
          subst hbf
          have l1 : ¬ x.attrs.length = 0 := fun e => hl (List.eq_nil_of_length_eq_zero e)
          have l0 : ((x.attrs.length : Int) == 0) = false := beq_eq_false_iff_ne.2 (by omega)
          clear hb hl hk1 NAMEE hy0 hy2 hk2 hk3
          go_enter Tryz.func49, Tryz.ntmps49
          go_wp2
          go_ret
          exact ⟨rfl, (Below.refl _ _).alloc (Nat.le_refl _) _⟩
        ·
         have hbf : b = false := by
          cases b
          ·
           rfl
          ·
           exact absurd (hb.1 rfl) (fun q => by rcases q.2 with r | r; exact hk1 r.1; exact NAMEE ((Um.empty _).2 r.2.1))
         subst hbf
         have name1 : (x.name.toList == []) = false := beq_eq_false_iff_ne.2 NAMEE
         have name2 : x.name.toList.isEmpty = false := by cases hq : x.name.toList with | nil => exact absurd hq NAMEE | cons _ _ => rfl
         have name3 : ¬ x.name.toList = [] := NAMEE
         clear hb hk1 NAMEE hy0 hy2 hk2 hk3
         go_enter Tryz.func49, Tryz.ntmps49
         go_wp2
         go_ret
         exact ⟨rfl, (Below.refl _ _).alloc (Nat.le_refl _) _⟩
       ·
        have hbf : b = false := by
         cases b
         ·
          rfl
         ·
          exact absurd (hb.1 rfl) (fun q => by rcases q.2 with r | r; exact hk1 r.1; omega)
        subst hbf
        have k3 : (x.kind == 3) = false := beq_eq_false_iff_ne.2 hk3
        clear hb hk1 hy0 hy2 hk2 hk3
        go_enter Tryz.func49, Tryz.ntmps49
        go_wp2
        go_ret
        exact ⟨rfl, (Below.refl _ _).alloc (Nat.le_refl _) _⟩
    ·
     have hbf : b = false := by
      cases b
      ·
       rfl
      ·
       exact absurd (hb.1 rfl) (fun q => by omega)
     subst hbf
     have y1 : (y.kind != 1) = true := bne_iff_ne.2 hy1
     clear hb hy1 hy0
     go_enter Tryz.func49, Tryz.ntmps49
     go_wp2
     go_ret
     exact ⟨rfl, (Below.refl _ _).alloc (Nat.le_refl _) _⟩
theorem Nm.nodeMay (ns : List Nd) (a : Option Addr) (d i : Nat) (x : Nd) (R : Nat → Prop) (w : World) (h : Nd.Lies w R ns (.slice a ns.length d)) (hi : ns[i]? = some x) (b : Bool) (hb : b = true ↔ Sk.At ns i x) :
  Calls Tryz.prog 49 #[.slice a ns.length d, .int .i64 (i : Int)] w fun e w' => e = .returned (.bool b) ∧ Below w.heap.size w w' := by
 by_cases h0 : i = 0
 ·
  exact Nm.node0 ns a d i x R w h hi h0 b hb
 ·
  exact Nm.node1 ns a d i x R w h hi (by omega) b hb
set_option maxRecDepth 100000 in
set_option maxHeartbeats 4000000 in
theorem Nm.nodesMay (ns : List Nd) (a : Option Addr) (d : Nat) (w : World) (h : Nd.Lies w (· < w.heap.size) ns (.slice a ns.length d)) :
  Calls Tryz.prog 26 #[.slice a ns.length d] w fun e w' => ∃ b, e = .returned (.bool b) ∧ (b = true ↔ Sk.May ns) ∧ Below w.heap.size w w' := by
 obtain ⟨hlen, hdm⟩ : ns.length ≤ d ∧ d ≤ maxLen := by
  obtain ⟨a', d', e, h1, h2, hx⟩ := h
  injection e with e1 e2 e3
  omega
 have hm63 : ns.length ≤ 9223372036854775807 := by unfold maxLen at hdm; omega
 have H := Lib.hid h
 clear h hdm
 go_enter Tryz.func26, Tryz.ntmps26
 go_wp2_with fail
 go_loopw [3] (fun ix wr => ∃ i : Nat, i ≤ ns.length ∧ ix = .int .i64 (i : Int) ∧ Hid (∀ j x, j < i → ns[j]? = some x → Sk.At ns j x) ∧ Hid (Below w.heap.size w wr)) (fun ix _ => ns.length - (intOf ix).toNat)
 case atStart => exact ⟨0, Nat.zero_le _, rfl, (fun _ _ q _ => absurd q (Nat.not_lt_zero _)), Below.refl _ _⟩
 case round =>
  obtain ⟨i, hi, rfl, HM, HB⟩ := hrel
  by_cases hlt : i < ns.length
  ·
   have d1 : decide ((i : Int) < (ns.length : Int)) = true := decide_eq_true (by omega)
   obtain ⟨x, hx⟩ : ∃ x, ns[i]? = some x := ⟨_, List.getElem?_eq_getElem hlt⟩
   have HX := Lib.hid hx
   have nm := fun b hb => Nm.nodeMay ns a d i x (· < w.heap.size) wr (H.out.on fun k hk => ⟨hk, HB.out.block k hk⟩) hx b hb
   clear hx
   by_cases hat : Sk.At ns i x
   ·
    have nm := nm true ⟨fun _ => hat, fun _ => rfl⟩
    have HM2 : Hid (∀ j y, j < i + 1 → ns[j]? = some y → Sk.At ns j y) := fun j y hj hy => by
     by_cases e : j = i
     ·
      subst e
      rw [HX.out] at hy
      injection hy with hy
      rw [← hy]
      exact hat
     ·
      exact HM.out j y (by omega) hy
    clear hat
    go_wp2_with (go_at_call 49; refine nm.mono ?_; rintro e w2 ⟨rfl, hb2⟩; have HB2 := Lib.hid (HB.out.trans (hb2.mono HB.out.size)); clear nm hb2)
    go_roundw
    case rel => exact ⟨i + 1, by omega, by go_num, HM2, HB2⟩
    case measure => simp [intOf]; omega
   ·
    have nm := nm false ⟨(fun q => by cases q), fun q => absurd q hat⟩
    have HAT := Lib.hid hat
    clear hat
    go_wp2_with (go_at_call 49; refine nm.mono ?_; rintro e w2 ⟨rfl, hb2⟩; have HB2 := Lib.hid (HB.out.trans (hb2.mono HB.out.size)); clear nm hb2)
    go_ret
    exact ⟨false, rfl, ⟨(fun q => by cases q), fun q => absurd (q.2 i x HX.out) HAT.out⟩, HB2.out⟩
  ·
   have e : i = ns.length := by omega
   subst e
   have d1 : decide ((ns.length : Int) < (ns.length : Int)) = false := decide_eq_false (by omega)
   have HALL : Hid (∀ j x, ns[j]? = some x → Sk.At ns j x) := fun j x hx => HM.out j x (List.getElem?_eq_some_iff.1 hx).1 hx
   clear HM
   by_cases h0 : 0 < ns.length
   ·
    have d2 : decide ((0 : Int) < (ns.length : Int)) = true := decide_eq_true (by omega)
    have HP := Lib.hid h0
    go_wp2
    go_ret
    exact ⟨true, rfl, ⟨fun _ => ⟨HP.out, HALL.out⟩, fun _ => rfl⟩, HB.out⟩
   ·
    have d2 : decide ((0 : Int) < (ns.length : Int)) = false := decide_eq_false (by omega)
    have HP := Lib.hid h0
    go_wp2
    go_ret
    exact ⟨false, rfl, ⟨(fun q => by cases q), fun q => absurd q.1 HP.out⟩, HB.out⟩
def St.Lies (w : World) (R : Nat → Prop) (ss : List ByteArray) (v : Value) : Prop :=
 ∃ a d, v = .slice a ss.length d ∧ ss.length ≤ d ∧ d ≤ maxLen ∧ ∀ i s, ss[i]? = some s → ∃ b o, a = some ⟨b, o, none⟩ ∧ R b ∧ w.cell? ⟨b, o + i, none⟩ = some (.string s)
theorem St.Lies.on {w w' : World} {R R' : Nat → Prop} {ss : List ByteArray} {v : Value} (h : St.Lies w R ss v) (hR : ∀ k, R k → R' k ∧ w'.heap[k]? = w.heap[k]?) : St.Lies w' R' ss v := by
 obtain ⟨a, d, e, h1, h2, hx⟩ := h
 refine ⟨a, d, e, h1, h2, fun i s hi => ?_⟩
 obtain ⟨b, o, ea, hb, c⟩ := hx i s hi
 exact ⟨b, o, ea, (hR b hb).1, (World.cell?_of_block (a := ⟨b, o + i, none⟩) (hR b hb).2).trans c⟩
def St.cells (ss : List ByteArray) : List Value := ss.map fun s => Value.string s
theorem St.own {w : World} {base : Nat} {ss : List ByteArray} {v : Value} (h : w.ownsRow base 9 1 v ss.length (St.cells ss)) : St.Lies w (fun k => base ≤ k ∧ k < w.heap.size) ss v := by
 have hlt := h.lt
 have hc := fun g hg => h.cells (g := g) hg
 rcases h.2 with ⟨rfl, hn⟩ | ⟨g, cap, cur, rfl, hbg, hg, hnc, hcm, hcs, htake⟩
 ·
  have : ss = [] := List.eq_nil_of_length_eq_zero hn
  subst this
  exact ⟨none, 0, rfl, Nat.le_refl _, Nat.zero_le _, fun j x h => by simp at h⟩
 ·
  refine ⟨some ⟨g, 0, none⟩, cap, rfl, hnc, hcm, fun i s hi => ⟨g, 0, rfl, hlt g rfl, ?_⟩⟩
  have := hc g rfl i (.string s) (by unfold St.cells; rw [List.getElem?_map, hi]; rfl)
  rw [Ro.add] at this
  exact this
theorem St.info : (Tryz.prog.info? 9).map (fun i => (i.zero, i.size, i.bytes)) = some (some (.string ⟨#[]⟩), 1, 16) := by kernel_rfl
theorem St.one_str (W : World) (s : ByteArray) (g1 : Nat) (h : g1 = W.heap.size) : ∀ j u, [Value.string s][j]? = some u → (W.alloc (.cells #[.string s] 9)).cell? ⟨g1, j, none⟩ = some u := by
 subst h
 intro j u hj
 unfold World.cell?
 rw [show (W.alloc (.cells #[.string s] 9)).heap[W.heap.size]? = some _ from heap_alloc_new W _]
 simpa using hj
theorem Sk.texts_take (ns : List Nd) (i : Nat) (x : Nd) (hi : ns[i]? = some x) : Sk.texts (ns.take (i + 1)) = Sk.texts (ns.take i) ++ (if x.kind = 2 then [x.text] else []) := by
 have hl := (List.getElem?_eq_some_iff.1 hi).1
 have hx : ns[i] = x := (List.getElem?_eq_some_iff.1 hi).2
 unfold Sk.texts
 rw [List.take_succ_eq_append_getElem hl, List.filterMap_append, hx]
 congr 1
 by_cases c : x.kind = 2
 ·
  simp [c]
 ·
  simp [c]
theorem Sk.texts_len (ns : List Nd) : (Sk.texts ns).length ≤ ns.length := by
 unfold Sk.texts
 exact List.length_filterMap_le _ _
set_option maxRecDepth 100000 in
set_option maxHeartbeats 4000000 in
theorem Nm.texts (ns : List Nd) (a : Option Addr) (d : Nat) (w : World) (h : Nd.Lies w (· < w.heap.size) ns (.slice a ns.length d)) (hs : (ns.length + 1) * 16 ≤ 140737488355328) :
  Calls Tryz.prog 12 #[.slice a ns.length d] w fun e w' => Below w.heap.size w w' ∧ ((¬ Sk.May ns ∧ e = .returned (.tuple #[.slice none 0 0, .int .i64 800])) ∨ (Sk.May ns ∧ ∃ v, e = .returned (.tuple #[v, .int .i64 0]) ∧ St.Lies w' (fun k => w.heap.size ≤ k ∧ k < w'.heap.size) (Sk.texts ns) v)) := by
 have nm := Nm.nodesMay ns a d w h
 obtain ⟨hlen, hdm⟩ : ns.length ≤ d ∧ d ≤ maxLen := by
  obtain ⟨a', d', e, h1, h2, hx⟩ := h
  injection e with e1 e2 e3
  omega
 have hm63 : ns.length ≤ 9223372036854775807 := by unfold maxLen at hdm; omega
 have H := Lib.hid h
 clear h hdm
 by_cases hmay : Sk.May ns
 ·
  have HMAY := Lib.hid hmay
  clear hmay
  go_enter Tryz.func12, Tryz.ntmps12
  go_upto_region 3 with (go_at_call 26; refine nm.mono ?_; rintro e w1 ⟨b, rfl, hb, hb1⟩; have hbt := hb.2 HMAY.out; subst hbt; clear nm hb; have HB1 := Lib.hid hb1; clear hb1)
  go_wp2_with fail
  go_loopw [4, 5] (fun ov ix wr => ∃ i : Nat, i ≤ ns.length ∧ ix = .int .i64 (i : Int) ∧ Hid (wr.ownsRow w.heap.size 9 1 ov (Sk.texts (ns.take i)).length (St.cells (Sk.texts (ns.take i)))) ∧ Hid (Below w.heap.size w wr)) (fun _ ix _ => ns.length - (intOf ix).toNat)
  case atStart => exact ⟨0, Nat.zero_le _, rfl, World.ownsRow_nil _ _ _ _, HB1.out⟩
  case round =>
   clear HB1
   obtain ⟨i, hi, rfl, HO, HB⟩ := hrel
   obtain ⟨oa, od, hoa⟩ := Um.form HO.out
   subst hoa
   by_cases hlt : i < ns.length
   ·
    have d1 : decide ((i : Int) < (ns.length : Int)) = true := decide_eq_true (by omega)
    obtain ⟨x, hx⟩ : ∃ x, ns[i]? = some x := ⟨_, List.getElem?_eq_getElem hlt⟩
    have HL : Hid (Nd.Lies wr (· < w.heap.size) ns (.slice a ns.length d)) := H.out.on fun k hk => ⟨hk, HB.out.block k hk⟩
    obtain ⟨bb, oo, aa, ad, rfl, _, _, _, c0, c1, c2, c3, c4, _, _⟩ := Nm.cells HL.out hx
    have hid : i < d := by omega
    have HT := Lib.hid (Sk.texts_take ns i x hx)
    have hbw := HB.out.size
    have HN : Hid ((Sk.texts (ns.take i)).length ≤ ns.length) := Nat.le_trans (Sk.texts_len _) (by rw [List.length_take]; omega)
    clear hx HL c1 c3 c4
    generalize Sk.texts (ns.take i) = ts at *
    by_cases hk : x.kind = 2
    ·
     have k1 : (x.kind == 2) = true := by rw [hk]; rfl
     rw [if_pos hk] at HT
     have HN2 : Hid (ts.length + 1 ≤ maxLen ∧ (ts.length + 1) * 16 ≤ 140737488355328) := ⟨by have := HN.out; unfold maxLen; omega, by have := HN.out; omega⟩
     clear hk
     go_wp2_with (at_builtin; refine Ro.push rfl _ _ 32 9 1 16 _ rfl Tryz.underlying32 St.info rfl (by decide) _ rfl (HO.out.alloc _) wr.heap.size [.string x.text] rfl (St.one_str _ _ _ rfl) rfl (by simp [Value.oneCell']) HN2.out.1 HN2.out.2 (by simp; omega) ?_; intro v5 w5 R5 hg5 hf5; have HO5 : Hid (w5.ownsRow w.heap.size 9 1 v5 (Sk.texts (ns.take (i + 1))).length (St.cells (Sk.texts (ns.take (i + 1))))) := (by unfold Hid; rw [HT.out]; unfold St.cells; rw [List.map_append, List.length_append]; exact R5); have HB5 : Hid (Below w.heap.size w w5) := (HB.out.alloc hbw _).grown hg5 (by simp; omega) (fun k hk => (HO.out.lt k hk).1); clear R5 hg5 hf5)
     go_roundw
     case rel => exact ⟨i + 1, by omega, by go_num, HO5, HB5⟩
     case measure => simp [intOf]; omega
    ·
     have k1 : (x.kind == 2) = false := beq_eq_false_iff_ne.2 hk
     rw [if_neg hk, List.append_nil] at HT
     have HO2 : Hid (wr.ownsRow w.heap.size 9 1 (.slice oa ts.length od) (Sk.texts (ns.take (i + 1))).length (St.cells (Sk.texts (ns.take (i + 1))))) := by unfold Hid; rw [HT.out]; exact HO.out
     clear hk
     go_wp2
     go_roundw
     case rel => exact ⟨i + 1, by omega, by go_num, HO2, HB⟩
     case measure => simp [intOf]; omega
   ·
    have e : i = ns.length := by omega
    subst e
    have d1 : decide ((ns.length : Int) < (ns.length : Int)) = false := decide_eq_false (by omega)
    have HL := Lib.hid (St.own HO.out)
    go_wp2
    go_ret2
    refine ⟨HB.out, .inr ⟨HMAY.out, _, rfl, ?_⟩⟩
    have := HL.out
    rw [List.take_length] at this
    rw [List.take_length]
    exact this
 ·
  have HMAY := Lib.hid hmay
  clear hmay
  go_enter Tryz.func12, Tryz.ntmps12
  go_wp2_with (go_at_call 26; refine nm.mono ?_; rintro e w1 ⟨b, rfl, hb, hb1⟩; have hbf : b = false := (by cases b; rfl; exact absurd (hb.1 rfl) HMAY.out); subst hbf; clear nm hb; have HB1 := Lib.hid hb1; clear hb1)
  go_ret2
  exact ⟨HB1.out, .inl ⟨HMAY.out, rfl⟩⟩
def Pb.flush (m : Bt) (bs : ByteArray) : Bt := if bs.size = 0 then m else { m with out := m.out.set m.last { m.nth m.last with text := bs } }
def Pb.take (m : Bt) (bs : ByteArray) (t : Tk) : Bt × ByteArray :=
 if t.kind = 0 then
  if t.text = Ts.e then (m, bs)
  else if (m.nth m.last).kind = 2 ∧ (m.nth m.last).parent = (m.top : Int) then (m, bs ++ t.text)
  else ((Pb.flush m bs).node ⟨2, Ts.e, Ts.e, [], 0⟩, Ts.e ++ t.text)
 else if t.kind = 3 then ((Pb.flush m bs).node ⟨3, Ts.e, t.text, [], 0⟩, Ts.e)
 else if t.kind = 1 then
  if Ts.kind t.name ≠ 1 ∧ m.opn.length ≤ 32 then ({ (Pb.flush m bs).node ⟨1, t.name, Ts.e, t.attrs, 0⟩ with opn := m.opn ++ [m.out.length] }, Ts.e)
  else ((Pb.flush m bs).node ⟨1, t.name, Ts.e, t.attrs, 0⟩, Ts.e)
 else if t.kind = 2 then
  if m.find t.name m.opn.length = 0 then (m, bs) else ({ m with opn := m.opn.take (m.find t.name m.opn.length) }, bs)
 else (m, bs)
theorem Pb.flush_len (m : Bt) (bs : ByteArray) : (Pb.flush m bs).out.length = m.out.length := by
 unfold Pb.flush
 split
 ·
  rfl
 ·
  exact List.length_set
theorem Pb.flush_opn (m : Bt) (bs : ByteArray) : (Pb.flush m bs).opn = m.opn := by
 unfold Pb.flush
 split <;> rfl
theorem Pb.flush_top (m : Bt) (bs : ByteArray) : (Pb.flush m bs).top = m.top := by unfold Bt.top; rw [Pb.flush_opn]
theorem Pb.flush_last (m : Bt) (bs : ByteArray) : (Pb.flush m bs).last = m.last := by unfold Bt.last; rw [Pb.flush_len]
theorem Pb.flush_none (m : Bt) : Pb.flush m Ts.e = m := if_pos rfl
theorem Pb.size_ne {s : ByteArray} (h : ¬ s = Ts.e) : ¬ s.size = 0 := fun e => h (by
 apply ByteArray.ext
 exact Array.eq_empty_of_size_eq_zero e)
theorem Pb.e_append (s : ByteArray) : Ts.e ++ s = s := by
 apply ByteArray.ext
 simp [ByteArray.data_append, Ts.e]
theorem Pb.nth_last {m : Bt} (h : 0 < m.out.length) : m.out[m.last]? = some (m.nth m.last) := by
 unfold Bt.nth Bt.last
 rw [List.getElem?_eq_getElem (by omega)]
 rfl
theorem Pb.flush_nth (m : Bt) (bs : ByteArray) (h : 0 < m.out.length) (i : Nat) : (Pb.flush m bs).nth i = if i = m.last ∧ ¬ bs.size = 0 then { m.nth m.last with text := bs } else m.nth i := by
 unfold Pb.flush
 split
 ·
  next q => rw [if_neg (fun r => r.2 q)]
 ·
  next q =>
  unfold Bt.nth
  show ((m.out.set m.last _)[i]?).getD Nd.zero = _
  by_cases e : i = m.last
  ·
   subst e
   rw [if_pos ⟨rfl, q⟩, List.getElem?_set_self (by unfold Bt.last; omega)]
   rfl
  ·
   rw [if_neg (fun r => e r.1), List.getElem?_set_ne (fun r => e r.symm)]
theorem Pb.flush_name (m : Bt) (bs : ByteArray) (h : 0 < m.out.length) (i : Nat) : ((Pb.flush m bs).nth i).name = (m.nth i).name ∧ ((Pb.flush m bs).nth i).kind = (m.nth i).kind ∧ ((Pb.flush m bs).nth i).parent = (m.nth i).parent := by
 rw [Pb.flush_nth m bs h]
 split
 ·
  next q => rw [q.1]; exact ⟨rfl, rfl, rfl⟩
 ·
  exact ⟨rfl, rfl, rfl⟩
theorem Pb.flush_find (m : Bt) (bs : ByteArray) (h : 0 < m.out.length) (n : ByteArray) : ∀ k, (Pb.flush m bs).find n k = m.find n k
 | 0 => rfl
 | k + 1 => by
  unfold Bt.find
  rw [Pb.flush_opn, (Pb.flush_name m bs h _).1, Pb.flush_find m bs h n k]
structure Pb.Sim (m r : Bt) (bs : ByteArray) : Prop where
 eq : Pb.flush r bs = m
 ok : Bt.Ok r
 held : (r.nth r.last).kind = 2 → ¬ bs = Ts.e
theorem Pb.Sim.len {m r : Bt} {bs : ByteArray} (h : Pb.Sim m r bs) : m.out.length = r.out.length := by rw [← h.eq, Pb.flush_len]
theorem Pb.Sim.start : Pb.Sim Bt.start Bt.start Ts.e := ⟨Pb.flush_none _, Bt.Ok.start, fun h => absurd h (by decide)⟩
theorem Pb.Ok.flush {m : Bt} (h : Bt.Ok m) (bs : ByteArray) : Bt.Ok (Pb.flush m bs) := ⟨by rw [Pb.flush_len]; exact h.some, by rw [Pb.flush_opn]; exact h.opn, by rw [Pb.flush_opn, Pb.flush_len]; exact h.lt, by rw [Pb.flush_opn]; exact h.few⟩
theorem Pb.node_last (m : Bt) (x : Nd) : (m.node x).last = m.out.length ∧ (m.node x).nth (m.node x).last = { x with parent := (m.top : Int) } := by
 have e : (m.node x).last = m.out.length := by
  show (m.out ++ [_]).length - 1 = _
  rw [List.length_append]
  simp
 refine ⟨e, ?_⟩
 rw [e]
 unfold Bt.nth Bt.node
 show ((m.out ++ [_])[m.out.length]?).getD Nd.zero = _
 rw [List.getElem?_append_right (Nat.le_refl _), Nat.sub_self]
 rfl
theorem Pb.set_last (l : List Nd) (x y : Nd) : (l ++ [x]).set l.length y = l ++ [y] := by
 rw [List.set_append_right _ _ (Nat.le_refl _), Nat.sub_self]
 rfl
theorem Pb.node_flush (m : Bt) (x : Nd) {s : ByteArray} (h : ¬ s.size = 0) : Pb.flush (m.node x) s = m.node { x with text := s } := by
 unfold Pb.flush
 rw [if_neg h, (Pb.node_last m x).2, (Pb.node_last m x).1]
 unfold Bt.node
 show ({ out := (m.out ++ [_]).set m.out.length _, opn := m.opn } : Bt) = _
 rw [Pb.set_last]
theorem Pb.Sim.take {m r : Bt} {bs : ByteArray} (h : Pb.Sim m r bs) (t : Tk) : Pb.Sim (m.token t) (Pb.take r bs t).1 (Pb.take r bs t).2 := by
 obtain ⟨rfl, hok, hheld⟩ := h
 have hl := hok.some
 have hn := Pb.flush_name r bs hl
 have hN : ∀ x : Nd, ¬ x.kind = 2 → Pb.Sim ((Pb.flush r bs).node x) ((Pb.flush r bs).node x) Ts.e := fun x hx => ⟨Pb.flush_none _, (Pb.Ok.flush hok bs).node x, fun e => absurd (by rw [(Pb.node_last _ x).2] at e; exact e) hx⟩
 unfold Bt.token Pb.take
 by_cases k0 : t.kind = 0
 ·
  rw [if_pos k0, if_pos k0]
  by_cases hx : t.text = Ts.e
  ·
   rw [if_pos hx, if_pos hx]
   exact ⟨rfl, hok, hheld⟩
  ·
   rw [if_neg hx, if_neg hx, Pb.flush_last, (hn r.last).2.1, (hn r.last).2.2, Pb.flush_top]
   by_cases hq : (r.nth r.last).kind = 2 ∧ (r.nth r.last).parent = (r.top : Int)
   ·
    rw [if_pos hq, if_pos hq]
    have hb := hheld hq.1
    refine ⟨?_, hok, fun _ e => hx ?_⟩
    ·
     show Pb.flush r (bs ++ t.text) = (Pb.flush r bs).put t.text
     unfold Bt.put
     rw [Pb.flush_last, Pb.flush_nth r bs hl, if_pos ⟨rfl, Pb.size_ne hb⟩]
     unfold Pb.flush
     rw [if_neg (Pb.size_ne hb), if_neg (by rw [ByteArray.size_append]; have := Pb.size_ne hb; omega)]
     show _ = ({ out := (r.out.set _ _).set _ _, opn := _ } : Bt)
     rw [List.set_set]
    ·
     have e2 : (bs ++ t.text).size = 0 := by rw [show bs ++ t.text = Ts.e from e]; rfl
     rw [ByteArray.size_append] at e2
     exact absurd (show bs.size = 0 by omega) (Pb.size_ne hb)
   ·
    rw [if_neg hq, if_neg hq]
    refine ⟨?_, (Pb.Ok.flush hok bs).node _, fun _ e => hx (by rw [← Pb.e_append t.text]; exact e)⟩
    show Pb.flush ((Pb.flush r bs).node _) (Ts.e ++ t.text) = _
    rw [Pb.e_append, Pb.node_flush _ _ (Pb.size_ne hx)]
 rw [if_neg k0, if_neg k0]
 by_cases k3 : t.kind = 3
 ·
  rw [if_pos k3, if_pos k3]
  exact hN _ (show ¬ (3 : Int) = 2 by decide)
 rw [if_neg k3, if_neg k3]
 by_cases k1 : t.kind = 1
 ·
  rw [if_pos k1, if_pos k1, Pb.flush_opn, Pb.flush_len]
  by_cases hq : Ts.kind t.name ≠ 1 ∧ r.opn.length ≤ 32
  ·
   rw [if_pos hq, if_pos hq]
   refine ⟨Pb.flush_none _, ?_, fun e => absurd (by
    have e2 := (Pb.node_last (Pb.flush r bs) ⟨1, t.name, Ts.e, t.attrs, 0⟩).2
    have e3 : (((Pb.flush r bs).node ⟨1, t.name, Ts.e, t.attrs, 0⟩).nth ((Pb.flush r bs).node ⟨1, t.name, Ts.e, t.attrs, 0⟩).last).kind = 2 := e
    rw [e2] at e3
    exact e3) (by decide : ¬ ((1 : Int) = 2))⟩
   have := (Pb.Ok.flush hok bs).token t
   unfold Bt.token at this
   rw [if_neg k0, if_neg k3, if_pos k1, Pb.flush_opn, Pb.flush_len, if_pos hq] at this
   exact this
  ·
   rw [if_neg hq, if_neg hq]
   exact hN _ (show ¬ (1 : Int) = 2 by decide)
 rw [if_neg k1, if_neg k1]
 by_cases k2 : t.kind = 2
 ·
  rw [if_pos k2, if_pos k2, Pb.flush_opn, Pb.flush_find r bs hl]
  by_cases hf : r.find t.name r.opn.length = 0
  ·
   rw [if_pos hf, if_pos hf]
   exact ⟨rfl, hok, hheld⟩
  ·
   rw [if_neg hf, if_neg hf]
   refine ⟨?_, ?_, hheld⟩
   ·
    unfold Pb.flush
    split
    ·
     rfl
    ·
     rfl
   ·
    have := hok.token t
    unfold Bt.token at this
    rw [if_neg k0, if_neg k3, if_neg k1, if_pos k2, if_neg hf] at this
    exact this
 ·
  rw [if_neg k2, if_neg k2]
  exact ⟨rfl, hok, hheld⟩
theorem Pb.take_bulk (r : Bt) (bs : ByteArray) (t : Tk) : (Pb.take r bs t).2.size ≤ bs.size + t.text.size := by
 unfold Pb.take
 repeat' split
 all_goals first | exact Nat.le_add_right _ _ | (rw [ByteArray.size_append]; exact Nat.le_refl _) | (rw [Pb.e_append]; exact Nat.le_add_left _ _) | exact Nat.zero_le _
end Go.Proofs.YtblpkjlodncpeaaGreatDoor

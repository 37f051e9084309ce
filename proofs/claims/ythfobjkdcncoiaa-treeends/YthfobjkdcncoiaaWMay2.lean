/-
  THE WALK of the program's mayBe.
-/
import Derived.Test.YthfobjkdcncoiaaWMay
namespace Go.Proofs.Ythfobjkdcncoiaa
open Go.RowKit
theorem Pg.liesAll {w : World} {R : Nat → Prop} {al : List (ByteArray × ByteArray)} {v : Value} (h : Ak.Lies w R al v) : Ak.Lies w (· < w.heap.size) al v := by
  obtain ⟨a', d', e, h1, h2, hx⟩ := h
  refine ⟨a', d', e, h1, h2, fun j x hj => ?_⟩
  obtain ⟨b', o', e', _, c1, c2⟩ := hx j x hj
  exact ⟨b', o', e', World.block_lt_of_cell? _ _ c1, c1, c2⟩
set_option maxRecDepth 100000 in
set_option maxHeartbeats 4000000 in
theorem Pg.mayBe0 (t : Tk) (a : Option Addr) (d : Nat) (R : Nat → Prop) (w : World) (h : Ak.Lies w R t.attrs (.slice a t.attrs.length d)) (hk : t.kind = 0) (b : Bool) (hb : b = true ↔ t.name = Ts.e ∧ t.attrs = [] ∧ t.self = false) :
    Calls Try.prog 19 #[.agg #[.int .i64 t.kind, .string t.name, .string t.text, .slice a t.attrs.length d, .bool t.self]] w fun e w' => e = .returned (.bool b) ∧ Below w.heap.size w w' := by
  have hm : t.attrs.length ≤ 9223372036854775807 := by
    obtain ⟨a', d', e, l1, m1, x1⟩ := h
    injection e with e1 e2 e3
    unfold maxLen at m1
    omega
  clear h
  have k1 : (t.kind == 1) = false := by rw [hk]; rfl
  have k2 : (t.kind == 2) = false := by rw [hk]; rfl
  have k0 : (t.kind == 0) = true := by rw [hk]; rfl
  clear hk
  by_cases NAMEE : t.name.toList = []
  · by_cases hl : t.attrs = []
    · have hbb : b = !t.self := by
        rw [Bool.eq_iff_iff, hb]
        simp [(Um.empty t.name).1 NAMEE, hl]
      subst hbb
      have l0 : ((t.attrs.length : Int) == 0) = true := by rw [hl]; rfl
      have l1 : t.attrs.length = 0 := by rw [hl]; rfl
      have name1 : (t.name.toList == []) = true := by rw [NAMEE]; rfl
      have name2 : t.name.toList.isEmpty = true := by rw [NAMEE]; rfl
      have name3 : t.name.toList = [] := NAMEE
      have name4 : (t.name.toList != []) = false := by rw [bne, name1]; rfl
      clear hb hl NAMEE
      cases hs : t.self
      all_goals
        go_enter Try.func19, Try.ntmps19
        go_wp2
        go_ret
        exact ⟨rfl, (Below.refl _ _).alloc (Nat.le_refl _) _⟩
    · have l1 : ¬ t.attrs.length = 0 := fun e => hl (List.eq_nil_of_length_eq_zero e)
      have l0 : ((t.attrs.length : Int) == 0) = false := beq_eq_false_iff_ne.2 (by omega)
      have hbb : b = false := by
        cases b
        · rfl
        · exact absurd (hb.1 rfl).2.1 hl
      subst hbb
      have name1 : (t.name.toList == []) = true := by rw [NAMEE]; rfl
      have name2 : t.name.toList.isEmpty = true := by rw [NAMEE]; rfl
      have name3 : t.name.toList = [] := NAMEE
      have name4 : (t.name.toList != []) = false := by rw [bne, name1]; rfl
      clear hb hl NAMEE
      go_enter Try.func19, Try.ntmps19
      go_wp2
      go_ret
      exact ⟨rfl, (Below.refl _ _).alloc (Nat.le_refl _) _⟩
  · have hbb : b = false := by
      cases b
      · rfl
      · exact absurd ((Um.empty _).2 (hb.1 rfl).1) NAMEE
    subst hbb
    have name1 : (t.name.toList == []) = false := beq_eq_false_iff_ne.2 NAMEE
    have name2 : t.name.toList.isEmpty = false := by cases hq : t.name.toList with | nil => exact absurd hq NAMEE | cons _ _ => rfl
    have name3 : ¬ t.name.toList = [] := NAMEE
    have name4 : (t.name.toList != []) = true := by rw [bne, name1]; rfl
    clear hb NAMEE
    go_enter Try.func19, Try.ntmps19
    go_wp2
    go_ret
    exact ⟨rfl, (Below.refl _ _).alloc (Nat.le_refl _) _⟩
set_option maxRecDepth 100000 in
set_option maxHeartbeats 4000000 in
theorem Pg.mayBe3 (t : Tk) (a : Option Addr) (d : Nat) (R : Nat → Prop) (w : World) (h : Ak.Lies w R t.attrs (.slice a t.attrs.length d)) (hk : t.kind = 3) (b : Bool) (hb : b = true ↔ t.name = Ts.e ∧ t.attrs = [] ∧ t.self = false) :
    Calls Try.prog 19 #[.agg #[.int .i64 t.kind, .string t.name, .string t.text, .slice a t.attrs.length d, .bool t.self]] w fun e w' => e = .returned (.bool b) ∧ Below w.heap.size w w' := by
  have hm : t.attrs.length ≤ 9223372036854775807 := by
    obtain ⟨a', d', e, l1, m1, x1⟩ := h
    injection e with e1 e2 e3
    unfold maxLen at m1
    omega
  clear h
  have k1 : (t.kind == 1) = false := by rw [hk]; rfl
  have k2 : (t.kind == 2) = false := by rw [hk]; rfl
  have k0 : (t.kind == 0) = false := by rw [hk]; rfl
  have k3 : (t.kind == 3) = true := by rw [hk]; rfl
  clear hk
  by_cases NAMEE : t.name.toList = []
  · by_cases hl : t.attrs = []
    · have hbb : b = !t.self := by
        rw [Bool.eq_iff_iff, hb]
        simp [(Um.empty t.name).1 NAMEE, hl]
      subst hbb
      have l0 : ((t.attrs.length : Int) == 0) = true := by rw [hl]; rfl
      have l1 : t.attrs.length = 0 := by rw [hl]; rfl
      have name1 : (t.name.toList == []) = true := by rw [NAMEE]; rfl
      have name2 : t.name.toList.isEmpty = true := by rw [NAMEE]; rfl
      have name3 : t.name.toList = [] := NAMEE
      have name4 : (t.name.toList != []) = false := by rw [bne, name1]; rfl
      clear hb hl NAMEE
      cases hs : t.self
      all_goals
        go_enter Try.func19, Try.ntmps19
        go_wp2
        go_ret
        exact ⟨rfl, (Below.refl _ _).alloc (Nat.le_refl _) _⟩
    · have l1 : ¬ t.attrs.length = 0 := fun e => hl (List.eq_nil_of_length_eq_zero e)
      have l0 : ((t.attrs.length : Int) == 0) = false := beq_eq_false_iff_ne.2 (by omega)
      have hbb : b = false := by
        cases b
        · rfl
        · exact absurd (hb.1 rfl).2.1 hl
      subst hbb
      have name1 : (t.name.toList == []) = true := by rw [NAMEE]; rfl
      have name2 : t.name.toList.isEmpty = true := by rw [NAMEE]; rfl
      have name3 : t.name.toList = [] := NAMEE
      have name4 : (t.name.toList != []) = false := by rw [bne, name1]; rfl
      clear hb hl NAMEE
      go_enter Try.func19, Try.ntmps19
      go_wp2
      go_ret
      exact ⟨rfl, (Below.refl _ _).alloc (Nat.le_refl _) _⟩
  · have hbb : b = false := by
      cases b
      · rfl
      · exact absurd ((Um.empty _).2 (hb.1 rfl).1) NAMEE
    subst hbb
    have name1 : (t.name.toList == []) = false := beq_eq_false_iff_ne.2 NAMEE
    have name2 : t.name.toList.isEmpty = false := by cases hq : t.name.toList with | nil => exact absurd hq NAMEE | cons _ _ => rfl
    have name3 : ¬ t.name.toList = [] := NAMEE
    have name4 : (t.name.toList != []) = true := by rw [bne, name1]; rfl
    clear hb NAMEE
    go_enter Try.func19, Try.ntmps19
    go_wp2
    go_ret
    exact ⟨rfl, (Below.refl _ _).alloc (Nat.le_refl _) _⟩
set_option maxRecDepth 100000 in
set_option maxHeartbeats 4000000 in
theorem Pg.mayBe2 (t : Tk) (a : Option Addr) (d : Nat) (R : Nat → Prop) (w : World) (h : Ak.Lies w R t.attrs (.slice a t.attrs.length d)) (hk : t.kind = 2) (b : Bool) (hb : b = true ↔ t.name ≠ Ts.e ∧ t.text = Ts.e ∧ t.attrs = [] ∧ t.self = false) :
    Calls Try.prog 19 #[.agg #[.int .i64 t.kind, .string t.name, .string t.text, .slice a t.attrs.length d, .bool t.self]] w fun e w' => e = .returned (.bool b) ∧ Below w.heap.size w w' := by
  have hm : t.attrs.length ≤ 9223372036854775807 := by
    obtain ⟨a', d', e, l1, m1, x1⟩ := h
    injection e with e1 e2 e3
    unfold maxLen at m1
    omega
  clear h
  have k1 : (t.kind == 1) = false := by rw [hk]; rfl
  have k2 : (t.kind == 2) = true := by rw [hk]; rfl
  clear hk
  by_cases NAMEE : t.name.toList = []
  · have hbb : b = false := by
      cases b
      · rfl
      · exact absurd ((Um.empty _).1 NAMEE) (hb.1 rfl).1
    subst hbb
    have name1 : (t.name.toList == []) = true := by rw [NAMEE]; rfl
    have name2 : t.name.toList.isEmpty = true := by rw [NAMEE]; rfl
    have name3 : t.name.toList = [] := NAMEE
    have name4 : (t.name.toList != []) = false := by rw [bne, name1]; rfl
    clear hb NAMEE
    go_enter Try.func19, Try.ntmps19
    go_wp2
    go_ret
    exact ⟨rfl, (Below.refl _ _).alloc (Nat.le_refl _) _⟩
  have name1 : (t.name.toList == []) = false := beq_eq_false_iff_ne.2 NAMEE
  have name2 : t.name.toList.isEmpty = false := by cases hq : t.name.toList with | nil => exact absurd hq NAMEE | cons _ _ => rfl
  have name3 : ¬ t.name.toList = [] := NAMEE
  have name4 : (t.name.toList != []) = true := by rw [bne, name1]; rfl
  by_cases TEXTE : t.text.toList = []
  · by_cases hl : t.attrs = []
    · have hbb : b = !t.self := by
        rw [Bool.eq_iff_iff, hb]
        have hne : ¬ t.name = Ts.e := fun e => NAMEE ((Um.empty _).2 e)
        simp [(Um.empty t.text).1 TEXTE, hl, hne]
      subst hbb
      have l0 : ((t.attrs.length : Int) == 0) = true := by rw [hl]; rfl
      have l1 : t.attrs.length = 0 := by rw [hl]; rfl
      have text1 : (t.text.toList == []) = true := by rw [TEXTE]; rfl
      have text2 : t.text.toList.isEmpty = true := by rw [TEXTE]; rfl
      have text3 : t.text.toList = [] := TEXTE
      have text4 : (t.text.toList != []) = false := by rw [bne, text1]; rfl
      clear hb hl NAMEE TEXTE
      cases hs : t.self
      all_goals
        go_enter Try.func19, Try.ntmps19
        go_wp2
        go_ret
        exact ⟨rfl, (Below.refl _ _).alloc (Nat.le_refl _) _⟩
    · have l1 : ¬ t.attrs.length = 0 := fun e => hl (List.eq_nil_of_length_eq_zero e)
      have l0 : ((t.attrs.length : Int) == 0) = false := beq_eq_false_iff_ne.2 (by omega)
      have hbb : b = false := by
        cases b
        · rfl
        · exact absurd (hb.1 rfl).2.2.1 hl
      subst hbb
      have text1 : (t.text.toList == []) = true := by rw [TEXTE]; rfl
      have text2 : t.text.toList.isEmpty = true := by rw [TEXTE]; rfl
      have text3 : t.text.toList = [] := TEXTE
      have text4 : (t.text.toList != []) = false := by rw [bne, text1]; rfl
      clear hb hl NAMEE TEXTE
      go_enter Try.func19, Try.ntmps19
      go_wp2
      go_ret
      exact ⟨rfl, (Below.refl _ _).alloc (Nat.le_refl _) _⟩
  · have hbb : b = false := by
      cases b
      · rfl
      · exact absurd ((Um.empty _).2 (hb.1 rfl).2.1) TEXTE
    subst hbb
    have text1 : (t.text.toList == []) = false := beq_eq_false_iff_ne.2 TEXTE
    have text2 : t.text.toList.isEmpty = false := by cases hq : t.text.toList with | nil => exact absurd hq TEXTE | cons _ _ => rfl
    have text3 : ¬ t.text.toList = [] := TEXTE
    have text4 : (t.text.toList != []) = true := by rw [bne, text1]; rfl
    clear hb NAMEE TEXTE
    go_enter Try.func19, Try.ntmps19
    go_wp2
    go_ret
    exact ⟨rfl, (Below.refl _ _).alloc (Nat.le_refl _) _⟩
set_option maxRecDepth 100000 in
set_option maxHeartbeats 4000000 in
theorem Pg.mayBe1 (t : Tk) (a : Option Addr) (d : Nat) (R : Nat → Prop) (w : World) (h : Ak.Lies w R t.attrs (.slice a t.attrs.length d)) (hk : t.kind = 1) (b : Bool) (hb : b = true ↔ t.name ≠ Ts.e ∧ t.text = Ts.e ∧ t.attrs.length ≤ 32 ∧ Bt.named t.attrs t.attrs.length) :
    Calls Try.prog 19 #[.agg #[.int .i64 t.kind, .string t.name, .string t.text, .slice a t.attrs.length d, .bool t.self]] w fun e w' => e = .returned (.bool b) ∧ Below w.heap.size w w' := by
  have hm : t.attrs.length ≤ 9223372036854775807 := by
    obtain ⟨a', d', e, l1, m1, x1⟩ := h
    injection e with e1 e2 e3
    unfold maxLen at m1
    omega
  have k1 : (t.kind == 1) = true := by rw [hk]; rfl
  clear hk
  by_cases NAMEE : t.name.toList = []
  · have hbb : b = false := by
      cases b
      · rfl
      · exact absurd ((Um.empty _).1 NAMEE) (hb.1 rfl).1
    subst hbb
    have name1 : (t.name.toList == []) = true := by rw [NAMEE]; rfl
    have name2 : t.name.toList.isEmpty = true := by rw [NAMEE]; rfl
    have name3 : t.name.toList = [] := NAMEE
    have name4 : (t.name.toList != []) = false := by rw [bne, name1]; rfl
    clear hb NAMEE h
    go_enter Try.func19, Try.ntmps19
    go_wp2
    go_ret
    exact ⟨rfl, (Below.refl _ _).alloc (Nat.le_refl _) _⟩
  have name1 : (t.name.toList == []) = false := beq_eq_false_iff_ne.2 NAMEE
  have name2 : t.name.toList.isEmpty = false := by cases hq : t.name.toList with | nil => exact absurd hq NAMEE | cons _ _ => rfl
  have name3 : ¬ t.name.toList = [] := NAMEE
  have name4 : (t.name.toList != []) = true := by rw [bne, name1]; rfl
  by_cases TEXTE : t.text.toList = []
  · have hb2 : b = true ↔ t.attrs.length ≤ 32 ∧ Bt.named t.attrs t.attrs.length := by
      rw [hb]
      exact ⟨fun q => q.2.2, fun q => ⟨fun e => NAMEE ((Um.empty _).2 e), (Um.empty _).1 TEXTE, q⟩⟩
    have text1 : (t.text.toList == []) = true := by rw [TEXTE]; rfl
    have text2 : t.text.toList.isEmpty = true := by rw [TEXTE]; rfl
    have text3 : t.text.toList = [] := TEXTE
    have text4 : (t.text.toList != []) = false := by rw [bne, text1]; rfl
    have HH := Lib.hid h
    have ar := fun u (hu : Below w.heap.size w u) => Pg.areAttrs t.attrs a d (fun _ => True) u ((Pg.liesAll HH.out).on fun k hk => ⟨trivial, hu.block k hk⟩) b hb2
    clear hb hb2 NAMEE TEXTE h
    cases b
    all_goals
      go_enter Try.func19, Try.ntmps19
      go_wp2_with (go_at_call 26; refine (ar _ ((Below.refl _ _).alloc (Nat.le_refl _) _)).mono ?_; rintro e w2 ⟨rfl, hb2⟩; clear ar)
      go_ret
      exact ⟨rfl, ((Below.refl _ _).alloc (Nat.le_refl _) _).trans (hb2.mono (by simp))⟩
  · have hbb : b = false := by
      cases b
      · rfl
      · exact absurd ((Um.empty _).2 (hb.1 rfl).2.1) TEXTE
    subst hbb
    have text1 : (t.text.toList == []) = false := beq_eq_false_iff_ne.2 TEXTE
    have text2 : t.text.toList.isEmpty = false := by cases hq : t.text.toList with | nil => exact absurd hq TEXTE | cons _ _ => rfl
    have text3 : ¬ t.text.toList = [] := TEXTE
    have text4 : (t.text.toList != []) = true := by rw [bne, text1]; rfl
    clear hb NAMEE TEXTE h
    go_enter Try.func19, Try.ntmps19
    go_wp2
    go_ret
    exact ⟨rfl, (Below.refl _ _).alloc (Nat.le_refl _) _⟩
set_option maxRecDepth 100000 in
set_option maxHeartbeats 4000000 in
theorem Pg.mayBeOther (t : Tk) (a : Option Addr) (d : Nat) (R : Nat → Prop) (w : World) (_h : Ak.Lies w R t.attrs (.slice a t.attrs.length d)) (h0 : ¬ t.kind = 0) (h1 : ¬ t.kind = 1) (h2 : ¬ t.kind = 2) (h3 : ¬ t.kind = 3) :
    Calls Try.prog 19 #[.agg #[.int .i64 t.kind, .string t.name, .string t.text, .slice a t.attrs.length d, .bool t.self]] w fun e w' => e = .returned (.bool false) ∧ Below w.heap.size w w' := by
  have k0 : (t.kind == 0) = false := beq_eq_false_iff_ne.2 h0
  have k1 : (t.kind == 1) = false := beq_eq_false_iff_ne.2 h1
  have k2 : (t.kind == 2) = false := beq_eq_false_iff_ne.2 h2
  have k3 : (t.kind == 3) = false := beq_eq_false_iff_ne.2 h3
  clear h0 h1 h2 h3
  go_enter Try.func19, Try.ntmps19
  go_wp2
  go_ret
  exact ⟨rfl, (Below.refl _ _).alloc (Nat.le_refl _) _⟩
/-- whatever the token -/
theorem Pg.mayBe (t : Tk) (a : Option Addr) (d : Nat) (R : Nat → Prop) (w : World) (h : Ak.Lies w R t.attrs (.slice a t.attrs.length d)) :
    Calls Try.prog 19 #[.agg #[.int .i64 t.kind, .string t.name, .string t.text, .slice a t.attrs.length d, .bool t.self]] w fun e w' => ∃ b, e = .returned (.bool b) ∧ (b = true ↔ t.May) ∧ Below w.heap.size w w' := by
  have text : ∀ p : Prop, (t.kind = 0 ∨ t.kind = 3) → (p ↔ t.name = Ts.e ∧ t.attrs = [] ∧ t.self = false) → (p ↔ t.May) := fun p hk hp => by
    rw [hp]
    unfold Tk.May
    constructor
    · intro q; exact .inl ⟨hk, q⟩
    · rintro (q | q)
      · exact q.2
      · exact absurd q.1 (by omega)
  by_cases k0 : t.kind = 0
  · obtain ⟨b, hbb⟩ := Um.bool (t.name = Ts.e ∧ t.attrs = [] ∧ t.self = false)
    refine (Pg.mayBe0 t a d R w h k0 b hbb).mono ?_
    rintro e w' ⟨rfl, hb⟩
    exact ⟨_, rfl, text _ (.inl k0) hbb, hb⟩
  by_cases k3 : t.kind = 3
  · obtain ⟨b, hbb⟩ := Um.bool (t.name = Ts.e ∧ t.attrs = [] ∧ t.self = false)
    refine (Pg.mayBe3 t a d R w h k3 b hbb).mono ?_
    rintro e w' ⟨rfl, hb⟩
    exact ⟨_, rfl, text _ (.inr k3) hbb, hb⟩
  by_cases k1 : t.kind = 1
  · obtain ⟨b, hbb⟩ := Um.bool (t.name ≠ Ts.e ∧ t.text = Ts.e ∧ t.attrs.length ≤ 32 ∧ Bt.named t.attrs t.attrs.length)
    refine (Pg.mayBe1 t a d R w h k1 b hbb).mono ?_
    rintro e w' ⟨rfl, hb⟩
    refine ⟨_, rfl, ?_, hb⟩
    rw [hbb]
    unfold Tk.May
    constructor
    · intro q; exact .inr ⟨.inl k1, q⟩
    · rintro (q | q)
      · exact absurd q.1 (by omega)
      · exact q.2
  by_cases k2 : t.kind = 2
  · obtain ⟨b, hbb⟩ := Um.bool (t.name ≠ Ts.e ∧ t.text = Ts.e ∧ t.attrs = [] ∧ t.self = false)
    refine (Pg.mayBe2 t a d R w h k2 b hbb).mono ?_
    rintro e w' ⟨rfl, hb⟩
    refine ⟨_, rfl, ?_, hb⟩
    rw [hbb]
    unfold Tk.May
    constructor
    · intro q
      refine .inr ⟨.inr ⟨k2, q.2.2.1, q.2.2.2⟩, q.1, q.2.1, ?_, ?_⟩
      · rw [q.2.2.1]; exact Nat.zero_le _
      · rw [q.2.2.1]; exact fun i x hi => absurd hi (Nat.not_lt_zero _)
    · rintro (q | q)
      · exact absurd q.1 (by omega)
      · rcases q.1 with r | r
        · exact absurd r k1
        · exact ⟨q.2.1, q.2.2.1, r.2.1, r.2.2⟩
  · refine (Pg.mayBeOther t a d R w h k0 k1 k2 k3).mono ?_
    rintro e w' ⟨rfl, hb⟩
    refine ⟨_, rfl, ⟨(fun q => by cases q), fun q => ?_⟩, hb⟩
    rcases q with q | q
    · exact absurd q.1 (by omega)
    · exact absurd q.1 (by omega)
end Go.Proofs.Ythfobjkdcncoiaa

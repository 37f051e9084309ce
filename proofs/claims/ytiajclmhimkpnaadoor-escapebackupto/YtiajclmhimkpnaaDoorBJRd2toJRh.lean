/-
  PLAIN: the landed reader reads what Js.get reads: numbers, lists, values.
-/
import Derived.Test.YtiajclmhimkpnaaDoorBJRd
namespace Go.Proofs.YtiajclmhimkpnaaDoor
/-- nothing may stand so behind a value -/
def Jr.bad : List UInt8 → Bool
  | [] => false
  | c :: _ => Pl.digit c || decide (c = 46) || decide (c = 101) || decide (c = 69)
theorem Jr.bad_facts {r : List UInt8} (h : Jr.bad r = true) : Js.ws r = r ∧ r ≠ [] ∧ Js.is 93 r = none ∧ Js.is 125 r = none ∧ Js.is 44 r = none := by
  cases r with
  | nil => cases h
  | cons c r =>
    have := Ug.all (p := fun c => !Jr.bad [c] || (decide (Js.blank c = false) && decide (c ≠ 93) && decide (c ≠ 125) && decide (c ≠ 44))) (by decide +kernel) c
    have h : Jr.bad [c] = true := h
    rw [h] at this
    simp only [Bool.not_true, Bool.false_or, Bool.and_eq_true, decide_eq_true_eq] at this
    obtain ⟨⟨⟨h1, h2⟩, h3⟩, h4⟩ := this
    have hw : Js.ws (c :: r) = c :: r := by
      unfold Js.ws
      rw [List.dropWhile_cons, if_neg (by rw [h1]; exact Bool.false_ne_true)]
    refine ⟨hw, by simp, ?_, ?_, ?_⟩
    all_goals
      unfold Js.is
      rw [hw]
      simp [*]
/-- alike, but for what nothing may stand behind -/
def Jr.Sim (a b : Option (Vt × List UInt8)) : Prop := a = b ∨ (b = none ∧ ∃ t r, a = some (t, r) ∧ Jr.bad r = true)
theorem Jr.fold_le : ∀ (l : List UInt8) (x : Nat), x ≤ l.foldl (fun x c => x * 10 + Pl.dig c) x
  | [], x => Nat.le_refl _
  | c :: l, x => by
    have := Jr.fold_le l (x * 10 + Pl.dig c)
    simp only [List.foldl_cons]
    omega
theorem Jr.more_pos : ∀ (l : List UInt8) (n : Nat), 0 < n → n ≤ 9007199254740991 → Jr.more n l =
    if 9007199254740991 < (l.takeWhile Pl.digit).foldl (fun x c => x * 10 + Pl.dig c) n then none else some ((l.takeWhile Pl.digit).foldl (fun x c => x * 10 + Pl.dig c) n, l.dropWhile Pl.digit)
  | [], n, h, h2 => by
    rw [Jr.more, if_neg (by simp; omega)]
    rfl
  | c :: l, n, h, h2 => by
    rw [Jr.more, List.takeWhile_cons, List.dropWhile_cons]
    by_cases hd : Pl.digit c = true
    · rw [if_pos ⟨h, hd⟩, if_pos hd, if_pos hd, List.foldl_cons]
      have hle := Jr.fold_le (l.takeWhile Pl.digit) (n * 10 + Pl.dig c)
      by_cases h3 : 9007199254740991 < n * 10 + Pl.dig c
      · rw [if_pos h3, if_pos (by omega)]
      · rw [if_neg h3, Jr.more_pos l _ (by omega) (by omega)]
    · rw [if_neg (fun q => hd q.2), if_neg hd, if_neg hd, List.foldl_nil, if_neg (by omega)]
theorem Jr.more_zero (l : List UInt8) : Jr.more 0 l = some (0, l) := by
  cases l with
  | nil => rfl
  | cons c l => rw [Jr.more, if_neg (by omega)]
theorem Jr.bad_head {r : List UInt8} (h : r.head? = some 46 ∨ r.head? = some 101 ∨ r.head? = some 69) : Jr.bad r = true := by
  cases r with
  | nil => simp at h
  | cons c r =>
    simp only [List.head?_cons, Option.some.injEq] at h
    rcases h with rfl | rfl | rfl <;> rfl
theorem Jr.numOf_sim (neg : Bool) (l : List UInt8) : Jr.Sim ((Jr.digits l).map fun p => (Jr.num neg p.1, p.2)) (Js.numOf neg (l.takeWhile Pl.digit) (l.dropWhile Pl.digit)) := by
  cases l with
  | nil => exact .inl rfl
  | cons c r =>
    rw [Jr.digits, List.takeWhile_cons, List.dropWhile_cons]
    by_cases hd : Pl.digit c = true
    · rw [if_pos hd, if_pos hd, if_pos hd]
      obtain ⟨hd1, hd2⟩ := Jr.digit_dig c hd
      have hval : Pl.val 10 (c :: r.takeWhile Pl.digit) = (r.takeWhile Pl.digit).foldl (fun x c => x * 10 + Pl.dig c) (Pl.dig c) := by
        unfold Pl.val
        rw [List.foldl_cons, Nat.zero_mul, Nat.zero_add]
      by_cases hc : c = 48
      · subst hc
        have e0 : Pl.dig 48 = 0 := rfl
        rw [e0, Jr.more_zero]
        cases r with
        | nil =>
          left
          cases neg <;> rfl
        | cons d t =>
          by_cases hb : Jr.bad (d :: t) = true
          · right
            refine ⟨?_, _, _, rfl, hb⟩
            unfold Js.numOf
            rw [if_pos]
            by_cases hdd : Pl.digit d = true
            · right; left
              rw [List.takeWhile_cons, if_pos hdd]
              exact ⟨by simp, rfl⟩
            · right; right; right
              rw [List.dropWhile_cons, if_neg hdd]
              have hb : (Pl.digit d || decide (d = 46) || decide (d = 101) || decide (d = 69)) = true := hb
              rw [Bool.eq_false_iff.2 hdd] at hb
              simp only [Bool.false_or, Bool.or_eq_true, decide_eq_true_eq] at hb
              rcases hb with (rfl | rfl) | rfl
              · exact .inl rfl
              · exact .inr (.inl rfl)
              · exact .inr (.inr rfl)
          · left
            have hb : (Pl.digit d || decide (d = 46) || decide (d = 101) || decide (d = 69)) = false := Bool.eq_false_iff.2 hb
            simp only [Bool.or_eq_false_iff, decide_eq_false_iff_not] at hb
            obtain ⟨⟨⟨q1, q2⟩, q3⟩, q4⟩ := hb
            have hdd : ¬ Pl.digit d = true := by rw [q1]; exact Bool.false_ne_true
            rw [List.takeWhile_cons, if_neg hdd, List.dropWhile_cons, if_neg hdd]
            have e1 : Pl.val 10 [48] = 0 := rfl
            unfold Js.numOf
            rw [if_neg (by simp [e1, q2, q3, q4]), e1]
            cases neg <;> rfl
      · have hpos : 0 < Pl.dig c := by
          have := Ug.all (p := fun c => !Pl.digit c || decide (c = 48) || decide (0 < Pl.dig c)) (by decide +kernel) c
          rw [hd, decide_eq_false hc] at this
          simpa using this
        rw [Jr.more_pos r _ hpos (by omega), ← hval]
        generalize hV : Pl.val 10 (c :: r.takeWhile Pl.digit) = V
        by_cases hbig : 9007199254740991 < V
        · left
          rw [if_pos hbig]
          unfold Js.numOf
          rw [hV, if_pos (.inr (.inr (.inl hbig)))]
          rfl
        · rw [if_neg hbig, Option.map_some]
          by_cases hh : (r.dropWhile Pl.digit).head? = some 46 ∨ (r.dropWhile Pl.digit).head? = some 101 ∨ (r.dropWhile Pl.digit).head? = some 69
          · right
            refine ⟨?_, _, _, rfl, Jr.bad_head hh⟩
            unfold Js.numOf
            rw [if_pos (.inr (.inr (.inr hh)))]
          · left
            unfold Js.numOf
            rw [hV, if_neg]
            · unfold Jr.num
              split <;> rfl
            · rintro (q | q | q | q)
              · cases q
              · exact hc (by simpa using q.2)
              · exact hbig q
              · exact hh q
    · left
      rw [if_neg hd, if_neg hd, if_neg hd]
      rfl
theorem Jr.number_sim (l : List UInt8) : Jr.Sim (Jr.number l) (Js.number l) := by
  unfold Jr.number Js.number
  split
  · exact Jr.numOf_sim true _
  · exact Jr.numOf_sim false _
theorem Jr.js_number_may {l r : List UInt8} {t : Vt} (h : Js.number l = some (t, r)) : Pl.mayL l = Pl.mayL r := by
  have hasc : ∀ l : List UInt8, Jr.Asc l (l.dropWhile Pl.digit) := by
    intro l
    induction l with
    | nil => exact .refl _
    | cons c l ih =>
      rw [List.dropWhile_cons]
      split
      · rename_i h
        have := Ug.all (p := fun c => !Pl.digit c || (decide (c ≠ 0) && decide (c.toNat < 128))) (by decide +kernel) c
        rw [h] at this
        exact .cons (by simpa using this) ih
      · exact .refl _
  unfold Js.number at h
  split at h
  · rename_i h45
    cases l with
    | nil => cases h45
    | cons c l =>
      simp only [List.head?_cons, Option.some.injEq] at h45
      subst h45
      obtain ⟨-, rfl⟩ := Js.numOf_rest h
      exact (Jr.Asc.cons (by decide) (hasc l)).may
  · obtain ⟨-, rfl⟩ := Js.numOf_rest h
    exact (hasc l).may
theorem Jr.js_key_may {rec : Bool} {l r : List UInt8} {ks : List ByteArray} (h : Js.key rec l = some (ks, r)) : Pl.mayL l = Pl.mayL r := by
  unfold Js.key at h
  split at h
  · split at h
    · cases h
    · rename_i r0 h0
      split at h
      · cases h
      · rename_i k r1 h1
        split at h
        · cases h
        · rename_i r2 h2
          simp only [Option.some.injEq, Prod.mk.injEq] at h
          obtain ⟨-, rfl⟩ := h
          rw [(Jr.is_asc (by decide) h0).may, Jr.js_may _ r0 k r1 (Nat.le_refl _) h1, (Jr.is_asc (by decide) h2).may]
  · simp only [Option.some.injEq, Prod.mk.injEq] at h
    rw [h.2]
theorem Jr.key_eq {rec : Bool} {l : List UInt8} (hm : Pl.mayL l = true) : Jr.key rec l = Js.key rec l := by
  unfold Jr.key Js.key
  split
  · cases h0 : Js.is 34 l with
    | none => rfl
    | some r0 =>
      have hm0 : Pl.mayL r0 = true := by rw [← (Jr.is_asc (by decide) h0).may]; exact hm
      simp only
      rw [Jr.text_eq _ r0 (Nat.le_refl _) hm0]
      cases Js.text r0 with
      | none => rfl
      | some p =>
        simp only
        cases Js.is 58 p.2 <;> rfl
  · rfl
theorem Jr.js_items_may {val : List UInt8 → Option (Vt × List UInt8)} (hv : ∀ l t r, val l = some (t, r) → Pl.mayL l = Pl.mayL r) (rec : Bool) {e : UInt8} (he : e ≠ 0 ∧ e.toNat < 128) : ∀ (f : Nat) (l : List UInt8) (p : List ByteArray × List Vt) (r : List UInt8), Js.itemsF val rec e f l = some (p, r) → Pl.mayL l = Pl.mayL r
  | 0, _, _, _, h => by cases h
  | f + 1, l, p, r, h => by
    rw [Js.itemsF] at h
    split at h
    · cases h
    · rename_i ks r1 h1
      split at h
      · cases h
      · rename_i t r2 h2
        split at h
        · rename_i r3 h3
          simp only [Option.some.injEq, Prod.mk.injEq] at h
          obtain ⟨-, rfl⟩ := h
          rw [Jr.js_key_may h1, hv _ _ _ h2, (Jr.is_asc he h3).may]
        · split at h
          · cases h
          · rename_i r3 h3
            obtain ⟨⟨q1, q2⟩, hq, e⟩ := Option.map_eq_some_iff.1 h
            simp only [Prod.mk.injEq] at e
            obtain ⟨-, rfl⟩ := e
            rw [Jr.js_key_may h1, hv _ _ _ h2, (Jr.is_asc (by decide) h3).may]
            exact Jr.js_items_may hv rec he f r3 q1 q2 hq
theorem Jr.js_list_may {val : List UInt8 → Option (Vt × List UInt8)} (hv : ∀ l t r, val l = some (t, r) → Pl.mayL l = Pl.mayL r) {rec : Bool} {e : UInt8} (he : e ≠ 0 ∧ e.toNat < 128) {l : List UInt8} {p : List ByteArray × List Vt} {r : List UInt8} (h : Js.list val rec e l = some (p, r)) : Pl.mayL l = Pl.mayL r := by
  unfold Js.list at h
  split at h
  · rename_i r0 h0
    simp only [Option.some.injEq, Prod.mk.injEq] at h
    obtain ⟨-, rfl⟩ := h
    exact (Jr.is_asc he h0).may
  · exact Jr.js_items_may hv rec he _ _ _ _ h
theorem Jr.pre_asc {p l : List UInt8} (hp : ∀ c ∈ p, c ≠ 0 ∧ c.toNat < 128) (h : Pl.pre p l = true) : Jr.Asc l (l.drop p.length) := by
  obtain ⟨r, rfl⟩ := (Pl.pre_iff p l).1 h
  exact ⟨p, by rw [List.drop_left], hp⟩
theorem Jr.head_asc {c : UInt8} {l : List UInt8} (hc : c ≠ 0 ∧ c.toNat < 128) (h : l.head? = some c) : Jr.Asc l (l.drop 1) := by
  cases l with
  | nil => cases h
  | cons d l =>
    simp only [List.head?_cons, Option.some.injEq] at h
    subst h
    exact .cons hc (.refl _)
theorem Jr.js_at_may {val : List UInt8 → Option (Vt × List UInt8)} (hv : ∀ l t r, val l = some (t, r) → Pl.mayL l = Pl.mayL r) {l r : List UInt8} {t : Vt} (h : Js.at val l = some (t, r)) : Pl.mayL l = Pl.mayL r := by
  unfold Js.at at h
  split at h
  · cases h
  · split at h
    · rename_i hp
      simp only [Option.some.injEq, Prod.mk.injEq] at h
      rw [← h.2]; exact (Jr.pre_asc (by decide) hp).may
    · split at h
      · rename_i hp
        simp only [Option.some.injEq, Prod.mk.injEq] at h
        rw [← h.2]; exact (Jr.pre_asc (by decide) hp).may
      · split at h
        · rename_i hp
          simp only [Option.some.injEq, Prod.mk.injEq] at h
          rw [← h.2]; exact (Jr.pre_asc (by decide) hp).may
        · split at h
          · rename_i hh
            obtain ⟨⟨q1, q2⟩, hq, e⟩ := Option.map_eq_some_iff.1 h
            simp only [Prod.mk.injEq] at e
            rw [← e.2, (Jr.head_asc (by decide) hh).may]
            exact Jr.js_may _ _ _ _ (Nat.le_refl _) hq
          · split at h
            · rename_i hh
              obtain ⟨⟨q1, q2⟩, hq, e⟩ := Option.map_eq_some_iff.1 h
              simp only [Prod.mk.injEq] at e
              rw [← e.2, (Jr.head_asc (by decide) hh).may]
              exact Jr.js_list_may hv (by decide) hq
            · split at h
              · rename_i hh
                obtain ⟨⟨q1, q2⟩, hq, e⟩ := Option.map_eq_some_iff.1 h
                simp only [Prod.mk.injEq] at e
                rw [← e.2, (Jr.head_asc (by decide) hh).may]
                exact Jr.js_list_may hv (by decide) hq
              · exact Jr.js_number_may h
theorem Jr.js_value_may : ∀ (d : Nat) (l : List UInt8) (t : Vt) (r : List UInt8), Js.value d l = some (t, r) → Pl.mayL l = Pl.mayL r
  | 0, _, _, _, h => by cases h
  | d + 1, l, t, r, h => by
    rw [Js.value] at h
    rw [(Jr.ws_asc l).may]
    exact Jr.js_at_may (Jr.js_value_may d) h
theorem Jr.is_ws (c : UInt8) (l : List UInt8) : Js.is c (Js.ws l) = Js.is c l := by
  unfold Js.is
  rw [Jr.ws_ws]
theorem Jr.items_eq {v1 v2 : List UInt8 → Option (Vt × List UInt8)} (hs : ∀ l, Pl.mayL l = true → Jr.Sim (v1 l) (v2 l)) (hv : ∀ l t r, v2 l = some (t, r) → Pl.mayL l = Pl.mayL r) (rec : Bool) {e : UInt8} (he : e = 93 ∨ e = 125) : ∀ (f : Nat) (l : List UInt8), Pl.mayL l = true → Jr.itemsF v1 rec e f l = Js.itemsF v2 rec e f l
  | 0, _, _ => rfl
  | f + 1, l, hm => by
    rw [Jr.itemsF, Js.itemsF, Jr.key_eq hm]
    cases hk : Js.key rec l with
    | none => rfl
    | some p =>
      obtain ⟨ks, r1⟩ := p
      have hm1 : Pl.mayL r1 = true := by rw [← Jr.js_key_may hk]; exact hm
      simp only
      rcases hs r1 hm1 with h | ⟨h1, t, r, h2, hb⟩
      · rw [h]
        cases h2 : v2 r1 with
        | none => rfl
        | some p =>
          obtain ⟨t, r2⟩ := p
          have hm2 : Pl.mayL r2 = true := by rw [← hv _ _ _ h2]; exact hm1
          simp only
          cases h3 : Js.is e r2 with
          | some r3 => rfl
          | none =>
            simp only
            cases h4 : Js.is 44 r2 with
            | none => rfl
            | some r3 =>
              simp only
              rw [Jr.items_eq hs hv rec he f r3 (by rw [← (Jr.is_asc (by decide) h4).may]; exact hm2)]
      · obtain ⟨-, -, b1, b2, b3⟩ := Jr.bad_facts hb
        have be : Js.is e r = none := by rcases he with rfl | rfl <;> assumption
        rw [h1, h2]
        simp only
        rw [be, b3]
theorem Jr.list_eq {v1 v2 : List UInt8 → Option (Vt × List UInt8)} (hs : ∀ l, Pl.mayL l = true → Jr.Sim (v1 l) (v2 l)) (hv : ∀ l t r, v2 l = some (t, r) → Pl.mayL l = Pl.mayL r) (hw : ∀ l, v2 (Js.ws l) = v2 l) {rec : Bool} {e : UInt8} (he : e = 93 ∨ e = 125) {l : List UInt8} (hm : Pl.mayL l = true) : Jr.list v1 rec e l = Js.list v2 rec e l := by
  unfold Jr.list Js.list
  cases hi : Js.is e l with
  | some r => rfl
  | none =>
    simp only
    rw [Jr.items_eq hs hv rec he _ _ (by rw [← (Jr.ws_asc l).may]; exact hm)]
    cases hf : l.length with
    | zero => rfl
    | succ f =>
      rw [Js.itemsF, Js.itemsF]
      unfold Js.key
      cases rec with
      | true =>
        simp only [if_true]
        rw [Jr.is_ws]
      | false =>
        simp only [Bool.false_eq_true, if_false]
        rw [hw]
theorem Jr.pre_head {a c : UInt8} {p l : List UInt8} (h : Pl.pre (a :: p) l = true) (hl : l.head? = some c) : c = a := by
  cases l with
  | nil => cases hl
  | cons d l =>
    simp only [List.head?_cons, Option.some.injEq] at hl
    subst hl
    rw [Pl.pre_cons, Bool.and_eq_true] at h
    exact (eq_of_beq h.1).symm
theorem Jr.pre_some {a : UInt8} {p l : List UInt8} (h : Pl.pre (a :: p) l = true) : l.head? = some a := by
  obtain ⟨r, rfl⟩ := (Pl.pre_iff _ _).1 h
  rfl
theorem Jr.at_sim {v1 v2 : List UInt8 → Option (Vt × List UInt8)} (hs : ∀ l, Pl.mayL l = true → Jr.Sim (v1 l) (v2 l)) (hv : ∀ l t r, v2 l = some (t, r) → Pl.mayL l = Pl.mayL r) (hw : ∀ l, v2 (Js.ws l) = v2 l) {l : List UInt8} (hm : Pl.mayL l = true) : Jr.Sim (Jr.at v1 l) (Js.at v2 l) := by
  unfold Jr.at Js.at
  have hno : ∀ c : UInt8, l.head? = some c → Pl.digit c = false → c ≠ 45 → Js.number l = none := by
    intro c hc h1 h2
    cases l with
    | nil => cases hc
    | cons d l =>
      simp only [List.head?_cons, Option.some.injEq] at hc
      subst hc
      unfold Js.number Js.numOf
      have e : (d :: l).takeWhile Pl.digit = [] := by rw [List.takeWhile_cons, if_neg (by rw [h1]; exact Bool.false_ne_true)]
      rw [if_neg (by simpa using h2), e, if_pos (.inl rfl)]
  by_cases h0 : l = []
  · subst h0
    left
    rfl
  · rw [if_neg h0]
    by_cases h1 : l.head? = some 110
    · left
      rw [if_pos h1]
      by_cases hp : Pl.pre [110, 117, 108, 108] l = true
      · rw [if_pos hp, if_pos hp]
      · have hn : ∀ (a : UInt8) (p : List UInt8), a ≠ 110 → ¬ Pl.pre (a :: p) l = true := fun a p q h => q (Jr.pre_head h h1).symm
        rw [if_neg hp, if_neg hp, if_neg (hn _ _ (by decide)), if_neg (hn _ _ (by decide)), h1, if_neg (by decide), if_neg (by decide), if_neg (by decide), hno 110 h1 (by decide) (by decide)]
    · have n1 : ¬ Pl.pre [110, 117, 108, 108] l = true := fun q => h1 (Jr.pre_some q)
      rw [if_neg h1, if_neg n1]
      by_cases h2 : l.head? = some 116
      · left
        rw [if_pos h2]
        by_cases hp : Pl.pre [116, 114, 117, 101] l = true
        · rw [if_pos hp, if_pos hp]
        · have hn : ∀ (a : UInt8) (p : List UInt8), a ≠ 116 → ¬ Pl.pre (a :: p) l = true := fun a p q h => q (Jr.pre_head h h2).symm
          rw [if_neg hp, if_neg hp, if_neg (hn _ _ (by decide)), h2, if_neg (by decide), if_neg (by decide), if_neg (by decide), hno 116 h2 (by decide) (by decide)]
      · have n2 : ¬ Pl.pre [116, 114, 117, 101] l = true := fun q => h2 (Jr.pre_some q)
        rw [if_neg h2, if_neg n2]
        by_cases h3 : l.head? = some 102
        · left
          rw [if_pos h3]
          by_cases hp : Pl.pre [102, 97, 108, 115, 101] l = true
          · rw [if_pos hp, if_pos hp]
          · rw [if_neg hp, if_neg hp, h3, if_neg (by decide), if_neg (by decide), if_neg (by decide), hno 102 h3 (by decide) (by decide)]
        · have n3 : ¬ Pl.pre [102, 97, 108, 115, 101] l = true := fun q => h3 (Jr.pre_some q)
          rw [if_neg h3, if_neg n3]
          by_cases h4 : l.head? = some 34
          · left
            rw [if_pos h4, if_pos h4, Jr.text_eq _ _ (Nat.le_refl _) (by rw [← (Jr.head_asc (by decide) h4).may]; exact hm)]
          · rw [if_neg h4, if_neg h4]
            by_cases h5 : l.head? = some 91
            · left
              rw [if_pos h5, if_pos h5, Jr.list_eq hs hv hw (.inl rfl) (by rw [← (Jr.head_asc (by decide) h5).may]; exact hm)]
            · rw [if_neg h5, if_neg h5]
              by_cases h6 : l.head? = some 123
              · left
                rw [if_pos h6, if_pos h6, Jr.list_eq hs hv hw (.inr rfl) (by rw [← (Jr.head_asc (by decide) h6).may]; exact hm)]
              · rw [if_neg h6, if_neg h6]
                exact Jr.number_sim l
theorem Jr.js_value_ws (d : Nat) (l : List UInt8) : Js.value d (Js.ws l) = Js.value d l := by
  cases d with
  | zero => rfl
  | succ d => rw [Js.value, Js.value, Jr.ws_ws]
theorem Jr.value_sim : ∀ (d : Nat) (l : List UInt8), Pl.mayL l = true → Jr.Sim (Jr.value d l) (Js.value d l)
  | 0, _, _ => .inl rfl
  | d + 1, l, hm => by
    rw [Jr.value, Js.value]
    exact Jr.at_sim (Jr.value_sim d) (Jr.js_value_may d) (Jr.js_value_ws d) (by rw [← (Jr.ws_asc l).may]; exact hm)
theorem Jr.get_eq (l : List UInt8) : Jr.get l = Js.get l := by
  unfold Jr.get Js.get Jr.read
  by_cases h1 : 65536 < l.length
  · rw [if_pos (.inl h1), if_pos h1]
  · rw [if_neg h1]
    by_cases hm : Pl.mayL l = true
    · rw [if_neg (by simp [h1, hm])]
      rcases Jr.value_sim 8 l hm with h | ⟨h1, t, r, h2, hb⟩
      · rw [h]
        cases Js.value 8 l with
        | none => rfl
        | some p =>
          obtain ⟨t, r⟩ := p
          simp only
          by_cases hw : Js.ws r = []
          · simp [hw]
          · simp [hw]
      · obtain ⟨b0, b1, -⟩ := Jr.bad_facts hb
        rw [h1, h2]
        simp only
        rw [b0, if_neg b1]
    · rw [if_pos (.inr (Bool.eq_false_iff.2 hm))]
      cases h : Js.value 8 l with
      | none => rfl
      | some p =>
        obtain ⟨t, r⟩ := p
        simp only
        rw [if_neg]
        rintro ⟨q, -⟩
        apply hm
        rw [Jr.js_value_may _ _ _ _ h, (Jr.ws_asc r).may, q]
        rfl
end Go.Proofs.YtiajclmhimkpnaaDoor
/-
  PLAIN: the landed reader's rows, part by part.
-/
namespace Go.Proofs.YtiajclmhimkpnaaDoor
theorem Jr.text_le : ∀ (n : Nat) (l b r : List UInt8), l.length ≤ n → Jr.text l = some (b, r) → r.length < l.length := by
  intro n
  induction n with
  | zero =>
    intro l b r hl h
    have : l = [] := List.length_eq_zero_iff.1 (by omega)
    subst this
    cases h
  | succ n ih =>
    intro l b r hl h
    cases l with
    | nil => cases h
    | cons c t =>
      simp only [List.length_cons] at hl ⊢
      by_cases h1 : c = 34
      · subst h1
        rw [Jr.text_end] at h
        simp only [Option.some.injEq, Prod.mk.injEq] at h
        rw [h.2]
        omega
      · by_cases h2 : c = 92
        · subst h2
          rw [Jr.text_esc] at h
          cases he : Jr.escaped t with
          | none => rw [he] at h; cases h
          | some p =>
            obtain ⟨x, r1⟩ := p
            rw [he] at h
            have hlt := (Jr.escaped_lt he).2.2
            obtain ⟨⟨q1, q2⟩, hq, e⟩ := Option.map_eq_some_iff.1 h
            simp only [Prod.mk.injEq] at e
            have := ih r1 q1 q2 (by omega) hq
            rw [← e.2]
            omega
        · by_cases h3 : c.toNat < 32
          · rw [Jr.text_low t h3] at h
            cases h
          · rw [Jr.text_byte t h1 h2 h3] at h
            obtain ⟨⟨q1, q2⟩, hq, e⟩ := Option.map_eq_some_iff.1 h
            simp only [Prod.mk.injEq] at e
            have := ih t q1 q2 (by omega) hq
            rw [← e.2]
            omega
theorem Jr.key_le {rec : Bool} {l r : List UInt8} {ks : List ByteArray} (h : Jr.key rec l = some (ks, r)) : r.length ≤ l.length := by
  unfold Jr.key at h
  split at h
  · split at h
    · cases h
    · rename_i r0 h0
      split at h
      · cases h
      · rename_i k r1 h1
        split at h
        · cases h
        · rename_i r2 h2
          simp only [Option.some.injEq, Prod.mk.injEq] at h
          obtain ⟨-, rfl⟩ := h
          have e0 := Js.is_len h0
          have e1 := Jr.text_le _ _ _ _ (Nat.le_refl _) h1
          have e2 := Js.is_len h2
          omega
  · simp only [Option.some.injEq, Prod.mk.injEq] at h
    rw [h.2]
    exact Nat.le_refl _
theorem Jr.items_le {val : List UInt8 → Option (Vt × List UInt8)} (hv : ∀ l t r, val l = some (t, r) → r.length ≤ l.length) (rec : Bool) (e : UInt8) : ∀ (f : Nat) (l : List UInt8) (p : List ByteArray × List Vt) (r : List UInt8), Jr.itemsF val rec e f l = some (p, r) → r.length ≤ l.length
  | 0, _, _, _, h => by cases h
  | f + 1, l, p, r, h => by
    rw [Jr.itemsF] at h
    split at h
    · cases h
    · rename_i ks r1 h1
      have e1 := Jr.key_le h1
      split at h
      · cases h
      · rename_i t r2 h2
        have e2 := hv _ _ _ h2
        split at h
        · rename_i r3 h3
          have e3 := Js.is_len h3
          simp only [Option.some.injEq, Prod.mk.injEq] at h
          obtain ⟨-, rfl⟩ := h
          omega
        · split at h
          · cases h
          · rename_i r3 h3
            have e3 := Js.is_len h3
            obtain ⟨⟨q1, q2⟩, hq, e⟩ := Option.map_eq_some_iff.1 h
            simp only [Prod.mk.injEq] at e
            obtain ⟨-, rfl⟩ := e
            have := Jr.items_le hv rec _ f r3 q1 q2 hq
            omega
theorem Jr.list_le {val : List UInt8 → Option (Vt × List UInt8)} (hv : ∀ l t r, val l = some (t, r) → r.length ≤ l.length) {rec : Bool} {e : UInt8} {l : List UInt8} {p : List ByteArray × List Vt} {r : List UInt8} (h : Jr.list val rec e l = some (p, r)) : r.length ≤ l.length := by
  unfold Jr.list at h
  split at h
  · rename_i r0 h0
    have e0 := Js.is_len h0
    simp only [Option.some.injEq, Prod.mk.injEq] at h
    obtain ⟨-, rfl⟩ := h
    omega
  · have := Jr.items_le hv rec e _ _ _ _ h
    have := Js.ws_len l
    omega
theorem Jr.more_rest : ∀ (l : List UInt8) (n m : Nat) (r : List UInt8), Jr.more n l = some (m, r) → r.length ≤ l.length
  | [], n, m, r, e => by
    rw [Jr.more] at e
    simp only [Option.some.injEq, Prod.mk.injEq] at e
    rw [← e.2]
    exact Nat.le_refl _
  | c :: l, n, m, r, e => by
    rw [Jr.more] at e
    split at e
    · split at e
      · cases e
      · have := Jr.more_rest l _ m r e
        simp only [List.length_cons]
        omega
    · simp only [Option.some.injEq, Prod.mk.injEq] at e
      rw [← e.2]
      exact Nat.le_refl _
theorem Jr.digits_rest {l r : List UInt8} {m : Nat} (h : Jr.digits l = some (m, r)) : r.length ≤ l.length := by
  cases l with
  | nil => cases h
  | cons c l =>
    rw [Jr.digits] at h
    split at h
    · have := Jr.more_rest l _ m r h
      simp only [List.length_cons]
      omega
    · cases h
theorem Jr.number_le {l r : List UInt8} {t : Vt} (h : Jr.number l = some (t, r)) : r.length ≤ l.length := by
  unfold Jr.number at h
  split at h
  · obtain ⟨⟨q1, q2⟩, hq, e⟩ := Option.map_eq_some_iff.1 h
    simp only [Prod.mk.injEq] at e
    have := Jr.digits_rest hq
    rw [List.length_drop] at this
    rw [← e.2]
    omega
  · obtain ⟨⟨q1, q2⟩, hq, e⟩ := Option.map_eq_some_iff.1 h
    simp only [Prod.mk.injEq] at e
    rw [← e.2]
    exact Jr.digits_rest hq
theorem Jr.at_le {val : List UInt8 → Option (Vt × List UInt8)} (hv : ∀ l t r, val l = some (t, r) → r.length ≤ l.length) {l r : List UInt8} {t : Vt} (h : Jr.at val l = some (t, r)) : r.length ≤ l.length := by
  have hd : ∀ n, (l.drop n).length ≤ l.length := fun n => by rw [List.length_drop]; omega
  unfold Jr.at at h
  repeat' split at h
  all_goals first
    | (cases h; done)
    | (simp only [Option.some.injEq, Prod.mk.injEq] at h; rw [← h.2]; exact hd _)
    | (exact Jr.number_le h)
    | (obtain ⟨⟨q1, q2⟩, hq, e⟩ := Option.map_eq_some_iff.1 h
       simp only [Prod.mk.injEq] at e
       rw [← e.2]
       have h1 := hd 1
       first
         | (have := Jr.text_le _ _ _ _ (Nat.le_refl _) hq; omega)
         | (have := Jr.list_le hv hq; omega))
theorem Jr.value_le : ∀ (d : Nat) (l : List UInt8) (t : Vt) (r : List UInt8), Jr.value d l = some (t, r) → r.length ≤ l.length
  | 0, _, _, _, h => by cases h
  | d + 1, l, t, r, h => by
    rw [Jr.value] at h
    have := Jr.at_le (Jr.value_le d) h
    have := Js.ws_len l
    omega
/-- one part more -/
def Jr.part (val : List UInt8 → Option (Vt × List UInt8)) (rec : Bool) (s : List ByteArray × List Vt) (l : List UInt8) : Option ((List ByteArray × List Vt) × List UInt8) :=
  match Jr.key rec l with
  | none => none
  | some (ks, r1) =>
    match val r1 with
    | none => none
    | some (t, r2) => some ((s.1 ++ ks, s.2 ++ [t]), r2)
def Jr.rowF (P : List ByteArray × List Vt → List UInt8 → Option ((List ByteArray × List Vt) × List UInt8)) (e : UInt8) : Nat → List ByteArray × List Vt → List UInt8 → Option ((List ByteArray × List Vt) × List UInt8)
  | 0, _, _ => none
  | f + 1, s, l =>
    match P s l with
    | none => none
    | some (s2, r2) =>
      match Js.is e r2 with
      | some r3 => some (s2, r3)
      | none =>
        match Js.is 44 r2 with
        | none => none
        | some r3 => Jr.rowF P e f s2 r3
theorem Jr.part_le {val : List UInt8 → Option (Vt × List UInt8)} (hv : ∀ l t r, val l = some (t, r) → r.length ≤ l.length) {rec : Bool} {s s2 : List ByteArray × List Vt} {l r : List UInt8} (h : Jr.part val rec s l = some (s2, r)) : r.length ≤ l.length := by
  unfold Jr.part at h
  split at h
  · cases h
  · rename_i ks r1 h1
    have e1 := Jr.key_le h1
    split at h
    · cases h
    · rename_i t r2 h2
      have e2 := hv _ _ _ h2
      simp only [Option.some.injEq, Prod.mk.injEq] at h
      obtain ⟨-, rfl⟩ := h
      omega
theorem Jr.row_items (val : List UInt8 → Option (Vt × List UInt8)) (rec : Bool) (e : UInt8) : ∀ (f : Nat) (s : List ByteArray × List Vt) (l : List UInt8), Jr.rowF (Jr.part val rec) e f s l = (Jr.itemsF val rec e f l).map fun p => ((s.1 ++ p.1.1, s.2 ++ p.1.2), p.2)
  | 0, _, _ => rfl
  | f + 1, s, l => by
    rw [Jr.rowF, Jr.itemsF, Jr.part]
    cases Jr.key rec l with
    | none => rfl
    | some p =>
      obtain ⟨ks, r1⟩ := p
      simp only
      cases val r1 with
      | none => rfl
      | some p =>
        obtain ⟨t, r2⟩ := p
        simp only
        cases Js.is e r2 with
        | some r3 => rfl
        | none =>
          simp only
          cases Js.is 44 r2 with
          | none => rfl
          | some r3 =>
            simp only
            rw [Jr.row_items val rec e f]
            cases Jr.itemsF val rec e f r3 with
            | none => rfl
            | some p => simp
theorem Jr.part_many {val : List UInt8 → Option (Vt × List UInt8)} {rec : Bool} {s s2 : List ByteArray × List Vt} {l r : List UInt8} (h : Jr.part val rec s l = some (s2, r)) : s2.2.length = s.2.length + 1 := by
  unfold Jr.part at h
  split at h
  · cases h
  · split at h
    · cases h
    · simp only [Option.some.injEq, Prod.mk.injEq] at h
      rw [← h.1]
      simp
theorem Jr.number_nil : Jr.number [] = none := rfl
theorem Jr.value_nil : ∀ d, Jr.value d [] = none
  | 0 => rfl
  | _ + 1 => rfl
theorem Jr.part_nil (d : Nat) (rec : Bool) (s : List ByteArray × List Vt) : Jr.part (Jr.value d) rec s [] = none := by
  unfold Jr.part Jr.key
  cases rec with
  | true => rfl
  | false => simp [Jr.value_nil]
def Jr.rowL (P : List ByteArray × List Vt → List UInt8 → Option ((List ByteArray × List Vt) × List UInt8)) (e : UInt8) (s : List ByteArray × List Vt) (l : List UInt8) : Option ((List ByteArray × List Vt) × List UInt8) :=
  match Js.is e l with
  | some r => some (s, r)
  | none => Jr.rowF P e l.length s (Js.ws l)
theorem Jr.rowL_list (val : List UInt8 → Option (Vt × List UInt8)) (rec : Bool) (e : UInt8) (l : List UInt8) : Jr.rowL (Jr.part val rec) e ([], []) l = Jr.list val rec e l := by
  unfold Jr.rowL Jr.list
  cases Js.is e l with
  | some r => rfl
  | none =>
    simp only
    rw [Jr.row_items]
    cases Jr.itemsF val rec e l.length (Js.ws l) <;> simp
end Go.Proofs.YtiajclmhimkpnaaDoor

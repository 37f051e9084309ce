/-
  PLAIN: what is read is put and read the same, but for signs of number 0.
-/
import Derived.Test.YtboalkfagfgnpabDoorMJPut3toJPut4
import Derived.KernelRfl
import Derived.Test.YtboalkfagfgnpabDoorMJTexttoJVal
import Derived.BigQuiet
import Derived.Laws.Cover1
namespace Go.Proofs.YtboalkfagfgnpabDoor
def Js.zeros : List UInt8 → Bool
  | [] => false
  | c :: r => Pl.pre [92, 117, 48, 48, 48, 48] (c :: r) || Js.zeros r
theorem Js.zeros_suffix {r : List UInt8} : ∀ {l : List UInt8}, r <:+ l → Js.zeros l = false → Js.zeros r = false
  | [], h, _ => by
    rw [List.suffix_nil.1 h]
    rfl
  | c :: l, h, hz => by
    rw [Js.zeros, Bool.or_eq_false_iff] at hz
    rcases List.suffix_cons_iff.1 h with rfl | h
    · rw [Js.zeros, hz.1, hz.2]
      rfl
    · exact Js.zeros_suffix h hz.2
theorem Js.ws_suffix (l : List UInt8) : Js.ws l <:+ l := List.dropWhile_suffix _
theorem Js.is_suffix {c : UInt8} {l r : List UInt8} (h : Js.is c l = some r) : r <:+ l := by
  have hw := Js.ws_suffix l
  unfold Js.is at h
  split at h
  · cases h
  · rename_i d r' hr
    split at h
    · injection h with h
      subst h
      rw [hr] at hw
      exact (List.suffix_cons d _).trans hw
    · cases h
theorem Js.byte_of (n : Nat) (h : n < 256) : (UInt8.ofNat n).toNat = n := by
  rw [UInt8.toNat_ofNat']
  omega
theorem Js.sgn_rune {x : Nat} (h0 : x ≠ 0) (h1 : ¬ (55296 ≤ x ∧ x ≤ 57343)) (h2 : x ≤ 1114111) (q : List UInt8) : Pl.sgn (Pl.runeL x ++ q) = (Pl.runeL x).length ∧ (Pl.runeL x).length ≠ 0 := by
  unfold Pl.runeL
  rw [if_neg (by omega)]
  by_cases a1 : x < 128
  · rw [if_pos a1]
    refine ⟨?_, by simp⟩
    exact Pl.sgn_one _ _ (fun e => by have := congrArg UInt8.toNat e; rw [Js.byte_of x (by omega)] at this; exact h0 this) (by rw [Js.byte_of x (by omega)]; exact a1)
  · rw [if_neg a1]
    by_cases a2 : x < 2048
    · rw [if_pos a2]
      refine ⟨?_, by simp⟩
      show Pl.sgnN _ (UInt8.ofNat (192 + x / 64)).toNat (UInt8.ofNat (128 + x % 64)).toNat _ _ = 2
      rw [Js.byte_of _ (by omega), Js.byte_of _ (by omega)]
      unfold Pl.sgnN
      rw [if_neg (by omega), if_neg (by omega), if_neg (by omega), if_pos (by omega), if_pos ⟨by simp, by omega⟩]
    · rw [if_neg a2]
      by_cases a3 : x < 65536
      · rw [if_pos a3]
        refine ⟨?_, by simp⟩
        show Pl.sgnN _ (UInt8.ofNat (224 + x / 4096)).toNat (UInt8.ofNat (128 + x / 64 % 64)).toNat (UInt8.ofNat (128 + x % 64)).toNat _ = 3
        rw [Js.byte_of _ (by omega), Js.byte_of _ (by omega), Js.byte_of _ (by omega)]
        unfold Pl.sgnN
        rw [if_neg (by omega), if_neg (by omega), if_neg (by omega), if_neg (by omega), if_pos (by omega), if_pos ⟨by simp, by omega⟩]
      · rw [if_neg a3]
        refine ⟨?_, by simp⟩
        show Pl.sgnN _ (UInt8.ofNat (240 + x / 262144)).toNat (UInt8.ofNat (128 + x / 4096 % 64)).toNat (UInt8.ofNat (128 + x / 64 % 64)).toNat (UInt8.ofNat (128 + x % 64)).toNat = 4
        rw [Js.byte_of _ (by omega), Js.byte_of _ (by omega), Js.byte_of _ (by omega), Js.byte_of _ (by omega)]
        unfold Pl.sgnN
        rw [if_neg (by omega), if_neg (by omega), if_neg (by omega), if_neg (by omega), if_neg (by omega), if_pos (by omega), if_pos ⟨by simp, by omega⟩]
theorem Js.may_rune {x : Nat} (h0 : x ≠ 0) (h1 : ¬ (55296 ≤ x ∧ x ≤ 57343)) (h2 : x ≤ 1114111) (q : List UInt8) : Pl.mayL (Pl.runeL x ++ q) = Pl.mayL q := by
  obtain ⟨e, hne⟩ := Js.sgn_rune h0 h1 h2 q
  rw [Pl.mayL_sign _ (by rw [e]; exact hne), e, List.drop_left]
theorem Js.uni_may {r b r1 : List UInt8} (h : Js.uni r = some (b, r1)) (hz : Pl.pre [48, 48, 48, 48] r = false) (q : List UInt8) : Pl.mayL (b ++ q) = Pl.mayL q := by
  unfold Js.uni at h
  split at h
  · cases h
  · rename_i x r0 h4
    have hx := (Js.four_len h4).2.1
    split at h
    · split at h
      · rename_i _ b0 u0 r2
        split at h
        · split at h
          · cases h
          · rename_i y r3 h5
            split at h
            · simp only [Option.some.injEq, Prod.mk.injEq] at h
              rw [← h.1]
              exact Js.may_rune (by omega) (by omega) (by omega) q
            · cases h
        · cases h
      · cases h
    · split at h
      · cases h
      · simp only [Option.some.injEq, Prod.mk.injEq] at h
        rw [← h.1]
        have hx0 : x ≠ 0 := by
          rintro rfl
          match r, h4, hz with
          | a :: b' :: c :: d :: t, h4, hz =>
            rw [Js.four] at h4
            split at h4
            · rename_i hd
              simp only [Option.some.injEq, Prod.mk.injEq] at h4
              have hdig : ∀ c : UInt8, Pl.dig c = 0 → c = 48 := fun c hc => by
                have : ∀ n : Fin 256, (!decide (Pl.dig (UInt8.ofNat n.val) = 0) || decide (UInt8.ofNat n.val = 48)) = true := by decide +kernel
                have h1 := this ⟨c.toNat, c.toNat_lt⟩
                simp only [UInt8.ofNat_toNat] at h1
                rw [decide_eq_true hc] at h1
                exact of_decide_eq_true h1
              have e1 := hdig a (by omega)
              have e2 := hdig b' (by omega)
              have e3 := hdig c (by omega)
              have e4 := hdig d (by omega)
              rw [e1, e2, e3, e4] at hz
              exact absurd hz (by simp [Pl.pre, List.isPrefixOf])
            · cases h4
        rw [if_neg hx0]
        exact Js.may_rune hx0 (by omega) (by omega) q
theorem Js.escaped_may {r b r1 : List UInt8} (h : Js.escaped r = some (b, r1)) (hz : Pl.pre [117, 48, 48, 48, 48] r = false) (q : List UInt8) : Pl.mayL (b ++ q) = Pl.mayL q := by
  have hone : ∀ c : UInt8, c ≠ 0 → c.toNat < 128 → Pl.mayL ([c] ++ q) = Pl.mayL q := fun c h0 h1 => Pl.may_ascii [c] q fun d hd => by rw [List.mem_singleton.1 hd]; exact ⟨h0, h1⟩
  cases r with
  | nil => cases h
  | cons c r =>
    rw [Js.escaped] at h
    split at h
    · rename_i hc
      simp only [Option.some.injEq, Prod.mk.injEq] at h
      rw [← h.1]
      rcases hc with rfl | rfl | rfl <;> exact hone _ (by decide) (by decide)
    · split at h
      · simp only [Option.some.injEq, Prod.mk.injEq] at h
        rw [← h.1]; exact hone _ (by decide) (by decide)
      · split at h
        · simp only [Option.some.injEq, Prod.mk.injEq] at h
          rw [← h.1]; exact hone _ (by decide) (by decide)
        · split at h
          · simp only [Option.some.injEq, Prod.mk.injEq] at h
            rw [← h.1]; exact hone _ (by decide) (by decide)
          · split at h
            · simp only [Option.some.injEq, Prod.mk.injEq] at h
              rw [← h.1]; exact hone _ (by decide) (by decide)
            · split at h
              · simp only [Option.some.injEq, Prod.mk.injEq] at h
                rw [← h.1]; exact hone _ (by decide) (by decide)
              · split at h
                · rename_i hc
                  subst hc
                  refine Js.uni_may h ?_ q
                  rw [Pl.pre_cons] at hz
                  simpa using hz
                · cases h
theorem Js.textF_may : ∀ (f : Nat) (l b r : List UInt8), Js.textF f l = some (b, r) → Js.zeros l = false → Pl.mayL b = true ∧ r <:+ l
  | 0, _, _, _, h, _ => by cases h
  | f + 1, [], _, _, h, _ => by cases h
  | f + 1, c :: t, b, r, h, hz => by
    rw [Js.textF] at h
    split at h
    · simp only [Option.some.injEq, Prod.mk.injEq] at h
      obtain ⟨rfl, rfl⟩ := h
      exact ⟨rfl, List.suffix_cons _ _⟩
    · split at h
      · rename_i hc
        split at h
        · cases h
        · rename_i b1 r1 he
          obtain ⟨⟨q1, q2⟩, hq, e⟩ := Option.map_eq_some_iff.1 h
          simp only [Prod.mk.injEq] at e
          obtain ⟨rfl, rfl⟩ := e
          obtain ⟨_, _, _, k, hk⟩ := Js.escaped_len he
          have hs1 : r1 <:+ c :: t := by
            rw [hk]
            exact (List.drop_suffix k t).trans (List.suffix_cons _ _)
          obtain ⟨h1, h2⟩ := Js.textF_may f r1 q1 q2 hq (Js.zeros_suffix hs1 hz)
          have hz' : Pl.pre [117, 48, 48, 48, 48] t = false := by
            rw [Js.zeros, Bool.or_eq_false_iff] at hz
            have := hz.1
            rw [hc, Pl.pre_cons] at this
            simpa using this
          exact ⟨by rw [Js.escaped_may he hz']; exact h1, h2.trans hs1⟩
      · split at h
        · cases h
        · rename_i hs
          obtain ⟨⟨q1, q2⟩, hq, e⟩ := Option.map_eq_some_iff.1 h
          simp only [Prod.mk.injEq] at e
          obtain ⟨rfl, rfl⟩ := e
          have hs1 : (c :: t).drop (Pl.sgn (c :: t)) <:+ c :: t := List.drop_suffix _ _
          obtain ⟨h1, h2⟩ := Js.textF_may f _ q1 q2 hq (Js.zeros_suffix hs1 hz)
          exact ⟨by rw [Pl.mayL_take (c :: t) q1 (fun q => hs (.inr q))]; exact h1, h2.trans hs1⟩
theorem Js.text_may {l b r : List UInt8} (h : Js.text l = some (b, r)) (hz : Js.zeros l = false) : Pl.mayL b = true ∧ r <:+ l := Js.textF_may _ _ _ _ h hz
/-- read the same, with keys that are texts -/
def Js.Again (d : Nat) (t : Vt) : Prop := Js.back t = t ∧ Js.Keys d t ∧ Js.Bits t
theorem Js.again_leaf (d : Nat) (k x : Int) (hk : k < 3) : Js.Again d (Js.leaf k x 0 ⟨#[]⟩) := by
  refine ⟨?_, ?_, ?_⟩
  · unfold Js.leaf
    rw [Js.back, if_neg (by omega), if_neg (by omega), if_pos hk]
    rfl
  · cases d with
    | zero => exact trivial
    | succ d => exact ⟨fun j hj => absurd hj (by omega), fun i hi => absurd hi (by omega)⟩
  · exact ⟨by decide, fun i hi => absurd hi (by omega)⟩
theorem Js.again_text (d : Nat) (b : List UInt8) (h : Pl.mayL b = true) : Js.Again d (Js.leaf 4 0 0 ⟨b.toArray⟩) := by
  refine ⟨?_, ?_, ?_⟩
  · unfold Js.leaf
    rw [Js.back, if_neg (by decide), if_pos rfl]
    show Js.leaf 4 0 0 ⟨(Pl.normL b).toArray⟩ = _
    rw [Pl.norm_of_may b h]
    rfl
  · cases d with
    | zero => exact trivial
    | succ d => exact ⟨fun j hj => absurd hj (by omega), fun i hi => absurd hi (by omega)⟩
  · exact ⟨by decide, fun i hi => absurd hi (by omega)⟩
theorem Js.again_zero (d : Nat) : Js.Again d (Js.leaf 3 0 9223372036854775808 ⟨#[]⟩) := by
  refine ⟨?_, ?_, ?_⟩
  · unfold Js.leaf
    rw [Js.back, if_pos rfl]
    unfold Js.realBack
    have hk : Re.kind 9223372036854775808 = 2 := by decide +kernel
    rw [hk, if_neg (by decide), if_neg (by decide), if_pos rfl]
    rfl
  · cases d with
    | zero => exact trivial
    | succ d => exact ⟨fun j hj => absurd hj (by omega), fun i hi => absurd hi (by omega)⟩
  · exact ⟨by decide, fun i hi => absurd hi (by omega)⟩
theorem Js.getD_mem {α : Type} {l : List α} {j : Nat} {d : α} (h : j < l.length) : l.getD j d ∈ l := by
  rw [List.getD_eq_getElem?_getD, List.getElem?_eq_getElem h]
  exact List.getElem_mem h
theorem Js.again_node (d : Nat) (k : Int) (hk : 5 ≤ k) (ks : List ByteArray) (L : List Vt) (h1 : ∀ b ∈ ks, Pl.mayL b.data.toList = true) (h2 : ∀ t ∈ L, Js.Again d t) : Js.Again (d + 1) (Js.node k ks L) := by
  refine ⟨?_, ?_, ?_⟩
  · unfold Js.node
    rw [Js.back, if_neg (by omega), if_neg (by omega), if_neg (by omega)]
    congr 1
    · funext i
      split
      · rename_i hi
        exact (h2 _ (Js.getD_mem hi)).1
      · rename_i hi
        exact (Js.getD_beyond _ _ _ (by omega)).symm
    · funext j
      split
      · rfl
      · rename_i hj
        exact (Js.getD_beyond _ _ _ (by omega)).symm
  · exact ⟨fun j hj => h1 _ (Js.getD_mem hj), fun i hi => (h2 _ (Js.getD_mem hi)).2.1⟩
  · exact ⟨by decide, fun i hi => (h2 _ (Js.getD_mem hi)).2.2⟩
theorem Js.key_again {rec : Bool} {l r : List UInt8} {ks : List ByteArray} (h : Js.key rec l = some (ks, r)) (hz : Js.zeros l = false) : (∀ b ∈ ks, Pl.mayL b.data.toList = true) ∧ r <:+ l := by
  unfold Js.key at h
  split at h
  · split at h
    · cases h
    · rename_i r0 h0
      split at h
      · cases h
      · rename_i k r1 h1
        split at h
        · cases h
        · rename_i r2 h2
          simp only [Option.some.injEq, Prod.mk.injEq] at h
          obtain ⟨rfl, rfl⟩ := h
          have e0 := Js.is_suffix h0
          have e1 := Js.text_may h1 (Js.zeros_suffix e0 hz)
          have e2 := Js.is_suffix h2
          exact ⟨fun b hb => by rw [List.mem_singleton.1 hb]; exact e1.1, (e2.trans e1.2).trans e0⟩
  · simp only [Option.some.injEq, Prod.mk.injEq] at h
    obtain ⟨rfl, rfl⟩ := h
    exact ⟨fun b hb => (by cases hb), List.suffix_refl _⟩
theorem Js.items_again {val : List UInt8 → Option (Vt × List UInt8)} {d : Nat} (hv : ∀ l t r, val l = some (t, r) → Js.zeros l = false → Js.Again d t ∧ r <:+ l) (rec : Bool) (e : UInt8) : ∀ (f : Nat) (l : List UInt8) (p : List ByteArray × List Vt) (r : List UInt8), Js.itemsF val rec e f l = some (p, r) → Js.zeros l = false → (∀ b ∈ p.1, Pl.mayL b.data.toList = true) ∧ (∀ t ∈ p.2, Js.Again d t) ∧ r <:+ l
  | 0, _, _, _, h, _ => by cases h
  | f + 1, l, p, r, h, hz => by
    rw [Js.itemsF] at h
    split at h
    · cases h
    · rename_i ks r1 h1
      obtain ⟨k1, s1⟩ := Js.key_again h1 hz
      split at h
      · cases h
      · rename_i t r2 h2
        obtain ⟨k2, s2⟩ := hv _ _ _ h2 (Js.zeros_suffix s1 hz)
        split at h
        · rename_i r3 h3
          simp only [Option.some.injEq, Prod.mk.injEq] at h
          obtain ⟨rfl, rfl⟩ := h
          exact ⟨k1, fun x hx => by rw [List.mem_singleton.1 hx]; exact k2, ((Js.is_suffix h3).trans s2).trans s1⟩
        · split at h
          · cases h
          · rename_i r3 h3
            obtain ⟨⟨q1, q2⟩, hq, e'⟩ := Option.map_eq_some_iff.1 h
            simp only [Prod.mk.injEq] at e'
            obtain ⟨rfl, rfl⟩ := e'
            have s3 := ((Js.is_suffix h3).trans s2).trans s1
            obtain ⟨g1, g2, g3⟩ := Js.items_again hv rec e f r3 q1 q2 hq (Js.zeros_suffix s3 hz)
            refine ⟨fun b hb => ?_, fun x hx => ?_, g3.trans s3⟩
            · rcases List.mem_append.1 hb with q | q
              · exact k1 b q
              · exact g1 b q
            · rcases List.mem_cons.1 hx with rfl | q
              · exact k2
              · exact g2 x q
theorem Js.list_again {val : List UInt8 → Option (Vt × List UInt8)} {d : Nat} (hv : ∀ l t r, val l = some (t, r) → Js.zeros l = false → Js.Again d t ∧ r <:+ l) {rec : Bool} {e : UInt8} {l : List UInt8} {p : List ByteArray × List Vt} {r : List UInt8} (h : Js.list val rec e l = some (p, r)) (hz : Js.zeros l = false) : (∀ b ∈ p.1, Pl.mayL b.data.toList = true) ∧ (∀ t ∈ p.2, Js.Again d t) ∧ r <:+ l := by
  unfold Js.list at h
  split at h
  · rename_i r0 h0
    simp only [Option.some.injEq, Prod.mk.injEq] at h
    obtain ⟨rfl, rfl⟩ := h
    exact ⟨fun b hb => (by cases hb), fun t ht => (by cases ht), Js.is_suffix h0⟩
  · exact Js.items_again hv rec e _ _ _ _ h hz
theorem Js.numOf_again (d : Nat) {neg : Bool} {ds r r' : List UInt8} {t : Vt} (h : Js.numOf neg ds r = some (t, r')) : Js.Again d t := by
  unfold Js.numOf at h
  split at h
  · cases h
  · split at h
    · simp only [Option.some.injEq, Prod.mk.injEq] at h
      rw [← h.1]
      exact Js.again_zero d
    · simp only [Option.some.injEq, Prod.mk.injEq] at h
      rw [← h.1]
      exact Js.again_leaf d 2 _ (by decide)
theorem Js.number_again (d : Nat) {l r : List UInt8} {t : Vt} (h : Js.number l = some (t, r)) : Js.Again d t ∧ r <:+ l := by
  unfold Js.number at h
  split at h
  · have := (Js.numOf_rest h).2
    subst this
    exact ⟨Js.numOf_again d h, (List.dropWhile_suffix _).trans (List.drop_suffix 1 l)⟩
  · have := (Js.numOf_rest h).2
    subst this
    exact ⟨Js.numOf_again d h, List.dropWhile_suffix _⟩
theorem Js.value_again : ∀ (d : Nat) (l : List UInt8) (t : Vt) (r : List UInt8), Js.value d l = some (t, r) → Js.zeros l = false → Js.Again d t ∧ r <:+ l
  | 0, _, _, _, h, _ => by cases h
  | d + 1, l0, t, r, h, hz0 => by
    rw [Js.value] at h
    have hw := Js.ws_suffix l0
    have hz := Js.zeros_suffix hw hz0
    generalize Js.ws l0 = l at h hw hz
    suffices Js.Again (d + 1) t ∧ r <:+ l from ⟨this.1, this.2.trans hw⟩
    unfold Js.at at h
    split at h
    · cases h
    · split at h
      · simp only [Option.some.injEq, Prod.mk.injEq] at h
        rw [← h.1, ← h.2]
        exact ⟨Js.again_leaf _ 0 0 (by decide), List.drop_suffix _ _⟩
      · split at h
        · simp only [Option.some.injEq, Prod.mk.injEq] at h
          rw [← h.1, ← h.2]
          exact ⟨Js.again_leaf _ 1 1 (by decide), List.drop_suffix _ _⟩
        · split at h
          · simp only [Option.some.injEq, Prod.mk.injEq] at h
            rw [← h.1, ← h.2]
            exact ⟨Js.again_leaf _ 1 0 (by decide), List.drop_suffix _ _⟩
          · have hs := List.drop_suffix 1 l
            split at h
            · obtain ⟨⟨q1, q2⟩, hq, e⟩ := Option.map_eq_some_iff.1 h
              simp only [Prod.mk.injEq] at e
              rw [← e.1, ← e.2]
              have := Js.text_may hq (Js.zeros_suffix hs hz)
              exact ⟨Js.again_text _ _ this.1, this.2.trans hs⟩
            · split at h
              · obtain ⟨⟨q1, q2⟩, hq, e⟩ := Option.map_eq_some_iff.1 h
                simp only [Prod.mk.injEq] at e
                rw [← e.1, ← e.2]
                obtain ⟨g1, g2, g3⟩ := Js.list_again (Js.value_again d) hq (Js.zeros_suffix hs hz)
                exact ⟨Js.again_node d 5 (by decide) _ _ g1 g2, g3.trans hs⟩
              · split at h
                · obtain ⟨⟨q1, q2⟩, hq, e⟩ := Option.map_eq_some_iff.1 h
                  simp only [Prod.mk.injEq] at e
                  rw [← e.1, ← e.2]
                  obtain ⟨g1, g2, g3⟩ := Js.list_again (Js.value_again d) hq (Js.zeros_suffix hs hz)
                  exact ⟨Js.again_node d 6 (by decide) _ _ g1 g2, g3.trans hs⟩
                · exact Js.number_again _ h
theorem Js.get_parts {l : List UInt8} {t : Vt} (h : Js.get l = some t) : l.length ≤ 65536 ∧ t.may = true ∧ ∃ r, Js.value 8 l = some (t, r) ∧ Js.ws r = [] := by
  unfold Js.get at h
  split at h
  · cases h
  · rename_i hl
    split at h
    · cases h
    · rename_i t' r hv
      split at h
      · rename_i hw
        injection h with h
        subst h
        exact ⟨by omega, hw.2, r, hv, hw.1⟩
      · cases h
theorem Js.get_again {l : List UInt8} {t : Vt} (h : Js.get l = some t) (hz : Js.zeros l = false) (hl : (Js.put t).length ≤ 65536) : Js.get (Js.put t) = some t := by
  obtain ⟨_, hm, r, hv, _⟩ := Js.get_parts h
  obtain ⟨⟨h1, h2, h3⟩, _⟩ := Js.value_again 8 l t r hv hz
  have := Js.get_put hm h3 h2 hl
  rw [h1] at this
  exact this
end Go.Proofs.YtboalkfagfgnpabDoor
/-
  PLAIN: single JSON texts.
-/
namespace Go.Proofs.YtboalkfagfgnpabDoor
def Js.w1 : Vt := Js.node 6 [⟨#[97]⟩] [Js.node 5 [] [Js.leaf 2 1 0 ⟨#[]⟩, Js.leaf 4 0 0 ⟨#[240, 159, 152, 128, 10]⟩, Js.leaf 3 0 9223372036854775808 ⟨#[]⟩, Js.leaf 0 0 0 ⟨#[]⟩]]
def Js.l1 : List UInt8 := [123, 32, 34, 97, 34, 32, 58, 32, 91, 49, 44, 32, 34, 92, 117, 100, 56, 51, 100, 92, 117, 100, 101, 48, 48, 92, 110, 34, 44, 32, 45, 48, 44, 32, 110, 117, 108, 108, 93, 32, 125]
theorem Js.g1 : Js.get Js.l1 = some Js.w1 := by kernel_rfl
theorem Js.g2 : Js.get [123, 34, 98, 34, 58, 49, 44, 34, 97, 34, 58, 50, 125] = none := by kernel_rfl
theorem Js.g3 : Js.get [48, 49] = none := by kernel_rfl
def Js.bads : List (List UInt8) := [[], [32], [110, 117, 108], [110, 117, 108, 108, 108], [84, 114, 117, 101], [48, 49], [45], [43, 49], [49, 46], [49, 46, 48], [49, 101, 53], [57, 48, 48, 55, 49, 57, 57, 50, 53, 52, 55, 52, 48, 57, 57, 50], [34], [34, 97], [34, 10, 34], [34, 92, 120, 34], [34, 92, 117, 49, 50, 34], [34, 92, 117, 100, 56, 48, 48, 34], [34, 92, 117, 100, 99, 48, 48, 34], [34, 92, 117, 100, 56, 48, 48, 92, 117, 48, 48, 52, 49, 34], [34, 255, 34], [91], [91, 49], [91, 49, 44, 93], [91, 44, 49, 93], [91, 49, 32, 50, 93], [123], [123, 34, 97, 34, 125], [123, 34, 97, 34, 58, 125], [123, 34, 97, 34, 58, 49, 44, 125], [123, 97, 58, 49, 125], [123, 34, 98, 34, 58, 49, 44, 34, 97, 34, 58, 49, 125], [123, 34, 97, 34, 58, 49, 44, 34, 97, 34, 58, 49, 125], [123, 34, 34, 58, 49, 125], [49, 32, 49], [91, 91, 91, 91, 91, 91, 91, 91, 49, 93, 93, 93, 93, 93, 93, 93, 93], [39, 97, 39], [78, 97, 78]]
theorem Js.bad : Js.bads.all (fun l => (Js.get l).isNone) = true := by decide +kernel
end Go.Proofs.YtboalkfagfgnpabDoor
/-
  THE WALKS of the program's value.areKeys.
-/
namespace Go.Proofs.YtboalkfagfgnpabDoor
open Go.RowKit

set_option maxRecDepth 100000 in
theorem Vm.keys (m : Nat) (ks : Nat → ByteArray) (ak : Option Addr) (d : Nat) (R : Nat → Prop) (w : World) (h : Vt.Keys w R m ks ak d) :
    Calls Tryd.prog 58 #[.slice ak m d] w fun e w' => e = .returned (.bool (Vt.keysOk ks m)) ∧ w' = w := by
  have hm : m ≤ 9223372036854775807 := by have := h.le; have := h.max; unfold maxLen at this; omega
  go_enter Tryd.func58, Tryd.ntmps58
  go_wp2
  go_loop [3, 8] (fun p i => ∃ j : Nat, j ≤ m ∧ i = .int .i64 j ∧ p = .string (Vt.prev ks j) ∧ Hid (Vt.keysOk ks j = true)) (fun _ i => m - (intOf i).toNat)
  case atStart => exact ⟨0, Nat.zero_le _, by go_num, rfl, rfl⟩
  case round =>
    obtain ⟨j, hj, rfl, rfl, HK⟩ := hrel
    by_cases hjm : j < m
    · obtain ⟨b, o, rfl, _, hc⟩ := h.cell j hjm
      have hle : j < d := Nat.lt_of_lt_of_le hjm h.le
      have hmd := h.le
      have HN : Hid (Vt.key ks j = (!(Op.bytesLess (ks j).toList (Vt.prev ks j).toList || (ks j).toList == (Vt.prev ks j).toList) && decide ((ks j).size ≤ 32))) := rfl
      have HP : Hid (Vt.prev ks (j + 1) = ks j) := rfl
      have HA : Hid (Vt.key ks j = false → Vt.keysOk ks m = false) := fun hx => Vt.keysOk_no hx hjm
      have HB : Hid (Vt.key ks j = true → Vt.keysOk ks (j + 1) = true) := fun hx => by simp only [Vt.keysOk]; rw [HK.out, hx]; rfl
      generalize hX : ks j = X at *
      clear hX
      generalize Vt.prev ks j = Y at *
      cases hl : (Op.bytesLess X.toList Y.toList || X.toList == Y.toList) with
      | true =>
        have HX : Hid (Vt.key ks j = false) := by
          have := HN.out
          rw [hl] at this
          exact this
        clear HN
        go_wp2
        go_ret
        rw [HA.out HX.out]
        exact ⟨rfl, rfl⟩
      | false =>
        by_cases hs : X.size ≤ 32
        · have hs' : decide (32 < (X.size : Int)) = false := decide_eq_false (by omega)
          have HX : Hid (Vt.key ks j = true) := by
            have := HN.out
            rw [hl, decide_eq_true hs] at this
            exact this
          clear HN
          go_wp2
          refine ⟨⟨j + 1, by omega, by go_num, by rw [HP.out], HB.out HX.out⟩, ?_⟩
          simp [intOf]
          omega
        · have hs' : decide (32 < (X.size : Int)) = true := decide_eq_true (by omega)
          have HX : Hid (Vt.key ks j = false) := by
            have := HN.out
            rw [hl, decide_eq_false hs] at this
            exact this
          clear HN
          go_wp2
          go_ret
          rw [HA.out HX.out]
          exact ⟨rfl, rfl⟩
    · have e : j = m := by omega
      subst e
      go_wp2
      go_ret
      rw [HK.out]
      exact ⟨rfl, rfl⟩

end Go.Proofs.YtboalkfagfgnpabDoor

/-
  THE WALK of stolelaw3.RealSigns, at whatever bits: it returns true, and turns nothing that was there.
-/
import Derived.Test.YtaomgpldbcfgnaaDoorReAwake
namespace Go.Proofs.YtaomgpldbcfgnaaDoor
open Go.RowKit

/-- the bits without the sign; those with it -/
theorem Sg.same (b : Nat) (c : Nat) (hc : c = b % 9223372036854775808 + 9223372036854775808) :
    Re.ef c = Re.ef (b % 9223372036854775808) ∧ Re.fr c = Re.fr (b % 9223372036854775808) ∧ Re.neg c = true ∧ Re.neg (b % 9223372036854775808) = false ∧ c < 18446744073709551616 := by
  subst hc
  refine ⟨by unfold Re.ef; omega, by unfold Re.fr; omega, ?_, ?_, by omega⟩
  · unfold Re.neg; apply decide_eq_true; omega
  · unfold Re.neg; apply decide_eq_false; omega

theorem Sg.and (b : Nat) (hb : b < 18446744073709551616) : Go.bits .and .u64 (b : Int) 9223372036854775807 = ((b % 9223372036854775808 : Nat) : Int) := by
  have h := bits_and_u64_nat b 9223372036854775807 hb (by omega)
  rw [show (9223372036854775807 : Nat) = 2 ^ 63 - 1 by decide, Nat.and_two_pow_sub_one_eq_mod] at h
  exact h
theorem Sg.orN (b : Nat) (hb : b < 18446744073709551616) : b ||| 9223372036854775808 = b % 9223372036854775808 + 9223372036854775808 := by
  have e := Nat.two_pow_add_eq_or_of_lt (i := 63) (b := b % 9223372036854775808) (by omega) 1
  rw [show 2 ^ 63 * 1 = 9223372036854775808 by decide] at e
  rw [Nat.add_comm, e]
  by_cases h : b < 9223372036854775808
  · rw [Nat.mod_eq_of_lt h, Nat.or_comm]
  · have h2 : b = 9223372036854775808 ||| b % 9223372036854775808 := by rw [← e]; omega
    conv => lhs; rw [h2]
    rw [Nat.or_comm, ← Nat.or_assoc, Nat.or_self]
theorem Sg.or (b : Nat) (hb : b < 18446744073709551616) : Go.bits .or .u64 (b : Int) 9223372036854775808 = ((b % 9223372036854775808 + 9223372036854775808 : Nat) : Int) := by
  have h := bits_or_u64_nat b 9223372036854775808 hb (by omega)
  rw [Sg.orN b hb] at h
  exact h

theorem Sg.decDigits_head (u : Nat) : ∃ c l, Lib.decDigits u = c :: l ∧ c ≠ 45 := by
  induction u using Nat.strongRecOn with
  | _ u ih =>
    rw [Lib.decDigits]
    by_cases h : u < 10
    · rw [dif_pos h]
      refine ⟨_, [], rfl, ?_⟩
      have ha : ∀ u, u < 10 → UInt8.ofNat (48 + u) ≠ 45 := by decide
      exact ha u h
    · rw [dif_neg h]
      obtain ⟨c, l, e, hc⟩ := ih (u / 10) (by omega)
      exact ⟨c, l ++ [UInt8.ofNat (48 + u % 10)], by rw [e]; rfl, hc⟩

/-- a real and the one of the other sign -/
structure Sg.Two (a c : Nat) : Prop where
  kind : Re.kind c = Re.kind a
  is : Re.is c = Re.is a
  whole : Re.whole a = -Re.whole c
  text : Re.kind a ≠ 0 → Re.text c = 45 :: Re.text a
  head : Re.kind a ≠ 0 → ∃ x l, Re.text a = x :: l ∧ x ≠ 45
  nan : Re.kind a = 0 → Re.text a = [78, 97, 78] ∧ Re.text c = [78, 97, 78]
  isK : Re.kind a ≠ 0 → Re.is a = (decide (Re.kind a = 2) || decide (Re.kind a = 3))

theorem Sg.two (a c : Nat) (h1 : Re.ef c = Re.ef a) (h2 : Re.fr c = Re.fr a) (h3 : Re.neg c = true) (h4 : Re.neg a = false) : Sg.Two a c := by
  have em : Re.mag c = Re.mag a := by unfold Re.mag; rw [h1, h2]
  have ed : Re.down c = Re.down a := by unfold Re.down; rw [h1]
  have ei : Re.is c = Re.is a := by unfold Re.is; rw [h1, em, ed]
  have ek : Re.kind c = Re.kind a := by unfold Re.kind; rw [h1, h2, em, ei]
  have ea : Re.abs c = Re.abs a := by unfold Re.abs; rw [em, ed]
  have ew : Re.whole a = -Re.whole c := by
    unfold Re.whole
    rw [ei, ea, h3, h4]
    cases Re.is a <;> simp [Re.sgn]
  have eo : Re.odd c = Re.odd a := by unfold Re.odd Re.zeros; rw [em]
  have ep : Re.pow c = Re.pow a := by unfold Re.pow Re.zeros Re.at; rw [em, h1]
  have sc : Re.sign c = [45] := by unfold Re.sign; rw [h3]; rfl
  have sa : Re.sign a = [] := by unfold Re.sign; rw [h4]; rfl
  have tt : ∀ k, Re.kind a = k → k ≤ 4 → k ≠ 0 → Re.text c = 45 :: Re.text a ∧ ∃ x l, Re.text a = x :: l ∧ x ≠ 45 := by
    intro k hk hl h0
    unfold Re.text
    rw [ek, hk, sc, sa, eo, ep]
    match k, hl, h0 with
    | 1, _, _ => exact ⟨rfl, _, _, rfl, by decide⟩
    | 2, _, _ => exact ⟨rfl, _, _, rfl, by decide⟩
    | 3, _, _ =>
      have hi : Re.is a = true ∧ Re.mag a ≠ 0 := by
        unfold Re.kind at hk
        by_cases q : Re.ef a = 2047
        · rw [if_pos q] at hk; split at hk <;> omega
        · rw [if_neg q] at hk
          by_cases q2 : Re.mag a = 0
          · rw [if_pos q2] at hk; omega
          · rw [if_neg q2] at hk
            cases hi : Re.is a
            · rw [hi] at hk; simp at hk
            · exact ⟨rfl, q2⟩
      have hw : Re.whole a = (Re.abs a : Int) := by unfold Re.whole; rw [hi.1, h4]; rfl
      have h1' : 1 ≤ Re.abs a := by
        have h5 := of_decide_eq_true hi.1
        have h6 := Nat.div_add_mod (Re.mag a) (2 ^ Re.down a)
        rw [h5.2] at h6
        apply Nat.one_le_iff_ne_zero.2
        intro h7
        apply hi.2
        have h8 : Re.mag a / 2 ^ Re.down a = 0 := h7
        rw [h8] at h6
        simpa using h6.symm
      have hw2 : Re.whole c = -(Re.abs a : Int) := by omega
      rw [hw, hw2]
      show Lib.itoa (-(Re.abs a : Int)) = 45 :: Lib.itoa (Re.abs a : Int) ∧ _
      rw [Lib.itoa_neg _ h1', Lib.itoa_nonneg]
      exact ⟨rfl, Sg.decDigits_head _⟩
    | 4, _, _ =>
      refine ⟨by simp, ?_⟩
      obtain ⟨x, l, e, hx⟩ := Sg.decDigits_head (Re.odd a)
      exact ⟨x, l ++ [112] ++ Lib.itoa (Re.pow a), by rw [e]; simp, hx⟩
  refine ⟨ek, ei, ew, fun h => (tt _ rfl (Rt.kind_le a) h).1, fun h => (tt _ rfl (Rt.kind_le a) h).2, ?_, ?_⟩
  · intro h
    unfold Re.text
    rw [ek, h]
    exact ⟨rfl, rfl⟩
  · intro h
    unfold Re.kind at h ⊢
    by_cases q : Re.ef a = 2047
    · have q1 : Re.is a = false := by unfold Re.is; apply decide_eq_false; omega
      rw [if_pos q] at h ⊢
      by_cases q2 : Re.fr a = 0
      · rw [if_pos q2, q1]; rfl
      · rw [if_neg q2] at h; omega
    · rw [if_neg q]
      by_cases q2 : Re.mag a = 0
      · rw [if_pos q2]
        unfold Re.is
        rw [q2, Nat.zero_mod]
        have q3 : Re.ef a = 0 := by
          unfold Re.mag at q2
          by_cases q4 : Re.ef a = 0
          · exact q4
          · rw [if_neg q4] at q2; omega
        rw [q3]; rfl
      · rw [if_neg q2]
        cases Re.is a <;> rfl

theorem Sg.text_le (a : Nat) : (Re.text a).length ≤ 60 := by
  have hs := Rt.sign_le a
  unfold Re.text
  match hk : Re.kind a with
  | 0 => simp
  | 1 => simp; omega
  | 2 => simp; omega
  | 3 =>
    have h := Rt.whole_le a
    have := Rt.itoa_le _ h.1 h.2
    show (Lib.itoa (Re.whole a)).length ≤ 60
    omega
  | 4 =>
    have hm := (Rt.kind4 a hk).1
    have h := Rt.pow_le a hm
    have h1 := Rt.itoa_le _ h.1 h.2
    have h2 := Rt.dec_le _ (Rt.odd_lt a)
    show (Re.sign a ++ Lib.decDigits (Re.odd a) ++ [112] ++ Lib.itoa (Re.pow a)).length ≤ 60
    simp
    omega
  | n + 5 => have := Rt.kind_le a; omega

set_option maxRecDepth 100000 in
set_option maxHeartbeats 1000000 in
theorem Law.realSigns (b : Nat) (hb : b < 18446744073709551616) (w : World) (h : Re.Tabs w) :
    Calls Tryd.prog 6 #[.int .u64 (b : Int)] w fun e w' => e = .returned (.bool true) ∧ Below w.heap.size w w' := by
  have hA := Aw.awake w h
  have e1 := Sg.and b hb
  have e2 := Sg.or b hb
  obtain ⟨c, hc⟩ : ∃ c, c = b % 9223372036854775808 + 9223372036854775808 := ⟨_, rfl⟩
  obtain ⟨g1, g2, g3, g4, hcl⟩ := Sg.same b c hc
  rw [← hc] at e2
  obtain ⟨a, ha⟩ : ∃ a, a = b % 9223372036854775808 := ⟨_, rfl⟩
  rw [← ha] at e1 g1 g2 g4
  have hal : a < 18446744073709551616 := by omega
  have two := Sg.two a c g1 g2 g3 g4
  clear hc ha g1 g2 g3 g4
  have ta := Rt.text a hal
  have tc := Rt.text c hcl
  have wa := Rk.whole a hal
  have wc := Rk.whole c hcl
  have ka := Rk.kind a hal
  have kc := Rk.kind c hcl
  have hle := Sg.text_le a
  have hwl := Rt.whole_le c
  rw [two.kind] at kc
  rw [two.is] at wc
  rw [two.whole] at wa
  generalize Re.whole c = n at wa wc hwl
  by_cases k0 : Re.kind a = 0
  · obtain ⟨q1, q2⟩ := two.nan k0
    rw [q1] at ta
    rw [q2] at tc
    rw [k0] at ka kc
    clear two q1 q2 hle
    generalize Re.is a = i at wa wc
    go_enter Tryd.func6, Tryd.ntmps6
    go_wp2_with fail
    refine hA.mono ?_
    rintro e w1 ⟨rfl, b1⟩
    have h1 := h.on b1
    go_wp2_with fail
    refine (ta _ h1).mono ?_
    rintro e w2 ⟨rfl, b2⟩
    have h2 := h1.on b2
    have b2' := Rt.step b1 b2
    go_wp2_with fail
    refine (tc _ h2).mono ?_
    rintro e w3 ⟨rfl, b3⟩
    have b3' := Rt.step b2' b3
    clear b1 b2 b3 b2' h1 h2 ta tc
    go_wp2_with fail
    refine (wa _).mono ?_
    rintro e w4 ⟨rfl, rfl⟩
    go_wp2_with fail
    refine (wc _).mono ?_
    rintro e w4 ⟨rfl, rfl⟩
    go_wp2_with fail
    refine (ka _).mono ?_
    rintro e w4 ⟨rfl, rfl⟩
    go_wp2_with fail
    refine (kc _).mono ?_
    rintro e w4 ⟨rfl, rfl⟩
    go_wp2_with fail
    go_ret
    exact ⟨rfl, b3'⟩
  · have q1 := two.text k0
    obtain ⟨x, l, q2, q3⟩ := two.head k0
    have q4 := two.isK k0
    rw [q1] at tc
    rw [q4] at wa wc
    rw [q2] at ta tc hle
    clear two q1 q4 q2
    generalize Re.kind a = k at wa wc ka kc k0
    obtain ⟨S, hS⟩ : ∃ S : ByteArray, S = ⟨(x :: l).toArray⟩ := ⟨_, rfl⟩
    have hSz : S.size ≤ 60 := by rw [hS, Rt.size]; exact hle
    have hSn : 0 < S.size := by rw [hS, Rt.size]; simp
    have hcat : (⟨#[45]⟩ : ByteArray) ++ S = ⟨(45 :: x :: l).toArray⟩ := by rw [hS]; exact Rt.cat [45] (x :: l)
    have hx : S[0]'hSn = x := by subst hS; rfl
    have hST : ¬ S.toList = [] := by rw [hS, ByteArray.toList_mk]; simp
    have hSE : S.toList.isEmpty = false := by
      cases q : S.toList with
      | nil => exact absurd q hST
      | cons y ys => rfl
    rw [← hS] at ta
    rw [← hcat] at tc
    clear hS hcat
    have hx1 : ¬ ((S[0]'hSn).toNat : Int) = 45 := by
      rw [hx]
      intro q
      apply q3
      apply UInt8.toNat_inj.1
      have : (45 : UInt8).toNat = 45 := rfl
      omega
    have hx2 : (((S[0]'hSn).toNat : Int) == 45) = false := beq_eq_false_iff_ne.2 hx1
    have hx3 : (((S[0]'hSn).toNat : Int) != 45) = true := bne_iff_ne.2 hx1
    have hk2 : ((k : Int) == 2) = decide (k = 2) := by
      by_cases q : k = 2
      · subst q; rfl
      · rw [decide_eq_false q]; exact beq_eq_false_iff_ne.2 (by omega)
    have hk3 : ((k : Int) == 3) = decide (k = 3) := by
      by_cases q : k = 3
      · subst q; rfl
      · rw [decide_eq_false q]; exact beq_eq_false_iff_ne.2 (by omega)
    have hk0 : ((k : Int) == 0) = false := beq_eq_false_iff_ne.2 (by omega)
    generalize decide (k = 2) = i2 at wa wc hk2
    generalize decide (k = 3) = i3 at wa wc hk3
    clear hle hx
    obtain ⟨V, hV⟩ : ∃ V : ByteArray, (⟨#[45]⟩ : ByteArray) ++ S = V := ⟨_, rfl⟩
    have hVz : V.size ≤ 61 := by rw [← hV, ByteArray.size_append]; have : (⟨#[45]⟩ : ByteArray).size = 1 := rfl; omega
    rw [hV] at tc
    go_enter Tryd.func6, Tryd.ntmps6
    go_wp2_with fail
    refine hA.mono ?_
    rintro e w1 ⟨rfl, b1⟩
    have h1 := h.on b1
    go_wp2_with fail
    refine (ta _ h1).mono ?_
    rintro e w2 ⟨rfl, b2⟩
    have h2 := h1.on b2
    have b2' := Rt.step b1 b2
    go_wp2_with fail
    refine (tc _ h2).mono ?_
    rintro e w3 ⟨rfl, b3⟩
    have b3' := Rt.step b2' b3
    clear b1 b2 b3 b2' h1 h2 ta tc
    go_wp2_with fail
    refine (wa _).mono ?_
    rintro e w4 ⟨rfl, rfl⟩
    go_wp2_with fail
    refine (wc _).mono ?_
    rintro e w4 ⟨rfl, rfl⟩
    go_wp2_with fail
    refine (ka _).mono ?_
    rintro e w4 ⟨rfl, rfl⟩
    go_wp2_with fail
    refine (kc _).mono ?_
    rintro e w4 ⟨rfl, rfl⟩
    cases i2
    all_goals
      go_wp2_with fail
      go_ret
      exact ⟨rfl, b3'⟩
end Go.Proofs.YtaomgpldbcfgnaaDoor

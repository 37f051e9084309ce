/-
  THE WALK of stolelaw3.RealOthers, at whatever number, power and sign: it returns true, and turns nothing that was there.
-/
import Derived.Test.YtaomgpldbcfgnaaDoorRealWholes
namespace Go.Proofs.YtaomgpldbcfgnaaDoor
open Go.RowKit

theorem Ot.and9 (x : Int) : ∃ k : Nat, k < 512 ∧ Go.bits .and .i64 x 511 = (k : Int) := by
  have hm : (BitVec.ofInt 64 511).toNat = 2 ^ 9 - 1 := by decide
  have key : (BitVec.ofInt 64 x &&& BitVec.ofInt 64 511).toNat = (x % ((2 ^ 64 : Nat) : Int)).toNat % 2 ^ 9 := by
    rw [BitVec.toNat_and, BitVec.toNat_ofInt, hm, Nat.and_two_pow_sub_one_eq_mod]
  refine ⟨(x % ((2 ^ 64 : Nat) : Int)).toNat % 2 ^ 9, by omega, ?_⟩
  show IntKind.i64.wrap ((BitVec.ofInt 64 x &&& BitVec.ofInt 64 511).toNat : Nat) = _
  rw [key, IntKind.wrap_i64]
  omega
/-- the odd number -/
theorem Ot.or1 (m : Nat) (hm : m < 4503599627370496) : Go.bits .or .u64 (m : Int) 1 = ((2 * (m / 2) + 1 : Nat) : Int) := by
  have h := bits_or_u64_nat m 1 (by omega) (by omega)
  have e : m ||| 1 = 2 * (m / 2) + 1 := by
    apply Nat.eq_of_testBit_eq
    intro i
    cases i with
    | zero => simp
    | succ i =>
      rw [Nat.testBit_or, Nat.testBit_succ, Nat.testBit_succ, Nat.testBit_succ, show (1 / 2 : Nat) = 0 by decide, show (2 * (m / 2) + 1) / 2 = m / 2 by omega]
      simp
  rw [e] at h
  exact h

theorem Ot.two_adic (a b m n : Nat) (h : 2 ^ a * (2 * m + 1) = 2 ^ b * (2 * n + 1)) : a = b := by
  rcases Nat.lt_trichotomy a b with h1 | h1 | h1
  · exfalso
    obtain ⟨d, rfl⟩ : ∃ d, b = a + (d + 1) := ⟨b - a - 1, by omega⟩
    rw [Nat.pow_add, Nat.mul_assoc] at h
    have h2 := Nat.eq_of_mul_eq_mul_left (Nat.two_pow_pos a) h
    rw [Nat.pow_succ, Nat.mul_comm (2 ^ d) 2, Nat.mul_assoc] at h2
    omega
  · exact h1
  · exfalso
    obtain ⟨d, rfl⟩ : ∃ d, a = b + (d + 1) := ⟨a - b - 1, by omega⟩
    rw [Nat.pow_add, Nat.mul_assoc] at h
    have h2 := Nat.eq_of_mul_eq_mul_left (Nat.two_pow_pos b) h
    rw [Nat.pow_succ, Nat.mul_comm (2 ^ d) 2, Nat.mul_assoc] at h2
    omega
theorem Ot.ctz (m j : Nat) (h : (2 * m + 1) * 2 ^ j < 18446744073709551616) : Lib.ctz 64 ((2 * m + 1) * 2 ^ j) = j := by
  have h0 : 0 < (2 * m + 1) * 2 ^ j := Nat.mul_pos (by omega) (Nat.two_pow_pos j)
  obtain ⟨n, hn, _⟩ := Lib.ctzFrom_spec 64 _ h0 h
  unfold Lib.ctz
  rw [if_neg (by omega)]
  rw [Nat.mul_comm (2 * m + 1)] at hn ⊢
  exact (Ot.two_adic _ _ _ _ hn).symm

/-- the bits of an odd number by a power -/
structure Ot.Made (o q : Nat) (s : Bool) (b : Nat) : Prop where
  lt : b < 18446744073709551616
  is : Re.is b = false
  kind : Re.kind b = 4
  whole : Re.whole b = 0
  text : Re.text b = (if s then [45] else []) ++ Lib.decDigits o ++ [112] ++ (45 :: Lib.decDigits q)

theorem Ot.made (o t q n : Nat) (s : Bool) (ho : o = 2 * n + 1) (h0 : 2 ^ t ≤ o) (h1 : o < 2 ^ (t + 1)) (ht : t ≤ 51) (hq0 : 1 ≤ q) (hq : q ≤ 512) (b : Nat)
    (hb : b = (if s then 9223372036854775808 else 0) + (t + 1023 - q) * 4503599627370496 + (o * 2 ^ (52 - t) - 4503599627370496)) : Ot.Made o q s b := by
  have hX : 4503599627370496 ≤ o * 2 ^ (52 - t) ∧ o * 2 ^ (52 - t) < 9007199254740992 := by
    have h4 : 2 ^ t * 2 ^ (52 - t) = 4503599627370496 := by rw [← Nat.pow_add, show t + (52 - t) = 52 by omega]
    have h5 : 2 ^ (t + 1) * 2 ^ (52 - t) = 9007199254740992 := by rw [← Nat.pow_add, show t + 1 + (52 - t) = 53 by omega]
    refine ⟨?_, ?_⟩
    · rw [← h4]; exact Nat.mul_le_mul_right _ h0
    · rw [← h5]; exact Nat.mul_lt_mul_of_pos_right h1 (Nat.two_pow_pos _)
  obtain ⟨X, eX⟩ : ∃ X, o * 2 ^ (52 - t) = X := ⟨_, rfl⟩
  rw [eX] at hX hb
  have hs : Re.neg b = s := by
    unfold Re.neg
    cases s
    · apply decide_eq_false; simp at hb; omega
    · apply decide_eq_true; simp at hb; omega
  have hlt : b < 18446744073709551616 := by cases s <;> simp at hb <;> omega
  have he : Re.ef b = t + 1023 - q := by unfold Re.ef; cases s <;> simp at hb <;> omega
  have hf : Re.fr b = X - 4503599627370496 := by unfold Re.fr; cases s <;> simp at hb <;> omega
  have hm : Re.mag b = X := by unfold Re.mag; rw [if_neg (by omega), hf]; omega
  have hd : Re.down b = (52 - t) + q := by unfold Re.down; rw [if_neg (by omega), he]; omega
  have hi : Re.is b = false := by
    unfold Re.is
    apply decide_eq_false
    rintro ⟨_, h⟩
    rw [hm, hd, ← eX, Nat.pow_add, Nat.mul_comm o, Nat.mul_mod_mul_left] at h
    have h2 : o % 2 ^ q = 0 := by
      rcases Nat.mul_eq_zero.1 h with h3 | h3
      · have := Nat.two_pow_pos (52 - t); omega
      · exact h3
    obtain ⟨r, rfl⟩ : ∃ r, q = r + 1 := ⟨q - 1, by omega⟩
    have h3 := Nat.div_add_mod o (2 ^ (r + 1))
    rw [h2, Nat.pow_succ, Nat.mul_comm (2 ^ r) 2, Nat.mul_assoc] at h3
    omega
  have hkd : Re.kind b = 4 := by
    unfold Re.kind
    rw [if_neg (by omega), if_neg (by omega), hi]
    rfl
  have hz : Re.zeros b = 52 - t := by
    unfold Re.zeros
    rw [hm, ← eX, ho]
    exact Ot.ctz n (52 - t) (by rw [← ho, eX]; omega)
  have hodd : Re.odd b = o := by
    unfold Re.odd
    rw [hz, hm, ← eX]
    exact Nat.mul_div_cancel _ (Nat.two_pow_pos _)
  have hpow : Re.pow b = -(q : Int) := by
    unfold Re.pow Re.at
    rw [hz, if_neg (by omega), he]
    omega
  have hw : Re.whole b = 0 := by unfold Re.whole; rw [hi]; rfl
  refine ⟨hlt, hi, hkd, hw, ?_⟩
  unfold Re.text
  rw [hkd]
  show Re.sign b ++ Lib.decDigits (Re.odd b) ++ [112] ++ Lib.itoa (Re.pow b) = _
  rw [hodd, hpow, Lib.itoa_neg q hq0]
  unfold Re.sign
  rw [hs]

theorem Ot.decimal (k : Nat) (hk : k < 9223372036854775808) (z : Int) (hz : z = (k : Int)) (w : World) :
    Calls Tryd.prog 15 #[.int .i64 z] w fun e w' => e = .returned (.string ⟨(Lib.decDigits k).toArray⟩) ∧ Below w.heap.size w w' := by
  subst hz
  exact Dm.decimal k hk w

set_option maxRecDepth 100000 in
set_option maxHeartbeats 1000000 in
theorem Law.realOthers (m : Nat) (hm : m < 18446744073709551616) (x : Int) (_hx : -9223372036854775808 ≤ x ∧ x ≤ 9223372036854775807) (neg : Bool) (w : World) (h : Re.Tabs w) :
    Calls Tryd.prog 5 #[.int .u64 (m : Int), .int .i64 x, .bool neg] w fun e w' => e = .returned (.bool true) ∧ Below w.heap.size w w' := by
  have hA := Aw.awake w h
  have e1 := Rt.and52 m hm
  have hf := Re.fr_lt m
  have e2 := Ot.or1 (Re.fr m) hf
  generalize Re.fr m = f at e1 hf e2
  obtain ⟨o, ho⟩ : ∃ o, o = 2 * (f / 2) + 1 := ⟨_, rfl⟩
  rw [← ho] at e2
  obtain ⟨n, hn⟩ : ∃ n, o = 2 * n + 1 := ⟨_, ho⟩
  have hol : o < 4503599627370496 := by omega
  have ho1 : ¬ o = 0 := by omega
  have HN := Lib.hid hn
  clear ho hn
  obtain ⟨q, hql, hq⟩ := Ot.and9 x
  go_enter Tryd.func5, Tryd.ntmps5
  go_wp2_with fail
  refine hA.mono ?_
  rintro e w1 ⟨rfl, b1⟩
  have h1 := h.on b1
  go_wp2_with fail
  go_loop [9] (fun v => ∃ t : Nat, v = .int .i64 t ∧ t ≤ 51 ∧ Hid (o < 2 ^ (t + 1))) (fun v => (intOf v).toNat)
  case atStart => exact ⟨51, rfl, Nat.le_refl _, hol⟩
  case round =>
    obtain ⟨t, rfl, ht, HT⟩ := hrel
    by_cases hq9 : o < 2 ^ t
    · have hq1 : (o : Int) / 2 ^ t = 0 := by
        have := Nat.div_eq_of_lt hq9
        have e : ((o / 2 ^ t : Nat) : Int) = (o : Int) / 2 ^ t := by simp
        rw [← e, this]; rfl
      have ht0 : 0 < t := by
        apply Nat.pos_of_ne_zero
        intro h0
        subst h0
        simp at hq9
        omega
      have HQ := Lib.hid hq9
      clear hq9 HT
      go_wp2_with fail
      go_round
      case rel => exact ⟨t - 1, by go_num, by omega, by rw [show t - 1 + 1 = t by omega]; exact HQ.out⟩
      case measure => simp [intOf]; omega
    · have hq1 : ((o : Int) / 2 ^ t == 0) = false := by
        have e : ((o / 2 ^ t : Nat) : Int) = (o : Int) / 2 ^ t := by simp
        rw [← e]
        apply beq_eq_false_iff_ne.2
        have : 1 ≤ o / 2 ^ t := (Nat.le_div_iff_mul_le (Nat.two_pow_pos t)).2 (by omega)
        omega
      have hfr := Wh.bits o t (Nat.le_of_not_lt hq9) HT.out (by omega) (t + 1023 - (q + 1)) (by omega) (-1 - (q : Int) + (t : Int) + 1023) (by omega)
      have hXlt : o * 2 ^ (52 - t) < 9007199254740992 := by
        have h5 : 2 ^ (t + 1) * 2 ^ (52 - t) = 9007199254740992 := by rw [← Nat.pow_add, show t + 1 + (52 - t) = 53 by omega]
        rw [← h5]
        exact Nat.mul_lt_mul_of_pos_right HT.out (Nat.two_pow_pos _)
      have m0 := Ot.made o t (q + 1) n false HN.out (Nat.le_of_not_lt hq9) HT.out ht (by omega) (by omega) _ rfl
      have m1 := Ot.made o t (q + 1) n true HN.out (Nat.le_of_not_lt hq9) HT.out ht (by omega) (by omega) _ rfl
      have hBl : (t + 1023 - (q + 1)) * 4503599627370496 + (o * 2 ^ (52 - t) - 4503599627370496) < 9223372036854775808 := by omega
      have hne := Wh.neg _ hBl
      rw [if_neg (by decide), Nat.zero_add] at m0
      rw [if_pos rfl, Nat.add_assoc] at m1
      generalize (t + 1023 - (q + 1)) * 4503599627370496 + (o * 2 ^ (52 - t) - 4503599627370496) = B at hfr hne m0 m1
      generalize 9223372036854775808 + B = C at hne m1
      clear hXlt hBl hq9 HT
      have dl := Rt.dec_le o (by omega)
      have dq := Rt.dec_le (q + 1) (by omega)
      have hD := Dm.decimal o (by omega) w1
      have hE := Ot.decimal (q + 1) (by omega)
      obtain ⟨D, eD⟩ : ∃ D : ByteArray, D = ⟨(Lib.decDigits o).toArray⟩ := ⟨_, rfl⟩
      have zD : D.size ≤ 20 := by rw [eD, Rt.size]; exact dl
      rw [← eD] at hD
      obtain ⟨E, eE⟩ : ∃ D : ByteArray, D = ⟨(Lib.decDigits (q + 1)).toArray⟩ := ⟨_, rfl⟩
      have zE : E.size ≤ 20 := by rw [eE, Rt.size]; exact dq
      rw [← eE] at hE
      obtain ⟨A, eA⟩ : ∃ v : ByteArray, D ++ ⟨#[112, 45]⟩ = v := ⟨_, rfl⟩
      have zA : A.size ≤ 22 := by rw [← eA, ByteArray.size_append]; have : (⟨#[112, 45]⟩ : ByteArray).size = 2 := rfl; omega
      obtain ⟨W, eW⟩ : ∃ v : ByteArray, A ++ E = v := ⟨_, rfl⟩
      have zW : W.size ≤ 42 := by rw [← eW, ByteArray.size_append]; omega
      have eL : W = ⟨(Lib.decDigits o ++ [112] ++ (45 :: Lib.decDigits (q + 1))).toArray⟩ := by
        rw [← eW, ← eA, eD, eE]
        have c1 := Rt.cat (Lib.decDigits o) [112, 45]
        have c2 := Rt.cat (Lib.decDigits o ++ [112, 45]) (Lib.decDigits (q + 1))
        rw [← c1] at c2
        rw [show Lib.decDigits o ++ [112] ++ (45 :: Lib.decDigits (q + 1)) = Lib.decDigits o ++ [112, 45] ++ Lib.decDigits (q + 1) by simp]
        exact c2
      cases neg
      · have t0 := Rt.text B m0.lt
        have w0 := Rk.whole B m0.lt
        have k0 := Rk.kind B m0.lt
        have eT : (⟨(Re.text B).toArray⟩ : ByteArray) = W := by
          rw [m0.text, eL, if_neg (by decide), List.nil_append]
        rw [eT] at t0
        rw [m0.whole, m0.is] at w0
        rw [m0.kind] at k0
        clear m0 m1 eD eE hne eT eL dl dq
        go_wp2_with fail
        refine hD.mono ?_
        rintro e w2 ⟨rfl, b2⟩
        have h2 := h1.on b2
        have b2' := Rt.step b1 b2
        clear hD b1 b2 h1
        go_wp2_with fail
        refine (hE _ (by omega) _).mono ?_
        rintro e w3 ⟨rfl, b3⟩
        have h3 := h2.on b3
        have b3' := Rt.step b2' b3
        clear hE b3 b2' h2
        go_wp2_with fail
        refine (w0 _).mono ?_
        rintro e w4 ⟨rfl, rfl⟩
        go_wp2_with fail
        refine (k0 _).mono ?_
        rintro e w4 ⟨rfl, rfl⟩
        go_wp2_with fail
        refine (t0 _ h3).mono ?_
        rintro e w4 ⟨rfl, b4⟩
        have b4' := Rt.step b3' b4
        go_wp2_with fail
        go_ret
        exact ⟨rfl, b4'⟩
      · have t0 := Rt.text C m1.lt
        have w0 := Rk.whole C m1.lt
        have k0 := Rk.kind C m1.lt
        obtain ⟨V, hV⟩ : ∃ V : ByteArray, (⟨#[45]⟩ : ByteArray) ++ W = V := ⟨_, rfl⟩
        have zV : V.size ≤ 43 := by rw [← hV, ByteArray.size_append]; have : (⟨#[45]⟩ : ByteArray).size = 1 := rfl; omega
        have eT : (⟨(Re.text C).toArray⟩ : ByteArray) = V := by
          rw [m1.text, ← hV, eL, if_pos rfl]
          have c := Rt.cat [45] (Lib.decDigits o ++ [112] ++ (45 :: Lib.decDigits (q + 1)))
          rw [show [45] ++ Lib.decDigits o ++ [112] ++ (45 :: Lib.decDigits (q + 1)) = [45] ++ (Lib.decDigits o ++ [112] ++ (45 :: Lib.decDigits (q + 1))) by simp]
          exact c.symm
        rw [eT] at t0
        rw [m1.whole, m1.is] at w0
        rw [m1.kind] at k0
        clear m0 m1 eD eE eT eL dl dq
        go_wp2_with fail
        refine hD.mono ?_
        rintro e w2 ⟨rfl, b2⟩
        have h2 := h1.on b2
        have b2' := Rt.step b1 b2
        clear hD b1 b2 h1
        go_wp2_with fail
        refine (hE _ (by omega) _).mono ?_
        rintro e w3 ⟨rfl, b3⟩
        have h3 := h2.on b3
        have b3' := Rt.step b2' b3
        clear hE b3 b2' h2
        go_wp2_with fail
        refine (w0 _).mono ?_
        rintro e w4 ⟨rfl, rfl⟩
        go_wp2_with fail
        refine (k0 _).mono ?_
        rintro e w4 ⟨rfl, rfl⟩
        go_wp2_with fail
        refine (t0 _ h3).mono ?_
        rintro e w4 ⟨rfl, b4⟩
        have b4' := Rt.step b3' b4
        go_wp2_with fail
        go_ret
        exact ⟨rfl, b4'⟩
end Go.Proofs.YtaomgpldbcfgnaaDoor

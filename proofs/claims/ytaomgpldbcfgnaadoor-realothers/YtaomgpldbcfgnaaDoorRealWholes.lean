/-
  THE WALK of stolelaw3.RealWholes, at whatever number and sign: it returns true, and turns nothing that was there.
-/
import Derived.Test.YtaomgpldbcfgnaaDoorReAwake
import Derived.Test.YtaomgpldbcfgnaaDoorReDec
namespace Go.Proofs.YtaomgpldbcfgnaaDoor
open Go.RowKit

theorem Wh.and53 (x : Int) : ∃ k : Nat, k < 9007199254740992 ∧ Go.bits .and .i64 x 9007199254740991 = (k : Int) := by
  have hm : (BitVec.ofInt 64 9007199254740991).toNat = 2 ^ 53 - 1 := by decide
  have key : (BitVec.ofInt 64 x &&& BitVec.ofInt 64 9007199254740991).toNat = (x % ((2 ^ 64 : Nat) : Int)).toNat % 2 ^ 53 := by
    rw [BitVec.toNat_and, BitVec.toNat_ofInt, hm, Nat.and_two_pow_sub_one_eq_mod]
  refine ⟨(x % ((2 ^ 64 : Nat) : Int)).toNat % 2 ^ 53, by omega, ?_⟩
  show IntKind.i64.wrap ((BitVec.ofInt 64 x &&& BitVec.ofInt 64 9007199254740991).toNat : Nat) = _
  rw [key, IntKind.wrap_i64]
  omega

/-- the bits of a whole number -/
structure Wh.Made (k : Nat) (s : Bool) (b : Nat) : Prop where
  lt : b < 18446744073709551616
  is : Re.is b = true
  kind : Re.kind b = 3
  whole : Re.whole b = Re.sgn s k
  text : Re.text b = Lib.itoa (Re.sgn s k)

theorem Wh.made (k t : Nat) (s : Bool) (h0 : 2 ^ t ≤ k) (h1 : k < 2 ^ (t + 1)) (ht : t ≤ 52) (b : Nat)
    (hb : b = (if s then 9223372036854775808 else 0) + (t + 1023) * 4503599627370496 + (k * 2 ^ (52 - t) - 4503599627370496)) : Wh.Made k s b := by
  have hX : 4503599627370496 ≤ k * 2 ^ (52 - t) ∧ k * 2 ^ (52 - t) < 9007199254740992 := by
    have h4 : 2 ^ t * 2 ^ (52 - t) = 4503599627370496 := by rw [← Nat.pow_add, show t + (52 - t) = 52 by omega]
    have h5 : 2 ^ (t + 1) * 2 ^ (52 - t) = 9007199254740992 := by rw [← Nat.pow_add, show t + 1 + (52 - t) = 53 by omega]
    refine ⟨?_, ?_⟩
    · rw [← h4]; exact Nat.mul_le_mul_right _ h0
    · rw [← h5]; exact Nat.mul_lt_mul_of_pos_right h1 (Nat.two_pow_pos _)
  have hk : 0 < k := Nat.lt_of_lt_of_le (Nat.two_pow_pos t) h0
  obtain ⟨X, eX⟩ : ∃ X, k * 2 ^ (52 - t) = X := ⟨_, rfl⟩
  rw [eX] at hX hb
  have hs : Re.neg b = s := by
    unfold Re.neg
    cases s
    · apply decide_eq_false; simp at hb; omega
    · apply decide_eq_true; simp at hb; omega
  have hlt : b < 18446744073709551616 := by cases s <;> simp at hb <;> omega
  have he : Re.ef b = t + 1023 := by unfold Re.ef; cases s <;> simp at hb <;> omega
  have hf : Re.fr b = X - 4503599627370496 := by unfold Re.fr; cases s <;> simp at hb <;> omega
  have hm : Re.mag b = X := by unfold Re.mag; rw [if_neg (by omega), hf]; omega
  have hd : Re.down b = 52 - t := by unfold Re.down; rw [if_neg (by omega), he]; omega
  have hi : Re.is b = true := by
    unfold Re.is
    apply decide_eq_true
    rw [hm, hd, ← eX, he]
    exact ⟨by omega, Nat.mul_mod_left _ _⟩
  have ha : Re.abs b = k := by
    unfold Re.abs
    rw [hm, hd, ← eX]
    exact Nat.mul_div_cancel _ (Nat.two_pow_pos _)
  have hkd : Re.kind b = 3 := by
    unfold Re.kind
    rw [if_neg (by omega), if_neg (by omega), hi]
    rfl
  have hw : Re.whole b = Re.sgn s k := by unfold Re.whole; rw [hi, hs, ha]; rfl
  refine ⟨hlt, hi, hkd, hw, ?_⟩
  unfold Re.text
  rw [hkd, hw]
  rfl

/-- the bits, as they are put together -/
theorem Wh.bitsN (f y : Nat) (hy : y < 4503599627370496) : f * 4503599627370496 ||| y = f * 4503599627370496 + y := by
  have e := Nat.two_pow_add_eq_or_of_lt (i := 52) (b := y) (by omega) f
  rw [Nat.mul_comm, show (4503599627370496 : Nat) = 2 ^ 52 by decide, ← e]

/-- .. as the law puts them together -/
theorem Wh.bits (k t : Nat) (h0 : 2 ^ t ≤ k) (h1 : k < 2 ^ (t + 1)) (ht : t ≤ 52) (f : Nat) (hf : f < 2047) (z : Int) (hz : z = f) :
    Go.bits .or .u64 (z * 4503599627370496) (Go.bits .and .u64 (IntKind.u64.wrap ((k : Int) * 2 ^ (52 - t))) 4503599627370495) = ((f * 4503599627370496 + (k * 2 ^ (52 - t) - 4503599627370496) : Nat) : Int) := by
  subst hz
  have hX : 4503599627370496 ≤ k * 2 ^ (52 - t) ∧ k * 2 ^ (52 - t) < 9007199254740992 := by
    have h4 : 2 ^ t * 2 ^ (52 - t) = 4503599627370496 := by rw [← Nat.pow_add, show t + (52 - t) = 52 by omega]
    have h5 : 2 ^ (t + 1) * 2 ^ (52 - t) = 9007199254740992 := by rw [← Nat.pow_add, show t + 1 + (52 - t) = 53 by omega]
    refine ⟨?_, ?_⟩
    · rw [← h4]; exact Nat.mul_le_mul_right _ h0
    · rw [← h5]; exact Nat.mul_lt_mul_of_pos_right h1 (Nat.two_pow_pos _)
  have e1 : (k : Int) * 2 ^ (52 - t) = ((k * 2 ^ (52 - t) : Nat) : Int) := by simp
  rw [e1]
  generalize k * 2 ^ (52 - t) = X at hX ⊢
  have e2 : IntKind.u64.wrap (X : Int) = (X : Int) := by rw [IntKind.wrap_u64]; omega
  rw [e2, Rt.and52 X (by omega)]
  have e3 : Re.fr X = X - 4503599627370496 := by unfold Re.fr; omega
  rw [e3]
  have e4 := bits_or_u64_nat (f * 4503599627370496) (X - 4503599627370496) (by omega) (by omega)
  rw [Wh.bitsN f _ (by omega)] at e4
  rw [show (f : Int) * 4503599627370496 = ((f * 4503599627370496 : Nat) : Int) by omega]
  exact e4
theorem Wh.neg (b : Nat) (hb : b < 9223372036854775808) : Go.bits .or .u64 (b : Int) 9223372036854775808 = ((9223372036854775808 + b : Nat) : Int) := by
  have h := bits_or_u64_nat b 9223372036854775808 (by omega) (by omega)
  have e := Nat.two_pow_add_eq_or_of_lt (i := 63) (b := b) (by omega) 1
  rw [Nat.or_comm, show (9223372036854775808 : Nat) = 2 ^ 63 * 1 by decide, ← e] at h
  exact h

set_option maxRecDepth 100000 in
set_option maxHeartbeats 1000000 in
theorem Law.realWholes (x : Int) (_hx : -9223372036854775808 ≤ x ∧ x ≤ 9223372036854775807) (neg : Bool) (w : World) (h : Re.Tabs w) :
    Calls Tryd.prog 4 #[.int .i64 x, .bool neg] w fun e w' => e = .returned (.bool true) ∧ Below w.heap.size w w' := by
  have hA := Aw.awake w h
  obtain ⟨k, hkl, hk⟩ := Wh.and53 x
  by_cases hk0 : k = 0
  · subst hk0
    go_enter Tryd.func4, Tryd.ntmps4
    go_wp2_with fail
    refine hA.mono ?_
    rintro e w1 ⟨rfl, b1⟩
    go_wp2_with fail
    go_ret
    exact ⟨rfl, b1⟩
  · have hk1 : ((k : Int) == 0) = false := beq_eq_false_iff_ne.2 (by omega)
    go_enter Tryd.func4, Tryd.ntmps4
    go_wp2_with fail
    refine hA.mono ?_
    rintro e w1 ⟨rfl, b1⟩
    have h1 := h.on b1
    go_wp2_with fail
    go_loop [6] (fun v => ∃ t : Nat, v = .int .i64 t ∧ t ≤ 52 ∧ Hid (k < 2 ^ (t + 1))) (fun v => (intOf v).toNat)
    case atStart => exact ⟨52, rfl, Nat.le_refl _, hkl⟩
    case round =>
      obtain ⟨t, rfl, ht, HT⟩ := hrel
      by_cases hq : k < 2 ^ t
      · have hq1 : (k : Int) / 2 ^ t = 0 := by
          have := Nat.div_eq_of_lt hq
          have e : ((k / 2 ^ t : Nat) : Int) = (k : Int) / 2 ^ t := by simp
          rw [← e, this]; rfl
        have ht0 : 0 < t := by
          apply Nat.pos_of_ne_zero
          intro h0
          subst h0
          simp at hq
          omega
        have HQ := Lib.hid hq
        clear hq HT
        go_wp2_with fail
        go_round
        case rel => exact ⟨t - 1, by go_num, by omega, by rw [show t - 1 + 1 = t by omega]; exact HQ.out⟩
        case measure => simp [intOf]; omega
      · have hq1 : ((k : Int) / 2 ^ t == 0) = false := by
          have e : ((k / 2 ^ t : Nat) : Int) = (k : Int) / 2 ^ t := by simp
          rw [← e]
          apply beq_eq_false_iff_ne.2
          have : 1 ≤ k / 2 ^ t := (Nat.le_div_iff_mul_le (Nat.two_pow_pos t)).2 (by omega)
          omega
        have hfr := Wh.bits k t (Nat.le_of_not_lt hq) HT.out ht (t + 1023) (by omega) ((t : Int) + 1023) (by omega)
        have hXlt : k * 2 ^ (52 - t) < 9007199254740992 := by
          have h5 : 2 ^ (t + 1) * 2 ^ (52 - t) = 9007199254740992 := by rw [← Nat.pow_add, show t + 1 + (52 - t) = 53 by omega]
          rw [← h5]
          exact Nat.mul_lt_mul_of_pos_right HT.out (Nat.two_pow_pos _)
        have m0 := Wh.made k t false (Nat.le_of_not_lt hq) HT.out ht _ rfl
        have m1 := Wh.made k t true (Nat.le_of_not_lt hq) HT.out ht _ rfl
        have hBl : (t + 1023) * 4503599627370496 + (k * 2 ^ (52 - t) - 4503599627370496) < 9223372036854775808 := by omega
        have hne := Wh.neg _ hBl
        rw [if_neg (by decide), Nat.zero_add] at m0
        rw [if_pos rfl, Nat.add_assoc] at m1
        generalize (t + 1023) * 4503599627370496 + (k * 2 ^ (52 - t) - 4503599627370496) = B at hfr hne m0 m1
        generalize 9223372036854775808 + B = C at hne m1
        clear hXlt hBl hq HT
        have dl := Rt.dec_le k (by omega)
        have hD := Dm.decimal k (by omega) w1
        obtain ⟨D, eD⟩ : ∃ D : ByteArray, D = ⟨(Lib.decDigits k).toArray⟩ := ⟨_, rfl⟩
        have zD : D.size ≤ 20 := by rw [eD, Rt.size]; exact dl
        rw [← eD] at hD
        cases neg
        · have t0 := Rt.text B m0.lt
          have w0 := Rk.whole B m0.lt
          have k0 := Rk.kind B m0.lt
          have eT : (⟨(Re.text B).toArray⟩ : ByteArray) = D := by
            rw [m0.text, eD]
            show ByteArray.mk (Lib.itoa (k : Int)).toArray = _
            rw [Lib.itoa_nonneg]
          have eW : Re.whole B = (k : Int) := m0.whole
          rw [eT] at t0
          rw [eW, m0.is] at w0
          rw [m0.kind] at k0
          clear m0 m1 eD hne eT eW dl
          go_wp2_with fail
          refine hD.mono ?_
          rintro e w2 ⟨rfl, b2⟩
          have h2 := h1.on b2
          have b2' := Rt.step b1 b2
          clear hD b1 b2 h1
          go_wp2_with fail
          refine (w0 _).mono ?_
          rintro e w3 ⟨rfl, rfl⟩
          go_wp2_with fail
          refine (k0 _).mono ?_
          rintro e w3 ⟨rfl, rfl⟩
          go_wp2_with fail
          refine (t0 _ h2).mono ?_
          rintro e w3 ⟨rfl, b3⟩
          have b3' := Rt.step b2' b3
          go_wp2_with fail
          go_ret
          exact ⟨rfl, b3'⟩
        · have t0 := Rt.text C m1.lt
          have w0 := Rk.whole C m1.lt
          have k0 := Rk.kind C m1.lt
          obtain ⟨V, hV⟩ : ∃ V : ByteArray, (⟨#[45]⟩ : ByteArray) ++ D = V := ⟨_, rfl⟩
          have zV : V.size ≤ 21 := by rw [← hV, ByteArray.size_append]; have : (⟨#[45]⟩ : ByteArray).size = 1 := rfl; omega
          have eT : (⟨(Re.text C).toArray⟩ : ByteArray) = V := by
            rw [m1.text, ← hV, eD]
            show ByteArray.mk (Lib.itoa (-(k : Int))).toArray = _
            rw [Lib.itoa_neg k (by omega)]
            exact (Rt.cat [45] (Lib.decDigits k)).symm
          have eW : Re.whole C = -(k : Int) := m1.whole
          rw [eT] at t0
          rw [eW, m1.is] at w0
          rw [m1.kind] at k0
          clear m0 m1 eD eT eW dl
          go_wp2_with fail
          refine hD.mono ?_
          rintro e w2 ⟨rfl, b2⟩
          have h2 := h1.on b2
          have b2' := Rt.step b1 b2
          clear hD b1 b2 h1
          go_wp2_with fail
          refine (w0 _).mono ?_
          rintro e w3 ⟨rfl, rfl⟩
          go_wp2_with fail
          refine (k0 _).mono ?_
          rintro e w3 ⟨rfl, rfl⟩
          go_wp2_with fail
          refine (t0 _ h2).mono ?_
          rintro e w3 ⟨rfl, b3⟩
          have b3' := Rt.step b2' b3
          go_wp2_with fail
          go_ret
          exact ⟨rfl, b3'⟩
end Go.Proofs.YtaomgpldbcfgnaaDoor

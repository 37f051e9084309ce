/-
  THE WALKS of the reference's Whole, Number and RealText, at whatever bits.
-/
import Derived.Test.YtggfemdnoccmeaaDoorReRef
namespace Go.Proofs.YtggfemdnoccmeaaDoor
open Go.RowKit

theorem Rs.k2 (b : Nat) (h : Re.kind b = 2) : Re.is b = true ∧ Re.whole b = 0 := by
  have hm : Re.ef b ≠ 2047 ∧ Re.mag b = 0 := by
    unfold Re.kind at h
    by_cases q : Re.ef b = 2047
    · rw [if_pos q] at h; split at h <;> omega
    · rw [if_neg q] at h
      by_cases q2 : Re.mag b = 0
      · exact ⟨q, q2⟩
      · rw [if_neg q2] at h; split at h <;> omega
  have he : Re.ef b = 0 := by
    have h2 := hm.2
    unfold Re.mag at h2
    by_cases q : Re.ef b = 0
    · exact q
    · rw [if_neg q] at h2; omega
  have hi : Re.is b = true := by
    unfold Re.is
    apply decide_eq_true
    rw [hm.2, Nat.zero_mod]
    omega
  refine ⟨hi, ?_⟩
  unfold Re.whole Re.abs
  rw [hi, hm.2, Nat.zero_div]
  cases Re.neg b <;> rfl
theorem Rs.k3 (b : Nat) (h : Re.kind b = 3) : Re.is b = true ∧ Re.mag b ≠ 0 := by
  unfold Re.kind at h
  by_cases q : Re.ef b = 2047
  · rw [if_pos q] at h; split at h <;> omega
  · rw [if_neg q] at h
    by_cases q2 : Re.mag b = 0
    · rw [if_pos q2] at h; omega
    · rw [if_neg q2] at h
      cases hi : Re.is b
      · rw [hi, if_neg (by decide)] at h; omega
      · exact ⟨rfl, q2⟩
theorem Rs.kNo (b : Nat) (h2 : Re.kind b ≠ 2) (h3 : Re.kind b ≠ 3) : Re.is b = false ∧ Re.whole b = 0 := by
  have hi : Re.is b = false := by
    unfold Re.kind at h2 h3
    by_cases q : Re.ef b = 2047
    · unfold Re.is; apply decide_eq_false; omega
    · rw [if_neg q] at h2 h3
      by_cases q2 : Re.mag b = 0
      · rw [if_pos q2] at h2; omega
      · rw [if_neg q2] at h3
        cases hi : Re.is b
        · rfl
        · rw [hi, if_pos rfl] at h3; omega
  refine ⟨hi, ?_⟩
  unfold Re.whole; rw [hi]; rfl

set_option maxRecDepth 100000 in
set_option maxHeartbeats 1000000 in
theorem Rs.wholes (b : Nat) (hb : b < 18446744073709551616) (w : World) :
    Calls Tryd.prog 65 #[.int .u64 (b : Int)] w fun e w' => e = .returned (.tuple #[.int .i64 (Re.whole b), .bool (Re.is b)]) ∧ w' = w := by
  have hr := Rs.real b hb w
  by_cases h2 : Re.kind b = 2
  · obtain ⟨q1, q2⟩ := Rs.k2 b h2
    rw [q1, q2]
    rw [h2] at hr
    go_enter Tryd.func65, Tryd.ntmps65
    go_wp2_with fail
    refine hr.mono ?_
    rintro e w1 ⟨rfl, rfl⟩
    go_wp2_with fail
    go_ret2
    exact ⟨rfl, rfl⟩
  · by_cases h3 : Re.kind b = 3
    · obtain ⟨q1, q2⟩ := Rs.k3 b h3
      obtain ⟨p, hpw, hp, hlt, habs⟩ := Rs.whole b q2 q1
      have hs := Rs.walk b hb q2 w
      have hal := Re.abs_lt b
      have hol : Re.odd b < 9007199254740992 := Nat.lt_of_le_of_lt (Nat.div_le_self _ _) (Re.mag_lt b)
      have hw : Re.whole b = Re.sgn (Re.neg b) (Re.abs b) := by unfold Re.whole; rw [q1]; rfl
      have hsh : IntKind.u64.wrap ((Re.odd b : Int) * 2 ^ p) = (Re.abs b : Int) := by
        have e : (Re.odd b : Int) * 2 ^ p = ((Re.odd b * 2 ^ p : Nat) : Int) := by simp
        rw [e, habs, IntKind.wrap_u64]
        omega
      rw [hw, q1]
      rw [h3] at hr
      rw [hpw] at hs
      clear hw q1 q2 h2 h3 hpw hlt habs
      generalize Re.odd b = o at hs hsh hol
      generalize Re.abs b = a at hsh hal ⊢
      cases hn : Re.neg b
      · rw [hn] at hs
        go_enter Tryd.func65, Tryd.ntmps65
        go_wp2_with fail
        refine hr.mono ?_
        rintro e w1 ⟨rfl, rfl⟩
        go_wp2_with fail
        refine hs.mono ?_
        rintro e w1 ⟨rfl, rfl⟩
        go_wp2_with fail
        go_ret2
        exact ⟨rfl, rfl⟩
      · rw [hn] at hs
        go_enter Tryd.func65, Tryd.ntmps65
        go_wp2_with fail
        refine hr.mono ?_
        rintro e w1 ⟨rfl, rfl⟩
        go_wp2_with fail
        refine hs.mono ?_
        rintro e w1 ⟨rfl, rfl⟩
        go_wp2_with fail
        go_ret2
        exact ⟨rfl, rfl⟩
    · obtain ⟨q1, q2⟩ := Rs.kNo b h2 h3
      rw [q1, q2]
      generalize Re.kind b = k at hr h2 h3
      have c2 : ((k : Int) == 2) = false := beq_eq_false_iff_ne.2 (by omega)
      have c3 : ((k : Int) == 3) = false := beq_eq_false_iff_ne.2 (by omega)
      go_enter Tryd.func65, Tryd.ntmps65
      go_wp2_with fail
      refine hr.mono ?_
      rintro e w1 ⟨rfl, rfl⟩
      go_wp2_with fail
      go_ret2
      exact ⟨rfl, rfl⟩

set_option maxRecDepth 100000 in
theorem Rs.number (x : Int) (h0 : -9007199254740992 ≤ x) (h1 : x ≤ 9007199254740992) (w : World) :
    Calls Tryd.prog 48 #[.int .i64 x] w fun e w' => e = .returned (.string ⟨(Lib.itoa x).toArray⟩) ∧ Below w.heap.size w w' := by
  by_cases hx : x < 0
  · obtain ⟨u, rfl⟩ : ∃ u : Nat, x = -(u : Int) := ⟨x.natAbs, by omega⟩
    have hu : 1 ≤ u := by omega
    have hd := Dm.decimal u (by omega) w
    have dl := Rt.dec_le u (by omega)
    obtain ⟨D, eD⟩ : ∃ D : ByteArray, D = ⟨(Lib.decDigits u).toArray⟩ := ⟨_, rfl⟩
    have zD : D.size ≤ 20 := by rw [eD, Rt.size]; exact dl
    rw [← eD] at hd
    have HD := Lib.hid eD
    clear eD dl
    have hx1 : decide (-(u : Int) < 0) = true := decide_eq_true hx
    go_enter Tryd.func48, Tryd.ntmps48
    go_wp2_with fail
    refine hd.mono ?_
    rintro e w1 ⟨rfl, b1⟩
    go_wp2_with fail
    go_ret
    refine ⟨?_, b1⟩
    rw [Lib.itoa_neg u hu]
    have c := Rt.cat [45] (Lib.decDigits u)
    rw [← HD.out] at c
    rw [show (45 :: Lib.decDigits u) = [45] ++ Lib.decDigits u by rfl, ← c]
    rfl
  · obtain ⟨u, rfl⟩ : ∃ u : Nat, x = (u : Int) := ⟨x.toNat, by omega⟩
    have hd := Dm.decimal u (by omega) w
    have hx1 : decide ((u : Int) < 0) = false := decide_eq_false hx
    go_enter Tryd.func48, Tryd.ntmps48
    go_wp2_with fail
    refine hd.mono ?_
    rintro e w1 ⟨rfl, b1⟩
    go_wp2_with fail
    go_ret
    refine ⟨?_, b1⟩
    rw [Lib.itoa_nonneg]
    rfl

set_option maxRecDepth 100000 in
set_option maxHeartbeats 1000000 in
theorem Rs.text (b : Nat) (hb : b < 18446744073709551616) (w : World) :
    Calls Tryd.prog 49 #[.int .u64 (b : Int)] w fun e w' => e = .returned (.string ⟨(Re.text b).toArray⟩) ∧ Below w.heap.size w w' := by
  have hk := Rs.real b hb w
  have hng := Rs.neg b hb
  obtain ⟨S, hS⟩ : ∃ S : ByteArray, S = ⟨(Re.sign b).toArray⟩ := ⟨_, rfl⟩
  have hsg : (if Re.neg b then (⟨#[45]⟩ : ByteArray) else ⟨#[]⟩) = S := by
    rw [hS]; unfold Re.sign; cases Re.neg b <;> rfl
  have ht : Re.text b = match Re.kind b with
    | 0 => [78, 97, 78]
    | 1 => Re.sign b ++ [73, 110, 102, 105, 110, 105, 116, 121]
    | 2 => Re.sign b ++ [48]
    | 3 => Lib.itoa (Re.whole b)
    | _ => Re.sign b ++ Lib.decDigits (Re.odd b) ++ [112] ++ Lib.itoa (Re.pow b) := rfl
  rw [ht]
  have hle := Rt.kind_le b
  generalize hn : Re.neg b = s at hng hsg
  clear ht
  match hkb : Re.kind b with
  | 0 =>
    rw [hkb] at hk
    cases s
    all_goals
      go_enter Tryd.func49, Tryd.ntmps49
      go_wp2_with fail
      refine hk.mono ?_
      rintro e w1 ⟨rfl, rfl⟩
      go_wp2_with fail
      go_ret
      exact ⟨rfl, Below.refl _ _⟩
  | 1 =>
    rw [hkb] at hk
    have HS := Lib.hid hS
    clear hS
    cases s
    all_goals
      subst hsg
      go_enter Tryd.func49, Tryd.ntmps49
      go_wp2_with fail
      refine hk.mono ?_
      rintro e w1 ⟨rfl, rfl⟩
      go_wp2_with fail
      go_ret
      refine ⟨?_, Below.refl _ _⟩
      have e := Rt.cat (Re.sign b) [73, 110, 102, 105, 110, 105, 116, 121]
      rw [← HS.out] at e
      rw [← e]
      rfl
  | 2 =>
    rw [hkb] at hk
    have HS := Lib.hid hS
    clear hS
    cases s
    all_goals
      subst hsg
      go_enter Tryd.func49, Tryd.ntmps49
      go_wp2_with fail
      refine hk.mono ?_
      rintro e w1 ⟨rfl, rfl⟩
      go_wp2_with fail
      go_ret
      refine ⟨?_, Below.refl _ _⟩
      have e := Rt.cat (Re.sign b) [48]
      rw [← HS.out] at e
      rw [← e]
      rfl
  | 3 =>
    rw [hkb] at hk
    have hw := Rs.wholes b hb w
    have hi := Rs.number (Re.whole b) (Rt.whole_le b).1 (Rt.whole_le b).2 w
    cases s
    all_goals
      go_enter Tryd.func49, Tryd.ntmps49
      go_wp2_with fail
      refine hk.mono ?_
      rintro e w1 ⟨rfl, rfl⟩
      go_wp2_with fail
      refine hw.mono ?_
      rintro e w1 ⟨rfl, rfl⟩
      go_wp2_with fail
      refine hi.mono ?_
      rintro e w1 ⟨rfl, b1⟩
      go_wp2_with fail
      go_ret
      exact ⟨rfl, b1⟩
  | 4 =>
    rw [hkb] at hk
    obtain ⟨hm0, he⟩ := Rt.kind4 b hkb
    have ho := Rs.walk b hb hm0 w
    have hol : Re.odd b < 9007199254740992 := Nat.lt_of_le_of_lt (Nat.div_le_self _ _) (Re.mag_lt b)
    have hf := Dm.decimal (Re.odd b) (by omega) w
    have hpl := Rt.pow_le b hm0
    have hi := Rs.number (Re.pow b) hpl.1 hpl.2
    have hdl := Rt.dec_le _ (Rt.odd_lt b)
    have hil := Rt.itoa_le _ hpl.1 hpl.2
    obtain ⟨D, hD⟩ : ∃ S : ByteArray, S = ⟨(Lib.decDigits (Re.odd b)).toArray⟩ := ⟨_, rfl⟩
    have hDz : D.size ≤ 20 := by rw [hD, Rt.size]; exact hdl
    rw [← hD] at hf
    obtain ⟨I, hI⟩ : ∃ S : ByteArray, S = ⟨(Lib.itoa (Re.pow b)).toArray⟩ := ⟨_, rfl⟩
    have hIz : I.size ≤ 21 := by rw [hI, Rt.size]; exact hil
    rw [← hI] at hi
    have HD := Lib.hid hD
    have HI := Lib.hid hI
    have HS := Lib.hid hS
    rw [hn] at ho
    clear hD hI hdl hil hpl hkb he hm0 hS hn hle
    cases s
    all_goals
      simp only [Bool.false_eq_true, if_false, if_true] at hsg
      obtain ⟨A, eA⟩ : ∃ v : ByteArray, S ++ D = v := ⟨_, rfl⟩
      have zS : S.size ≤ 1 := by rw [← hsg]; decide
      have zA : A.size ≤ 21 := by rw [← eA, ByteArray.size_append]; omega
      obtain ⟨B, eB⟩ : ∃ v : ByteArray, A ++ ⟨#[112]⟩ = v := ⟨_, rfl⟩
      have zB : B.size ≤ 22 := by rw [← eB, ByteArray.size_append]; have : (⟨#[112]⟩ : ByteArray).size = 1 := rfl; omega
      have e1 := Rt.cat (Re.sign b) (Lib.decDigits (Re.odd b))
      have e2 := Rt.cat (Re.sign b ++ Lib.decDigits (Re.odd b)) [112]
      have e3 := Rt.cat (Re.sign b ++ Lib.decDigits (Re.odd b) ++ [112]) (Lib.itoa (Re.pow b))
      rw [← e2, ← e1, ← HS.out, ← HD.out, ← HI.out, eA] at e3
      have E3 := Lib.hid e3
      clear e1 e2 e3 HS
      rw [← hsg] at eA
      clear hsg zS
      go_enter Tryd.func49, Tryd.ntmps49
      go_wp2_with fail
      refine hk.mono ?_
      rintro e w1 ⟨rfl, rfl⟩
      go_wp2_with fail
      refine ho.mono ?_
      rintro e w1 ⟨rfl, rfl⟩
      go_wp2_with fail
      refine hf.mono ?_
      rintro e w2 ⟨rfl, b1⟩
      go_wp2_with fail
      refine (hi _).mono ?_
      rintro e w3 ⟨rfl, b3⟩
      go_wp2_with fail
      go_ret
      refine ⟨?_, Rt.step b1 b3⟩
      rw [← E3.out, ← eB]
      rfl
  | n + 5 => omega
end Go.Proofs.YtggfemdnoccmeaaDoor

/-
  THE WALK of stolelaw3.awake: it returns true, and turns nothing that was there.
-/
import Derived.Test.YtaomgpldbcfgnaaDoorReText
namespace Go.Proofs.YtaomgpldbcfgnaaDoor
open Go.RowKit

theorem Aw.num (w : World) : Calls Tryd.prog 25 #[.int .i64 0] w fun e w' => e = .returned (.int .i64 0) ∧ w' = w := by
  go_enter Tryd.func25, Tryd.ntmps25
  go_wp2
  go_ret
  exact ⟨rfl, rfl⟩

theorem Aw.kind (c : Nat) (hc : c < 18446744073709551616) (k : Nat) (hk : Re.kind c = k) (z : Int) (hz : z = c) (w : World) :
    Calls Tryd.prog 10 #[.int .u64 z] w fun e w' => e = .returned (.int .i64 k) ∧ w' = w := by
  subst hk hz
  exact Rk.kind c hc w
theorem Aw.whole (c : Nat) (hc : c < 18446744073709551616) (n : Int) (is : Bool) (hn : Re.whole c = n) (hi : Re.is c = is) (z : Int) (hz : z = c) (w : World) :
    Calls Tryd.prog 8 #[.int .u64 z] w fun e w' => e = .returned (.tuple #[.int .i64 n, .bool is]) ∧ w' = w := by
  subst hn hi hz
  exact Rk.whole c hc w
theorem Aw.text (c : Nat) (hc : c < 18446744073709551616) (l : List UInt8) (hl : Re.text c = l) (z : Int) (hz : z = c) (w : World) (h : Re.Tabs w) :
    Calls Tryd.prog 12 #[.int .u64 z] w fun e w' => e = .returned (.string ⟨l.toArray⟩) ∧ Below w.heap.size w w' := by
  subst hl hz
  exact Rt.text c hc w h

theorem Aw.d1074 : Lib.decDigits 1074 = [49, 48, 55, 52] := by
  rw [Lib.decDigits, dif_neg (by decide), show 1074 / 10 = 107 by decide, Lib.decDigits, dif_neg (by decide), show 107 / 10 = 10 by decide, Lib.decDigits_two (by decide) (by decide)]
  decide
theorem Aw.t0 : Re.text 9221120237041090561 = [78, 97, 78] := by
  have k : Re.kind 9221120237041090561 = 0 := by decide +kernel
  unfold Re.text
  rw [k]
  rfl
theorem Aw.t1 : Re.text 18442240474082181120 = [45, 73, 110, 102, 105, 110, 105, 116, 121] := by
  have k : Re.kind 18442240474082181120 = 1 := by decide +kernel
  unfold Re.text
  rw [k]
  decide +kernel
theorem Aw.t2 : Re.text 9223372036854775808 = [45, 48] := by
  have k : Re.kind 9223372036854775808 = 2 := by decide +kernel
  unfold Re.text
  rw [k]
  decide +kernel
theorem Aw.w3 : Re.whole 13837309855095848960 = -3 := by decide +kernel
theorem Aw.t3 : Re.text 13837309855095848960 = [45, 51] := by
  have k : Re.kind 13837309855095848960 = 3 := by decide +kernel
  unfold Re.text
  rw [k, Aw.w3]
  show Lib.itoa (-((3 : Nat) : Int)) = _
  rw [Lib.itoa_neg 3 (by decide), Lib.decDigits_one (by decide)]
  decide
theorem Aw.t4 : Re.text 4602678819172646912 = [49, 112, 45, 49] := by
  have k : Re.kind 4602678819172646912 = 4 := by decide +kernel
  have o : Re.odd 4602678819172646912 = 1 := by decide +kernel
  have p : Re.pow 4602678819172646912 = -((1 : Nat) : Int) := by decide +kernel
  have s : Re.sign 4602678819172646912 = [] := by decide +kernel
  unfold Re.text
  rw [k]
  show Re.sign 4602678819172646912 ++ Lib.decDigits (Re.odd 4602678819172646912) ++ [112] ++ Lib.itoa (Re.pow 4602678819172646912) = _
  rw [o, p, s, Lib.itoa_neg 1 (by decide), Lib.decDigits_one (by decide)]
  decide
theorem Aw.t5 : Re.text 1 = [49, 112, 45, 49, 48, 55, 52] := by
  have k : Re.kind 1 = 4 := by decide +kernel
  have o : Re.odd 1 = 1 := by decide +kernel
  have p : Re.pow 1 = -((1074 : Nat) : Int) := by decide +kernel
  have s : Re.sign 1 = [] := by decide +kernel
  unfold Re.text
  rw [k]
  show Re.sign 1 ++ Lib.decDigits (Re.odd 1) ++ [112] ++ Lib.itoa (Re.pow 1) = _
  rw [o, p, s, Lib.itoa_neg 1074 (by decide), Aw.d1074, Lib.decDigits_one (by decide)]
  decide

set_option maxRecDepth 100000 in
set_option maxHeartbeats 1000000 in
theorem Aw.awake (w : World) (h : Re.Tabs w) : Calls Tryd.prog 14 #[] w fun e w' => e = .returned (.bool true) ∧ Below w.heap.size w w' := by
  have w1 := Aw.whole 13837309855095848960 (by decide) (-3) true Aw.w3 (by decide +kernel) 13837309855095848960 rfl w
  have w2 := Aw.whole 4602678819172646912 (by decide) 0 false (by decide +kernel) (by decide +kernel) 4602678819172646912 rfl w
  have k1 := Aw.kind 9221120237041090561 (by decide) 0 (by decide +kernel) 9221120237041090561 rfl w
  have k2 := Aw.kind 18442240474082181120 (by decide) 1 (by decide +kernel) 18442240474082181120 rfl
  go_enter Tryd.func14, Tryd.ntmps14
  go_wp2_with fail
  refine w1.mono ?_
  rintro e w1 ⟨rfl, rfl⟩
  go_wp2_with fail
  refine w2.mono ?_
  rintro e w1 ⟨rfl, rfl⟩
  go_wp2_with fail
  refine k1.mono ?_
  rintro e w1 ⟨rfl, rfl⟩
  go_wp2_with fail
  refine (Aw.text 9221120237041090561 (by decide) _ Aw.t0 9221120237041090561 rfl _ h).mono ?_
  rintro e wa ⟨rfl, b1⟩
  have h1 := h.on b1
  clear h w1 w2 k1
  go_wp2_with fail
  refine (k2 _).mono ?_
  rintro e w1 ⟨rfl, rfl⟩
  clear k2
  go_wp2_with fail
  refine (Aw.text 18442240474082181120 (by decide) _ Aw.t1 18442240474082181120 rfl _ h1).mono ?_
  rintro e w1 ⟨rfl, b2⟩
  have h2 := h1.on b2
  have b2' := Rt.step b1 b2
  clear b1 b2 h1
  go_wp2_with fail
  refine (Aw.text 9223372036854775808 (by decide) _ Aw.t2 9223372036854775808 rfl _ h2).mono ?_
  rintro e w1 ⟨rfl, b2⟩
  have h3 := h2.on b2
  have b3' := Rt.step b2' b2
  clear b2 b2' h2
  go_wp2_with fail
  refine (Aw.text 13837309855095848960 (by decide) _ Aw.t3 13837309855095848960 rfl _ h3).mono ?_
  rintro e w1 ⟨rfl, b2⟩
  have h4 := h3.on b2
  have b4' := Rt.step b3' b2
  clear b2 b3' h3
  go_wp2_with fail
  refine (Aw.text 4602678819172646912 (by decide) _ Aw.t4 4602678819172646912 rfl _ h4).mono ?_
  rintro e w1 ⟨rfl, b2⟩
  have h5 := h4.on b2
  have b5' := Rt.step b4' b2
  clear b2 b4' h4
  go_wp2_with fail
  refine (Aw.text 1 (by decide) _ Aw.t5 1 rfl _ h5).mono ?_
  rintro e w1 ⟨rfl, b2⟩
  have b6' := Rt.step b5' b2
  clear b2 b5' h5
  go_wp2_with fail
  refine (Aw.num _).mono ?_
  rintro e w1 ⟨rfl, rfl⟩
  go_wp2
  go_ret
  exact ⟨rfl, b6'⟩
end Go.Proofs.YtaomgpldbcfgnaaDoor

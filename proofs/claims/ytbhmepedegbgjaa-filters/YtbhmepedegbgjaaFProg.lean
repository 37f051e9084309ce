/-
  css.Filter as the landed program has it; stolelaw12.awake.
-/
import Derived.Test.YtbhmepedegbgjaaFPlain
import Derived.Test.YtbhmepedegbgjaaQSet
import Derived.Test.YtbhmepedegbgjaaShelf12
namespace Go.Proofs.Ytbhmepedegbgjaa
open Go.RowKit
def Cp.PB : List UInt8 := [65, 66, 67, 68, 69, 70, 71, 72, 73, 74, 75, 76, 77, 78, 79, 80, 81, 82, 83, 84, 85, 86, 87, 88, 89, 90, 97, 98, 99, 100, 101, 102, 103, 104].append [105, 106, 107, 108, 109, 110, 111, 112, 113, 114, 115, 116, 117, 118, 119, 120, 121, 122, 48, 49, 50, 51, 52, 53, 54, 55, 56, 57, 32, 35, 37, 46, 44, 45]
theorem Cp.PB_has (c : UInt8) : Bs.has Cp.PB c = Cf.ok c :=
  eq_of_beq (Ug.all (p := fun c => Bs.has Cp.PB c == Cf.ok c) (by decide +kernel) c)
theorem Cp.set : ∃ a0 a1 a2 a3 : Int,
    (∀ u, Calls Try.prog 9 #[.string ⟨Cp.PB.toArray⟩] u fun e w' => e = .returned (.agg #[.int .u64 a0, .int .u64 a1, .int .u64 a2, .int .u64 a3]) ∧ Below u.heap.size u w') ∧
    (∀ (c : UInt8) u, Calls Try.prog 10 #[.agg #[.int .u64 a0, .int .u64 a1, .int .u64 a2, .int .u64 a3], .int .u8 (c.toNat : Int)] u fun e w' => e = .returned (.bool (Cf.ok c)) ∧ Below u.heap.size u w') :=
  ⟨_, _, _, _, fun u => Bs.Of ⟨Cp.PB.toArray⟩ u (by decide), fun c u => by rw [← Cp.PB_has c]; exact Bs.Has Cp.PB c u⟩
set_option maxRecDepth 100000 in
set_option maxHeartbeats 4000000 in
theorem Cp.filter (s : ByteArray) (w : World) (hs : s.size ≤ 281474976710656) :
    Calls Try.prog 5 #[.string s] w fun e w' => e = .returned (.string (Cf.filt s)) ∧ Below w.heap.size w w' := by
  obtain ⟨a0, a1, a2, a3, of1, has1⟩ := Cp.set
  unfold Cp.PB at of1
  obtain ⟨X, hX⟩ : ∃ X, Cf.filt s = X := ⟨_, rfl⟩
  rw [hX]
  have HX := Lib.hid hX
  clear hX
  go_enter Try.func5, Try.ntmps5
  go_wp2_with (go_at_call 9; refine (of1 _).mono ?_; rintro e w2 ⟨rfl, b2⟩; have HB2 := Lib.hid b2; clear b2 of1)
  have HX2 : Hid (Bs.Box (w2.alloc (.cells #[.int .u64 a0, .int .u64 a1, .int .u64 a2, .int .u64 a3] 31)) w2.heap.size #[.int .u64 a0, .int .u64 a1, .int .u64 a2, .int .u64 a3] 31) := Bs.Box.new w2 _ _ _ rfl
  have HW2 := Lib.hid (HB2.out.alloc HB2.out.size (.cells #[.int .u64 a0, .int .u64 a1, .int .u64 a2, .int .u64 a3] 31))
  clear HB2
  generalize w2.alloc (.cells #[.int .u64 a0, .int .u64 a1, .int .u64 a2, .int .u64 a3] 31) = w3 at *
  generalize w2.heap.size = S0 at *
  go_loopw [8] (fun ix wr => ∃ i : Nat, i ≤ s.size ∧ ix = .int .i64 (i : Int) ∧ Hid ((s.data.toList.take i).all Cf.ok = true) ∧ Hid (Bs.Box wr S0 #[.int .u64 a0, .int .u64 a1, .int .u64 a2, .int .u64 a3] 31) ∧ Hid (Below w.heap.size w wr)) (fun ix _ => s.size - (intOf ix).toNat)
  case atStart => exact ⟨0, Nat.zero_le _, rfl, rfl, HX2, HW2⟩
  case round =>
    clear HX2 HW2
    obtain ⟨i, hi, rfl, HC, HX2, HW⟩ := hrel
    by_cases hlt : i < s.size
    · have d1 : decide ((i : Int) < (s.size : Int)) = true := decide_eq_true (by omega)
      have x0 : wr.cell? ⟨S0, 0, none⟩ = some (.int .u64 a0) := HX2.out.cell 0 rfl
      have x1 : wr.cell? ⟨S0, 1, none⟩ = some (.int .u64 a1) := HX2.out.cell 1 rfl
      have x2 : wr.cell? ⟨S0, 2, none⟩ = some (.int .u64 a2) := HX2.out.cell 2 rfl
      have x3 : wr.cell? ⟨S0, 3, none⟩ = some (.int .u64 a3) := HX2.out.cell 3 rfl
      have hs1 := has1 s[i]
      cases hok : Cf.ok s[i] with
      | true =>
        have HT2 : Hid ((s.data.toList.take (i + 1)).all Cf.ok = true) := Cf.take hlt HC.out hok
        rw [hok] at hs1
        clear hok HC has1
        go_wp2
        go_region_with (go_at_call 10; refine (hs1 _).mono ?_; rintro e w4 ⟨rfl, b4⟩; have HX4 : Hid (Bs.Box w4 S0 #[.int .u64 a0, .int .u64 a1, .int .u64 a2, .int .u64 a3] 31) := (b4.block _ HX2.out.lt).trans HX2.out; have HW4 := Lib.hid (Wk.below_step HW.out.drew b4); clear b4 x0 x1 x2 x3)
        all_goals
          go_wp2
          go_roundw
          case rel => exact ⟨i + 1, by omega, by go_num, HT2, HX4, HW4⟩
          case measure => simp [intOf]; omega
      | false =>
        have hX : ⟨#[90, 103, 111, 116, 109, 112, 108, 90]⟩ = X := (Cf.filt_bad (Cf.bad hlt hok)).symm.trans HX.out
        subst hX
        rw [hok] at hs1
        clear hok HC has1 HX
        go_wp2
        go_region_with (go_at_call 10; refine (hs1 _).mono ?_; rintro e w4 ⟨rfl, b4⟩; have HX4 : Hid (Bs.Box w4 S0 #[.int .u64 a0, .int .u64 a1, .int .u64 a2, .int .u64 a3] 31) := (b4.block _ HX2.out.lt).trans HX2.out; have HW4 := Lib.hid (Wk.below_step HW.out.drew b4); clear b4 x0 x1 x2 x3)
        all_goals
          go_wp2
          go_ret
          exact ⟨rfl, HW4.out⟩
    · have e : i = s.size := by omega
      subst e
      have d1 : decide ((s.size : Int) < (s.size : Int)) = false := decide_eq_false (by omega)
      have hX : s = X := (Cf.filt_ok (Cf.end HC.out)).symm.trans HX.out
      subst hX
      have cl := fun u => Tp.clone s u hs
      clear HC HX
      go_wp2_with (go_at_call 11; refine (cl _).mono ?_; rintro e w4 ⟨rfl, b4⟩; have HW4 := Lib.hid (Wk.below_step HW.out b4); clear b4)
      go_ret
      exact ⟨rfl, HW4.out⟩
end Go.Proofs.Ytbhmepedegbgjaa

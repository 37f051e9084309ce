/-
  THE WALK of stolelaw0.SameWords at the same words.
-/
import Derived.Test.YtnophkbbeipaaaaOMem
import Derived.Test.YtnophkbbeipaaaaGSame
namespace Go.Proofs.Ytnophkbbeipaaaa
open Go.RowKit
set_option maxRecDepth 100000 in
set_option maxHeartbeats 4000000 in
theorem Sa.words (ts : List Wo) (v1 v2 : Value) (R R' : Nat → Prop) (w : World) (h1 : Wo.Lies w R ts v1) (h2 : Wo.Lies w R' ts v2) :
    Calls Try.prog 9 #[v1, v2] w fun e w' => e = .returned (.bool true) ∧ ∃ n, w' = w.drewN n := by
  obtain ⟨a1, d1, rfl, l1, m1, x1⟩ := h1
  obtain ⟨a2, d2, rfl, l2, m2, x2⟩ := h2
  have hm : ts.length ≤ 9223372036854775807 := by unfold maxLen at m1; omega
  have X1 := Lib.hid x1
  have X2 := Lib.hid x2
  clear x1 x2
  go_enter Try.func9, Try.ntmps9
  go_wp2
  go_loopw [5] (fun i wr => ∃ j : Nat, j ≤ ts.length ∧ i = .int .i64 (j : Int) ∧ Hid (∃ n, wr = w.drewN n)) (fun i _ => ts.length - (intOf i).toNat)
  case atStart => exact ⟨0, Nat.zero_le _, rfl, 0, rfl⟩
  case round =>
    obtain ⟨j, hj, rfl, HW⟩ := hrel
    by_cases hlt : j < ts.length
    · obtain ⟨b1, o1, av1, rfl, _, p0, p1, p2, p3, pl⟩ := X1.out j ts[j] (List.getElem?_eq_getElem hlt)
      obtain ⟨b2, o2, av2, rfl, _, q0, q1, q2, q3, ql⟩ := X2.out j ts[j] (List.getElem?_eq_getElem hlt)
      generalize ts[j] = y at *
      obtain ⟨yk, yt, yp, yn⟩ := y
      have hd1 : j < d1 := by omega
      have hd2 : j < d2 := by omega
      simp only at p0 p1 p2 p3 q0 q1 q2 q3 pl ql
      have hcell : ∀ a v, w.cell? a = some v → wr.cell? a = some v := fun a v h => by obtain ⟨n, hn⟩ := HW.out; rw [hn]; exact h
      have hli : ∀ R v, St.Lies w R yp v → St.Lies wr R yp v := fun R v h => by obtain ⟨n, hn⟩ := HW.out; rw [hn]; exact h
      replace p0 := hcell _ _ p0
      replace p1 := hcell _ _ p1
      replace p2 := hcell _ _ p2
      replace p3 := hcell _ _ p3
      replace q0 := hcell _ _ q0
      replace q1 := hcell _ _ q1
      replace q2 := hcell _ _ q2
      replace q3 := hcell _ _ q3
      have hat := fun (k : Nat) => Sa.texts yp av1 av2 R R' (wr.drewN k) (hli _ _ pl) (hli _ _ ql)
      clear hcell hli
      obtain ⟨aa1, dd1, rfl, _⟩ := pl
      obtain ⟨aa2, dd2, rfl, _⟩ := ql
      clear X1 X2
      generalize (⟨yt.toArray⟩ : ByteArray) = yb at *
      have s0 : ((yk : Int) != (yk : Int)) = false := by simp
      have s1 : (yb.toList != yb.toList) = false := by simp
      have s2 : (yn != yn) = false := by simp
      go_wp2_with fail
      go_quiet ((go_at_call 19; exact Calls.quiet_of (hat _)))
      go_wp2
      go_roundw
      case rel => exact ⟨j + 1, by omega, by go_num, by obtain ⟨n, hn⟩ := HW.out; rw [hn]; exact ⟨_, World.drewN_drewN _ _ _⟩⟩
      case measure => simp [intOf]; omega
    · have e : j = ts.length := by omega
      subst e
      go_wp2
      go_ret
      exact ⟨rfl, HW.out⟩
end Go.Proofs.Ytnophkbbeipaaaa

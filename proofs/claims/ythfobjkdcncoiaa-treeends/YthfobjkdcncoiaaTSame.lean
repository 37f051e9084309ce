/-
  THE WALKS of stolelaw0.SameAttrs and stolelaw0.SameTokens at the same attributes, the same tokens.
-/
import Derived.Test.YthfobjkdcncoiaaTMem
import Derived.Deep.QuietTactic
import Derived.BigQuiet
namespace Go.Proofs.Ythfobjkdcncoiaa
open Go.RowKit
theorem Sa.drews {B : Nat} {a w : World} (h : Below B a w) (n : Nat) : Below B a (w.drewN n) := ⟨h.os, h.tape, h.output, h.size, h.block⟩
theorem Sa.lies {w : World} {R : Nat → Prop} {al : List (ByteArray × ByteArray)} {v : Value} (h : Ak.Lies w R al v) (n : Nat) : Ak.Lies (w.drewN n) R al v := h
set_option maxHeartbeats 2000000 in
theorem Sa.attrs (al : List (ByteArray × ByteArray)) (v1 v2 : Value) (R R' : Nat → Prop) (w : World) (h1 : Ak.Lies w R al v1) (h2 : Ak.Lies w R' al v2) :
    Calls Try.prog 24 #[v1, v2] w fun e w' => e = .returned (.bool true) ∧ ∃ n, w' = w.drewN n := by
  obtain ⟨a1, d1, rfl, l1, m1, x1⟩ := h1
  obtain ⟨a2, d2, rfl, l2, m2, x2⟩ := h2
  have hm : al.length ≤ 9223372036854775807 := by unfold maxLen at m1; omega
  have X1 := Lib.hid x1
  have X2 := Lib.hid x2
  clear x1 x2
  go_enter Try.func24, Try.ntmps24
  go_wp2
  go_loopw [5] (fun i wr => ∃ j n : Nat, j ≤ al.length ∧ i = .int .i64 (j : Int) ∧ wr = w.drewN n) (fun i _ => al.length - (intOf i).toNat)
  case atStart => exact ⟨0, 0, Nat.zero_le _, rfl, rfl⟩
  case round =>
    obtain ⟨j, n, hj, rfl, rfl⟩ := hrel
    by_cases hlt : j < al.length
    · obtain ⟨b1, o1, rfl, _, c1, c1'⟩ := X1.out j al[j] (List.getElem?_eq_getElem hlt)
      obtain ⟨b2, o2, rfl, _, c2, c2'⟩ := X2.out j al[j] (List.getElem?_eq_getElem hlt)
      generalize al[j] = y at *
      obtain ⟨yn, yv⟩ := y
      have hd1 : j < d1 := by omega
      have hd2 : j < d2 := by omega
      simp only at c1 c1' c2 c2'
      go_wp2_with fail
      go_quiet (fail)
      go_wp2
      go_roundw
      case rel => exact ⟨j + 1, _, by omega, by go_num, rfl⟩
      case measure => simp [intOf]; omega
    · have e : j = al.length := by omega
      subst e
      go_wp2
      go_ret
      exact ⟨rfl, n, rfl⟩
set_option maxRecDepth 100000 in
set_option maxHeartbeats 4000000 in
theorem Sa.tokens (ts : List Tk) (v1 v2 : Value) (R R' : Nat → Prop) (w : World) (h1 : Tk.Lies w R ts v1) (h2 : Tk.Lies w R' ts v2) :
    Calls Try.prog 13 #[v1, v2] w fun e w' => e = .returned (.bool true) ∧ ∃ n, w' = w.drewN n := by
  obtain ⟨a1, d1, rfl, l1, m1, x1⟩ := h1
  obtain ⟨a2, d2, rfl, l2, m2, x2⟩ := h2
  have hm : ts.length ≤ 9223372036854775807 := by unfold maxLen at m1; omega
  have X1 := Lib.hid x1
  have X2 := Lib.hid x2
  clear x1 x2
  go_enter Try.func13, Try.ntmps13
  go_wp2
  go_loopw [5] (fun i wr => ∃ j : Nat, j ≤ ts.length ∧ i = .int .i64 (j : Int) ∧ Hid (∃ n, wr = w.drewN n)) (fun i _ => ts.length - (intOf i).toNat)
  case atStart => exact ⟨0, Nat.zero_le _, rfl, 0, rfl⟩
  case round =>
    obtain ⟨j, hj, rfl, HW⟩ := hrel
    by_cases hlt : j < ts.length
    · obtain ⟨b1, o1, av1, rfl, _, p0, p1, p2, p3, p4, pl⟩ := X1.out j ts[j] (List.getElem?_eq_getElem hlt)
      obtain ⟨b2, o2, av2, rfl, _, q0, q1, q2, q3, q4, ql⟩ := X2.out j ts[j] (List.getElem?_eq_getElem hlt)
      generalize ts[j] = y at *
      obtain ⟨yk, yn, yt, ya, ys⟩ := y
      have hd1 : j < d1 := by omega
      have hd2 : j < d2 := by omega
      simp only at p0 p1 p2 p3 p4 q0 q1 q2 q3 q4
      have hcell : ∀ a v, w.cell? a = some v → wr.cell? a = some v := fun a v h => by obtain ⟨n, hn⟩ := HW.out; rw [hn]; exact h
      have hli : ∀ R v, Ak.Lies w R ya v → Ak.Lies wr R ya v := fun R v h => by obtain ⟨n, hn⟩ := HW.out; rw [hn]; exact h
      replace p0 := hcell _ _ p0
      replace p1 := hcell _ _ p1
      replace p2 := hcell _ _ p2
      replace p3 := hcell _ _ p3
      replace p4 := hcell _ _ p4
      replace q0 := hcell _ _ q0
      replace q1 := hcell _ _ q1
      replace q2 := hcell _ _ q2
      replace q3 := hcell _ _ q3
      replace q4 := hcell _ _ q4
      have hat := fun (k : Nat) => Sa.attrs ya av1 av2 R R' (wr.drewN k) (Sa.lies (hli _ _ pl) k) (Sa.lies (hli _ _ ql) k)
      clear hcell hli
      obtain ⟨aa1, dd1, rfl, _⟩ := pl
      obtain ⟨aa2, dd2, rfl, _⟩ := ql
      clear X1 X2
      have s0 : (yk != yk) = false := by simp
      have s1 : (yn.toList != yn.toList) = false := by simp
      have s2 : (yt.toList != yt.toList) = false := by simp
      have s3 : (ys != ys) = false := by simp
      go_wp2_with fail
      go_quiet ((go_at_call 24; exact Calls.quiet_of (hat _)))
      go_wp2
      go_roundw
      case rel => exact ⟨j + 1, by omega, by go_num, by obtain ⟨n, hn⟩ := HW.out; rw [hn]; exact ⟨_, World.drewN_drewN _ _ _⟩⟩
      case measure => simp [intOf]; omega
    · have e : j = ts.length := by omega
      subst e
      go_wp2
      go_ret
      exact ⟨rfl, HW.out⟩
end Go.Proofs.Ythfobjkdcncoiaa

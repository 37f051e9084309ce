/-
  THE WALK of stolelaw0.SameTexts at the same texts.
-/
import Derived.Test.YtnophkbbeipaaaaGTxt
import Derived.Deep.QuietTactic
namespace Go.Proofs.Ytnophkbbeipaaaa
open Go.RowKit
set_option maxHeartbeats 2000000 in
theorem Sa.texts (ts : List (List UInt8)) (v1 v2 : Value) (R R' : Nat → Prop) (w : World) (h1 : St.Lies w R ts v1) (h2 : St.Lies w R' ts v2) :
    Calls Try.prog 19 #[v1, v2] w fun e w' => e = .returned (.bool true) ∧ ∃ n, w' = w.drewN n := by
  obtain ⟨a1, d1, rfl, l1, m1, x1⟩ := h1
  obtain ⟨a2, d2, rfl, l2, m2, x2⟩ := h2
  have hm : ts.length ≤ 9223372036854775807 := by unfold maxLen at m1; omega
  have X1 := Lib.hid x1
  have X2 := Lib.hid x2
  clear x1 x2
  go_enter Try.func19, Try.ntmps19
  go_wp2
  go_loopw [5] (fun i wr => ∃ j n : Nat, j ≤ ts.length ∧ i = .int .i64 (j : Int) ∧ wr = w.drewN n) (fun i _ => ts.length - (intOf i).toNat)
  case atStart => exact ⟨0, 0, Nat.zero_le _, rfl, rfl⟩
  case round =>
    obtain ⟨j, n, hj, rfl, rfl⟩ := hrel
    by_cases hlt : j < ts.length
    · obtain ⟨b1, o1, rfl, _, c1⟩ := X1.out j ts[j] (List.getElem?_eq_getElem hlt)
      obtain ⟨b2, o2, rfl, _, c2⟩ := X2.out j ts[j] (List.getElem?_eq_getElem hlt)
      generalize ts[j] = y at *
      have hd1 : j < d1 := by omega
      have hd2 : j < d2 := by omega
      go_wp2_with fail
      go_quiet (fail)
      go_wp2
      go_roundw
      case rel => exact ⟨j + 1, _, by omega, by go_num, rfl⟩
      case measure => simp [intOf]; omega
    · have e : j = ts.length := by omega
      subst e
      go_wp2
      go_ret
      exact ⟨rfl, n, rfl⟩
end Go.Proofs.Ytnophkbbeipaaaa

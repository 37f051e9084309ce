/-
  THE WALK of stolelaw7.TreeForms: whatever the two numbers, the call returns true.
-/
import Derived.Test.YthfobjkdcncoiaaUFm0
import Derived.Test.YthfobjkdcncoiaaUFm1
import Derived.Test.YthfobjkdcncoiaaUFm2
import Derived.Test.YthfobjkdcncoiaaUFm3
namespace Go.Proofs.Ythfobjkdcncoiaa
open Go.RowKit
theorem Law.treeForms (n x : Int) (w : World) (_hn : -9223372036854775808 ≤ n ∧ n ≤ 9223372036854775807) (_hx : -9223372036854775808 ≤ x ∧ x ≤ 9223372036854775807) :
    Calls Try.prog 6 #[.int .i64 n, .int .i64 x] w fun e w' => e = .returned (.bool true) ∧ Below w.heap.size w w' := by
  have h : 0 ≤ IntKind.u64.wrap n ∧ IntKind.u64.wrap n < 18446744073709551616 := by
    unfold IntKind.wrap
    simp [IntKind.bits, IntKind.signed]
    omega
  obtain ⟨u, hu⟩ : ∃ u : Nat, IntKind.u64.wrap n = (u : Int) := ⟨(IntKind.u64.wrap n).toNat, by omega⟩
  have hu2 : u < 18446744073709551616 := by omega
  have hc : (u : Int) % 11 = 0 ∨ (u : Int) % 11 = 1 ∨ (u : Int) % 11 = 2 ∨ (u : Int) % 11 = 3 ∨ (u : Int) % 11 = 4 ∨ (u : Int) % 11 = 5 ∨ (u : Int) % 11 = 6 ∨ (u : Int) % 11 = 7 ∨ (u : Int) % 11 = 8 ∨ (u : Int) % 11 = 9 ∨ (u : Int) % 11 = 10 := by omega
  rcases hc with q | q | q | q | q | q | q | q | q | q | q
  · exact Fm.case0 n x w u hu hu2 q
  · exact Fm.case1 n x w u hu hu2 q
  · exact Fm.case2 n x w u hu hu2 q
  · exact Fm.case3 n x w u hu hu2 q
  · exact Fm.case4 n x w u hu hu2 q
  · exact Fm.case5 n x w u hu hu2 q
  · exact Fm.case6 n x w u hu hu2 q
  · exact Fm.case7 n x w u hu hu2 q
  · exact Fm.case8 n x w u hu hu2 q
  · exact Fm.case9 n x w u hu hu2 q
  · exact Fm.case10 n x w u hu hu2 q
end Go.Proofs.Ythfobjkdcncoiaa

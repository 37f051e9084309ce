/-
  THE WALK of stolelaw8.PageForms: whatever the two numbers, the call returns true.
-/
import Derived.Test.YtblpkjlodncpeaaGreatDoorALF0
import Derived.Test.YtblpkjlodncpeaaGreatDoorALF1
import Derived.Test.YtblpkjlodncpeaaGreatDoorALF2
namespace Go.Proofs.YtblpkjlodncpeaaGreatDoor
open Go.RowKit
theorem Law.pageForms (n x : Int) (m : Int) (w : World) (hm : w.cell? ⟨1, 0, none⟩ = some (.int .i64 m)) (ht : Pq.Tab w) (_hn : -9223372036854775808 ≤ n ∧ n ≤ 9223372036854775807) (_hx : -9223372036854775808 ≤ x ∧ x ≤ 9223372036854775807) :
    Calls Tryz.prog 5 #[.int .i64 n, .int .i64 x] w fun e w' => e = .returned (.bool true) ∧ Below w.heap.size w w' := by
  have h : 0 ≤ IntKind.u64.wrap n ∧ IntKind.u64.wrap n < 18446744073709551616 := by
    unfold IntKind.wrap
    simp [IntKind.bits, IntKind.signed]
    omega
  obtain ⟨u, hu⟩ : ∃ u : Nat, IntKind.u64.wrap n = (u : Int) := ⟨(IntKind.u64.wrap n).toNat, by omega⟩
  have hc : (u : Int) % 12 = 0 ∨ (u : Int) % 12 = 1 ∨ (u : Int) % 12 = 2 ∨ (u : Int) % 12 = 3 ∨ (u : Int) % 12 = 4 ∨ (u : Int) % 12 = 5 ∨ (u : Int) % 12 = 6 ∨ (u : Int) % 12 = 7 ∨ (u : Int) % 12 = 8 ∨ (u : Int) % 12 = 9 ∨ (u : Int) % 12 = 10 ∨ (u : Int) % 12 = 11 := by omega
  rcases hc with q | q | q | q | q | q | q | q | q | q | q | q
  · exact Lf.case0 n x m w hm ht u hu q
  · exact Lf.case1 n x m w hm ht u hu q
  · exact Lf.case2 n x m w hm ht u hu q
  · exact Lf.case3 n x m w hm ht u hu q
  · exact Lf.case4 n x m w hm ht u hu q
  · exact Lf.case5 n x m w hm ht u hu q
  · exact Lf.case6 n x m w hm ht u hu q
  · exact Lf.case7 n x m w hm ht u hu q
  · exact Lf.case8 n x m w hm ht u hu q
  · exact Lf.case9 n x m w hm ht u hu q
  · exact Lf.case10 n x m w hm ht u hu q
  · exact Lf.case11 n x m w hm ht u hu q
end Go.Proofs.YtblpkjlodncpeaaGreatDoor

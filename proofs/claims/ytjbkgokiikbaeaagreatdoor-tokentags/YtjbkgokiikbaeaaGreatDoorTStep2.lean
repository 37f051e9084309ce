/-
  THE WALKS of a table's step at every place, of tok.Step and tok.Start.
-/
import Derived.Test.YtjbkgokiikbaeaaGreatDoorTTab
namespace Go.Proofs.YtjbkgokiikbaeaaGreatDoor
open Go.RowKit
/-- the names of a state are no longer than a text may be -/
def Ts.Fits (s : Ts) : Prop := s.name.size ≤ maxLen ∧ s.attr.size ≤ maxLen ∧ s.held.size ≤ maxLen
theorem Ts.to_fits {s : Ts} (h : s.Fits) (a : Int) : (s.to a).Fits := by
  have e : Ts.e.size ≤ maxLen := by decide
  unfold Ts.to
  refine ⟨?_, ?_, ?_⟩
  · show (if _ then _ else _ : ByteArray).size ≤ _
    split
    · exact h.1
    · exact e
  · show (if _ then _ else _ : ByteArray).size ≤ _
    split
    · exact h.2.1
    · exact e
  · show (if _ then _ else _ : ByteArray).size ≤ _
    split
    · exact h.2.2
    · exact e
theorem Tp.step (s : Ts) (c : UInt8) (w : World) (g off : Nat) (hT : Tp.Table w g off) (hs : s.Fits) :
    Calls Tryz.prog 23 #[.pointer (some ⟨g, off, none⟩), .agg #[.int .i64 s.pl, .string s.name, .bool s.fin, .string s.attr, .string s.held, .int .i64 s.read], .int .u8 c.toNat] w fun e w' => e = .returned (.agg #[.int .i64 (s.step c).pl, .string (s.step c).name, .bool (s.step c).fin, .string (s.step c).attr, .string (s.step c).held, .int .i64 (s.step c).read]) ∧ Below w.heap.size w w' := by
  by_cases hk : s.pl < 0 ∨ 23 ≤ s.pl
  · have h := Tp.stepOut s c w g off hk
    rw [show s.step c = s by unfold Ts.step; rw [if_pos hk]]
    exact h
  obtain ⟨k, hk'⟩ : ∃ k : Nat, s.pl = (k : Int) := ⟨s.pl.toNat, by omega⟩
  have hk23 : k < 23 := by omega
  rw [show s.step c = (s.to k).at c k by unfold Ts.step; rw [if_neg hk, hk', Int.toNat_natCast]]
  obtain ⟨B, C, hB, hC, h34, h39, hc⟩ := hT.cell
  have hf := Ts.to_fits hs (k : Int)
  have hlt := hT.lt
  clear hk hs hT
  by_cases e0 : k = 0
  · subst e0
    exact Tp.stepAt s c w g off 0 hk' hk23 hlt 45 #[] (enters_of Tryz.func45 (by kernel_rfl) rfl) (hc 0 _ rfl) _ (fun u _ => Tp.data (s.to 0) c u)
  by_cases e1 : k = 1
  · subst e1
    exact Tp.stepAt s c w g off 1 hk' hk23 hlt 46 #[] (enters_of Tryz.func46 (by kernel_rfl) rfl) (hc 1 _ rfl) _ (fun u _ => Tp.tagOpen (s.to 1) c u)
  by_cases e2 : k = 2
  · subst e2
    exact Tp.stepAt s c w g off 2 hk' hk23 hlt 47 #[] (enters_of Tryz.func47 (by kernel_rfl) rfl) (hc 2 _ rfl) _ (fun u _ => Tp.endOpen (s.to 2) c u)
  by_cases e3 : k = 3
  · subst e3
    exact Tp.stepAt s c w g off 3 hk' hk23 hlt 48 #[] (enters_of Tryz.func48 (by kernel_rfl) rfl) (hc 3 _ rfl) _ (fun u _ => Tp.tagName (s.to 3) c u hf.1)
  by_cases e4 : k = 4
  · subst e4
    exact Tp.stepAt s c w g off 4 hk' hk23 hlt 49 #[] (enters_of Tryz.func49 (by kernel_rfl) rfl) (hc 4 _ rfl) _ (fun u _ => Tp.beforeAttr (s.to 4) c u)
  by_cases e5 : k = 5
  · subst e5
    exact Tp.stepAt s c w g off 5 hk' hk23 hlt 50 #[] (enters_of Tryz.func50 (by kernel_rfl) rfl) (hc 5 _ rfl) _ (fun u _ => Tp.attrName (s.to 5) c u hf.2.1)
  by_cases e6 : k = 6
  · subst e6
    exact Tp.stepAt s c w g off 6 hk' hk23 hlt 51 #[] (enters_of Tryz.func51 (by kernel_rfl) rfl) (hc 6 _ rfl) _ (fun u _ => Tp.afterName (s.to 6) c u)
  by_cases e7 : k = 7
  · subst e7
    exact Tp.stepAt s c w g off 7 hk' hk23 hlt 52 #[] (enters_of Tryz.func52 (by kernel_rfl) rfl) (hc 7 _ rfl) _ (fun u _ => Tp.beforeValue (s.to 7) c u)
  by_cases e8 : k = 8
  · subst e8
    exact Tp.stepAt s c w g off 8 hk' hk23 hlt 94 #[.pointer (some ⟨B, 0, none⟩)] (enters_of Tryz.func94 (by kernel_rfl) rfl) (hc 8 _ rfl) _ (fun u hu => Tp.quoted1 34 (s.to 8) c B u (Nat.lt_of_lt_of_le hB hu.size) (Tp.keep hu h34))
  by_cases e9 : k = 9
  · subst e9
    exact Tp.stepAt s c w g off 9 hk' hk23 hlt 94 #[.pointer (some ⟨C, 0, none⟩)] (enters_of Tryz.func94 (by kernel_rfl) rfl) (hc 9 _ rfl) _ (fun u hu => Tp.quoted1 39 (s.to 9) c C u (Nat.lt_of_lt_of_le hC hu.size) (Tp.keep hu h39))
  by_cases e10 : k = 10
  · subst e10
    exact Tp.stepAt s c w g off 10 hk' hk23 hlt 54 #[] (enters_of Tryz.func54 (by kernel_rfl) rfl) (hc 10 _ rfl) _ (fun u _ => Tp.bare (s.to 10) c u)
  by_cases e11 : k = 11
  · subst e11
    exact Tp.stepAt s c w g off 11 hk' hk23 hlt 55 #[] (enters_of Tryz.func55 (by kernel_rfl) rfl) (hc 11 _ rfl) _ (fun u _ => Tp.afterValue (s.to 11) c u)
  by_cases e12 : k = 12
  · subst e12
    exact Tp.stepAt s c w g off 12 hk' hk23 hlt 56 #[] (enters_of Tryz.func56 (by kernel_rfl) rfl) (hc 12 _ rfl) _ (fun u _ => Tp.selfClose (s.to 12) c u)
  by_cases e13 : k = 13
  · subst e13
    exact Tp.stepAt s c w g off 13 hk' hk23 hlt 57 #[] (enters_of Tryz.func57 (by kernel_rfl) rfl) (hc 13 _ rfl) _ (fun u _ => Tp.bang (s.to 13) c u)
  by_cases e14 : k = 14
  · subst e14
    exact Tp.stepAt s c w g off 14 hk' hk23 hlt 58 #[] (enters_of Tryz.func58 (by kernel_rfl) rfl) (hc 14 _ rfl) _ (fun u _ => Tp.bangDash (s.to 14) c u)
  by_cases e15 : k = 15
  · subst e15
    exact Tp.stepAt s c w g off 15 hk' hk23 hlt 59 #[] (enters_of Tryz.func59 (by kernel_rfl) rfl) (hc 15 _ rfl) _ (fun u _ => Tp.comment (s.to 15) c u)
  by_cases e16 : k = 16
  · subst e16
    exact Tp.stepAt s c w g off 16 hk' hk23 hlt 60 #[] (enters_of Tryz.func60 (by kernel_rfl) rfl) (hc 16 _ rfl) _ (fun u _ => Tp.commentDash (s.to 16) c u)
  by_cases e17 : k = 17
  · subst e17
    exact Tp.stepAt s c w g off 17 hk' hk23 hlt 61 #[] (enters_of Tryz.func61 (by kernel_rfl) rfl) (hc 17 _ rfl) _ (fun u _ => Tp.commentEnd (s.to 17) c u)
  by_cases e18 : k = 18
  · subst e18
    exact Tp.stepAt s c w g off 18 hk' hk23 hlt 62 #[] (enters_of Tryz.func62 (by kernel_rfl) rfl) (hc 18 _ rfl) _ (fun u _ => Tp.bogus (s.to 18) c u)
  by_cases e19 : k = 19
  · subst e19
    exact Tp.stepAt s c w g off 19 hk' hk23 hlt 63 #[] (enters_of Tryz.func63 (by kernel_rfl) rfl) (hc 19 _ rfl) _ (fun u _ => Tp.held (s.to 19) c u)
  by_cases e20 : k = 20
  · subst e20
    exact Tp.stepAt s c w g off 20 hk' hk23 hlt 64 #[] (enters_of Tryz.func64 (by kernel_rfl) rfl) (hc 20 _ rfl) _ (fun u _ => Tp.heldLt (s.to 20) c u)
  by_cases e21 : k = 21
  · subst e21
    exact Tp.stepAt s c w g off 21 hk' hk23 hlt 65 #[] (enters_of Tryz.func65 (by kernel_rfl) rfl) (hc 21 _ rfl) _ (fun u _ => Tp.heldSlash (s.to 21) c u)
  by_cases e22 : k = 22
  · subst e22
    exact Tp.stepAt s c w g off 22 hk' hk23 hlt 66 #[] (enters_of Tryz.func66 (by kernel_rfl) rfl) (hc 22 _ rfl) _ (fun u _ => Tp.heldName (s.to 22) c u hf.2.2)
  omega
end Go.Proofs.YtjbkgokiikbaeaaGreatDoor

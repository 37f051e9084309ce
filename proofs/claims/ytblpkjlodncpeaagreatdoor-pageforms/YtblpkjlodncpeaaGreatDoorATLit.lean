/-
  TOKENS THAT A TEXT LAYS DOWN, in memory: a literal's block is a row of tokens.
-/
import Derived.Test.YtblpkjlodncpeaaGreatDoorATBoxtoTTell
namespace Go.Proofs.YtblpkjlodncpeaaGreatDoor
open Go.RowKit
theorem Ak.Lies.lit {w : World} {g : Nat} {R : Nat → Prop} (al : List (ByteArray × ByteArray)) (cs : Array Value) (hg : w.heap[g]? = some (.cells cs 50)) (hcs : cs.toList = Ak.cells al) (hR : R g) (hm : al.length ≤ maxLen) : Ak.Lies w R al (.slice (some ⟨g, 0, none⟩) al.length al.length) := by
  refine ⟨some ⟨g, 0, none⟩, al.length, rfl, Nat.le_refl _, hm, fun j x hj => ?_⟩
  obtain ⟨h1, h2⟩ := Ak.cells_get al j x hj
  have hc : ∀ r v, (Ak.cells al)[r]? = some v → w.cell? ⟨g, 0 + r, none⟩ = some v := fun r v hv => by
    unfold World.cell?
    rw [hg]
    show cs[0 + r]? = some v
    rw [← Array.getElem?_toList, hcs, Nat.zero_add]
    exact hv
  exact ⟨g, 0, rfl, hR, hc _ _ h1, hc _ _ h2⟩
end Go.Proofs.YtblpkjlodncpeaaGreatDoor

/-
  THE WALK of stoleref5.nodeMay.
-/
import Derived.Test.YtblpkjlodncpeaaGreatDoorAKPlaintoNorm
import Derived.Test.YtblpkjlodncpeaaGreatDoorATMemtoUNd
import Derived.Test.YtblpkjlodncpeaaGreatDoorAUMay
namespace Go.Proofs.YtblpkjlodncpeaaGreatDoor
open Go.RowKit
/-- a node of a row, by its cells -/
theorem Nm.cells {w : World} {R : Nat → Prop} {ns : List Nd} {a : Option Addr} {d : Nat} (h : Nd.Lies w R ns (.slice a ns.length d)) {i : Nat} {x : Nd} (hi : ns[i]? = some x) : ∃ b o aa ad, a = some ⟨b, o, none⟩ ∧ i < ns.length ∧ ns.length ≤ d ∧ d ≤ maxLen ∧ w.cell? ⟨b, o + i * 5, none⟩ = some (.int .i64 x.kind) ∧ w.cell? ⟨b, o + i * 5 + 1, none⟩ = some (.string x.name) ∧ w.cell? ⟨b, o + i * 5 + 2, none⟩ = some (.string x.text) ∧ w.cell? ⟨b, o + i * 5 + 3, none⟩ = some (.slice aa x.attrs.length ad) ∧ w.cell? ⟨b, o + i * 5 + 4, none⟩ = some (.int .i64 x.parent) ∧ x.attrs.length ≤ maxLen ∧ Ak.Lies w R x.attrs (.slice aa x.attrs.length ad) := by
  obtain ⟨a', d', e, h1, h2, hx⟩ := h
  injection e with e1 e2 e3
  subst e1
  subst e3
  obtain ⟨b, o, av, ea, hb, c0, c1, c2, c3, c4, hl⟩ := hx i x hi
  obtain ⟨aa, ad, rfl, g1, g2, gx⟩ := id hl
  exact ⟨b, o, aa, ad, ea, (List.getElem?_eq_some_iff.1 hi).1, h1, h2, c0, c1, c2, c3, c4, by omega, hl⟩
end Go.Proofs.YtblpkjlodncpeaaGreatDoor

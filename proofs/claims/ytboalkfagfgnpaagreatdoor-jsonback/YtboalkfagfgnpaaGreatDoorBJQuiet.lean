/-
  A REGION THAT DRAWS ITS ORDER, whose operations only read and whose callees only add: one walk, over all worlds that have grown from one.
-/
import Derived.Test.YtboalkfagfgnpaaGreatDoorBJAwtoJMay
import Derived.BigQuiet
import Derived.Deep.Cut
namespace Go.Proofs.YtboalkfagfgnpaaGreatDoor
open Go.RowKit
def Jq.Wd (L : World) : Type := { u : World // Below L.heap.size L u }
theorem Jq.ne (L : World) : Nonempty (Jq.Wd L) := ⟨⟨L, Below.refl _ _⟩⟩
theorem Jq.region {L : World} {id : Nat} {Q : Exit → Act → World → Prop} {a : Act} {l : List Oper} (hB : Region.lexB .any l.toArray = true)
    (h : wpQuiet Tryz.prog l.toArray (fun u => ∃ q : Jq.Wd L, u = q.1) (fun a' => ∀ w', (∃ q : Jq.Wd L, w' = q.1) → Q .normal a' w') l a) : (Code.region id l.toArray true).wp Tryz.prog Q a L :=
  wp_region_quiet (C := fun u => ∃ q : Jq.Wd L, u = q.1) (by kernel_rfl) hB ⟨⟨_, (Below.refl _ _).drew⟩, rfl⟩ (by simpa using h)
theorem Jq.call {L : World} {f : FuncId} {args : Array Value} {v : Value} (q : Jq.Wd L) (h : Calls Tryz.prog f args q.1 fun e w' => e = .returned v ∧ Below q.1.heap.size q.1 w') :
    Calls Tryz.prog f args q.1 fun e w'' => e = .returned v ∧ ∃ m : Jq.Wd L, w'' = m.1 :=
  h.mono fun _ w' ⟨he, hb⟩ => ⟨he, ⟨w', q.2.trans (hb.mono q.2.size)⟩, rfl⟩
theorem Jq.errno {L : World} (q : Jq.Wd L) (x : Int) : Calls Tryz.prog 10 #[.int .i64 x] q.1 fun e w'' => e = .returned (.int .i64 x) ∧ ∃ m : Jq.Wd L, w'' = m.1 :=
  (Vn.errno x q.1).mono fun _ _ ⟨he, hw⟩ => ⟨he, q, hw⟩
theorem Jq.cells {L : World} {g : Nat} {v0 v1 v2 v3 v4 v5 : Value} (h : Vm.Box L g v0 v1 v2 v3 v4 v5) (q : Jq.Wd L) : q.1.cell? ⟨g, 0, none⟩ = some v0 ∧ q.1.cell? ⟨g, 1, none⟩ = some v1 ∧ q.1.cell? ⟨g, 2, none⟩ = some v2 ∧ q.1.cell? ⟨g, 3, none⟩ = some v3 ∧ q.1.cell? ⟨g, 4, none⟩ = some v4 ∧ q.1.cell? ⟨g, 5, none⟩ = some v5 :=
  Vm.Box.cells ⟨(q.2.block g h.lt).trans h.all⟩
end Go.Proofs.YtboalkfagfgnpaaGreatDoor

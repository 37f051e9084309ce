/-
  THE WALK of tok.Tokens.
-/
import Derived.Test.YtjbkgokiikbaeaaGreatDoorTRead
import Derived.Test.YtjbkgokiikbaeaaGreatDoorTPre
namespace Go.Proofs.YtjbkgokiikbaeaaGreatDoor
open Go.RowKit
/-- the reader's cells at the start -/
def Rm.cells (P : ByteArray) (B C : Nat) : Array Value := #[.string P, Tp.fn 45, Tp.fn 46, Tp.fn 47, Tp.fn 48, Tp.fn 49, Tp.fn 50, Tp.fn 51, Tp.fn 52, Tp.quote B, Tp.quote C, Tp.fn 54, Tp.fn 55, Tp.fn 56, Tp.fn 57, Tp.fn 58, Tp.fn 59, Tp.fn 60, Tp.fn 61, Tp.fn 62, Tp.fn 63, Tp.fn 64, Tp.fn 65, Tp.fn 66, .int .i64 0, .string ⟨#[]⟩, .bool false, .string ⟨#[]⟩, .string ⟨#[]⟩, .int .i64 0, .slice none 0 0, .int .i64 0, .int .i64 0, .int .i64 0, .slice none 0 0, .bool false]
def Rm.zeros : Array Value := #[.string ⟨#[]⟩, .nilFunc, .nilFunc, .nilFunc, .nilFunc, .nilFunc, .nilFunc, .nilFunc, .nilFunc, .nilFunc, .nilFunc, .nilFunc, .nilFunc, .nilFunc, .nilFunc, .nilFunc, .nilFunc, .nilFunc, .nilFunc, .nilFunc, .nilFunc, .nilFunc, .nilFunc, .nilFunc, .int .i64 0, .string ⟨#[]⟩, .bool false, .string ⟨#[]⟩, .string ⟨#[]⟩, .int .i64 0, .slice none 0 0, .int .i64 0, .int .i64 0, .int .i64 0, .slice none 0 0, .bool false]
theorem Rm.infoR : (Tryz.prog.info? 62).map (·.size) = some 36 := by kernel_rfl
theorem Rm.cells_one (P : ByteArray) (B C : Nat) : (Rm.cells P B C).all (·.oneCell') = true := by simp [Rm.cells, Tp.fn, Tp.quote, Value.oneCell']
theorem Rm.cells_len (P : ByteArray) (B C : Nat) : (Rm.cells P B C).toList.length = 36 := rfl
theorem Rm.cells_get (P : ByteArray) (B C : Nat) (k : Nat) (v : Value) (h : (Tp.table B C)[k]? = some v) : (Rm.cells P B C).toList[1 + k]? = some v := by
  have hlt : k < 23 := by
    have := (Array.getElem?_eq_some_iff.1 h).1
    simpa [Tp.table] using this
  have : ∀ k, k < 23 → (Rm.cells P B C).toList[1 + k]? = (Tp.table B C).toList[k]? := by
    intro k hk
    have e : (Rm.cells P B C).toList = [.string P] ++ ((Tp.table B C).toList ++ [.int .i64 0, .string ⟨#[]⟩, .bool false, .string ⟨#[]⟩, .string ⟨#[]⟩, .int .i64 0, .slice none 0 0, .int .i64 0, .int .i64 0, .int .i64 0, .slice none 0 0, .bool false]) := rfl
    rw [e, List.getElem?_append_right (by simp), List.getElem?_append_left (by show _ < 23; simp; omega)]
    simp
  rw [this k hlt, Array.getElem?_toList]
  exact h
/-- the reader laid into a new variable -/
theorem Rm.At.laid {W : World} {g B C : Nat} {P : ByteArray} (hg : g < W.heap.size) (ht : W.there g 0 36) (hz : ∀ i, W.frozen? ⟨g, i, none⟩ = false) (hB : B < g) (hC : C < g) (h1 : W.cell? ⟨B, 0, none⟩ = some (.int .u8 34)) (h2 : W.cell? ⟨C, 0, none⟩ = some (.int .u8 39)) :
    Rm.At (W.setCells g 0 (Rm.cells P B C).toList) g P Rd.start (.slice none 0 0) (.slice none 0 0) := by
  have hr := World.rangeAt_setCells_same W g 0 (Rm.cells P B C).toList (by rw [Rm.cells_len]; exact ht)
  have hs := Tp.setCells_size g (Rm.cells P B C).toList 0 W
  have hf : ∀ i, (W.setCells g 0 (Rm.cells P B C).toList).frozen? ⟨g, i, none⟩ = W.frozen? ⟨g, i, none⟩ := fun i => World.frozen?_setCells _ _ _ _ _
  have h34 := (World.cell?_setCells_out g (Rm.cells P B C).toList 0 W ⟨B, 0, none⟩ (fun e => by have e' : B = g := e; omega)).trans h1
  have h39 := (World.cell?_setCells_out g (Rm.cells P B C).toList 0 W ⟨C, 0, none⟩ (fun e => by have e' : C = g := e; omega)).trans h2
  have hq : ∀ o v, (Rm.cells P B C).toList[o]? = some v → (W.setCells g 0 (Rm.cells P B C).toList).cell? ⟨g, o, none⟩ = some v := fun o v hv => by have := hr o v hv; rwa [Nat.zero_add] at this
  refine ⟨⟨hq 0 _ rfl, ⟨by omega, B, C, by omega, by omega, h34, h39, fun k v hv => hq _ _ (Rm.cells_get P B C k v hv)⟩, hq 24 _ rfl, hq 25 _ rfl, hq 26 _ rfl, hq 27 _ rfl, hq 28 _ rfl, hq 29 _ rfl, hq 30 _ rfl, hq 31 _ rfl, hq 32 _ rfl, hq 33 _ rfl, hq 34 _ rfl, hq 35 _ rfl, ?_, ?_⟩, ?_, World.ownsRow_nil _ _ _ _, fun k _ e => by cases e⟩
  · intro i
    rw [hf]
    exact hz i
  · intro B' C' e1 e2
    rw [hq 9 _ rfl] at e1
    rw [hq 10 _ rfl] at e2
    have b1 : Tp.quote B = Tp.quote B' := Option.some.inj e1
    have b2 : Tp.quote C = Tp.quote C' := Option.some.inj e2
    unfold Tp.quote at b1 b2
    simp at b1 b2
    omega
  · exact ⟨[], World.ownsRow_nil _ _ _ _, fun i t h => by simp [Rd.start] at h⟩
end Go.Proofs.YtjbkgokiikbaeaaGreatDoor

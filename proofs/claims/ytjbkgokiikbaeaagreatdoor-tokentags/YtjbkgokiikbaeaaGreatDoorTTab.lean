/-
  THE WALKS of tok.steppers, tok.Step, tok.Start: the table of functions in memory.
-/
import Derived.Test.YtjbkgokiikbaeaaGreatDoorTRowB
import Derived.Test.YtjbkgokiikbaeaaGreatDoorTRowE
import Derived.Test.YtjbkgokiikbaeaaGreatDoorTStep
import Derived.Great.BuildSlice
import Derived.Deep.MidRow
namespace Go.Proofs.YtjbkgokiikbaeaaGreatDoor
open Go.RowKit
def Tp.quote (B : Nat) : Value := .func (.func 94) #[] #[.pointer (some ⟨B, 0, none⟩)]
def Tp.fn (f : Nat) : Value := .func (.func f) #[] #[]
/-- the table's functions, the quotes' variables at B and C -/
def Tp.table (B C : Nat) : Array Value := #[Tp.fn 45, Tp.fn 46, Tp.fn 47, Tp.fn 48, Tp.fn 49, Tp.fn 50, Tp.fn 51, Tp.fn 52, Tp.quote B, Tp.quote C, Tp.fn 54, Tp.fn 55, Tp.fn 56, Tp.fn 57, Tp.fn 58, Tp.fn 59, Tp.fn 60, Tp.fn 61, Tp.fn 62, Tp.fn 63, Tp.fn 64, Tp.fn 65, Tp.fn 66]
/-- the table lies at a place of block g; the quotes in variables of their own -/
structure Tp.Table (w : World) (g off : Nat) : Prop where
  lt : g < w.heap.size
  all : ∃ B C, B < w.heap.size ∧ C < w.heap.size ∧ w.cell? ⟨B, 0, none⟩ = some (.int .u8 34) ∧ w.cell? ⟨C, 0, none⟩ = some (.int .u8 39) ∧ ∀ k v, (Tp.table B C)[k]? = some v → w.cell? ⟨g, off + k, none⟩ = some v

theorem Tp.quoted (q : Int) (w : World) : Calls Tryz.prog 53 #[.int .u8 q] w fun e w' => e = .returned (Tp.quote w.heap.size) ∧ w' = w.alloc (.cells #[.int .u8 q] 5) := by
  go_enter Tryz.func53, Tryz.ntmps53
  go_wp2
  go_ret
  exact ⟨rfl, rfl⟩
theorem Tp.setCells {B : Nat} {a : World} (b : Nat) (hB : B ≤ b) : ∀ (vs : List Value) (o : Nat) (w : World), Below B a w → Below B a (w.setCells b o vs)
  | [], _, _, h => h
  | _ :: vs, o, _, h => Tp.setCells b hB vs (o + 1) _ (h.setCell (p := ⟨b, o, none⟩) hB _)
theorem Tp.setCells_size (b : Nat) : ∀ (vs : List Value) (o : Nat) (w : World), (w.setCells b o vs).heap.size = w.heap.size
  | [], _, _ => rfl
  | _ :: vs, o, w => by
    show ((w.setCell ⟨b, o, none⟩ _).setCells b (o + 1) vs).heap.size = _
    rw [Tp.setCells_size b vs]; simp
theorem Tp.newCell (w : World) (v : Value) (t : TypeId) {g : Nat} (hg : g = w.heap.size) : (w.alloc (.cells #[v] t)).cell? ⟨g, 0, none⟩ = some v := by subst hg; simp
theorem Tp.tableInfo : (Tryz.prog.info? 58).map (·.size) = some 23 := by kernel_rfl
theorem Tp.table_one (B C : Nat) : (Tp.table B C).all (·.oneCell') = true := by simp [Tp.table, Tp.fn, Tp.quote, Value.oneCell']
/-- what a new array of functions is -/
def Tp.none23 : Array Value := #[.nilFunc, .nilFunc, .nilFunc, .nilFunc, .nilFunc, .nilFunc, .nilFunc, .nilFunc, .nilFunc, .nilFunc, .nilFunc, .nilFunc, .nilFunc, .nilFunc, .nilFunc, .nilFunc, .nilFunc, .nilFunc, .nilFunc, .nilFunc, .nilFunc, .nilFunc, .nilFunc]
theorem Tp.there (w : World) (g : Nat) (cs : Array Value) (t : TypeId) (h : w.heap[g]? = some (.cells cs t)) (o n : Nat) (hn : o + n ≤ cs.size) : w.there g o n := by
  intro j hj
  have hlt : o + j < cs.size := by omega
  constructor
  · unfold World.cell?
    rw [h]
    simp [hlt]
  · unfold World.frozen?
    rw [h]
    simp
set_option maxHeartbeats 2000000 in
theorem Tp.steppers (w : World) : Calls Tryz.prog 22 #[] w fun e w' => ∃ B C, e = .returned (.agg (Tp.table B C)) ∧ B < w'.heap.size ∧ C < w'.heap.size ∧ w.heap.size ≤ B ∧ w.heap.size ≤ C ∧ w'.cell? ⟨B, 0, none⟩ = some (.int .u8 34) ∧ w'.cell? ⟨C, 0, none⟩ = some (.int .u8 39) ∧ Below w.heap.size w w' := by
  go_enter Tryz.func22, Tryz.ntmps22
  go_wp2_with (first | (go_at_call 53; refine (Tp.quoted _ _).mono ?_; rintro e w' ⟨rfl, rfl⟩) | refine Vm.stop 3 ?_)
  obtain ⟨W, hW⟩ : ∃ W, ((w.alloc (.cells Tp.none23 58)).alloc (.cells #[.int .u8 34] 5)).alloc (.cells #[.int .u8 39] 5) = W := ⟨_, rfl⟩
  have hsz : W.heap.size = w.heap.size + 3 := by rw [← hW]; simp
  have hbW : Below w.heap.size w W := by rw [← hW]; exact (Tp.two _ _ _).alloc (by simp; omega) _
  have c34 : W.cell? ⟨w.heap.size + 1, 0, none⟩ = some (.int .u8 34) := by
    rw [← hW]
    exact Tp.keep ((Below.refl _ _).alloc (Nat.le_refl _) _) (Tp.newCell (w.alloc _) _ _ (by simp))
  have c39 : W.cell? ⟨w.heap.size + 1 + 1, 0, none⟩ = some (.int .u8 39) := by
    rw [← hW]
    exact Tp.newCell ((w.alloc _).alloc _) _ _ (by simp)
  have hth : W.there w.heap.size 0 23 := by
    refine Tp.there W w.heap.size Tp.none23 58 ?_ 0 23 (by decide)
    rw [← hW]
    exact (Below.heap_alloc _ _ _ (by simp; omega)).trans ((Below.heap_alloc _ _ _ (by simp)).trans (heap_alloc_new w _))
  refine ⟨?_⟩
  refine wpList_buildTo rfl 58 _ rfl (some 3) rfl (Tp.table (w.heap.size + 1) (w.heap.size + 1 + 1)) (by kernel_rfl) ?_
  unfold Tp.none23 at hW
  rw [hW]
  refine wpList_store_mid rfl 58 _ _ rfl w.heap.size 0 (Tp.table (w.heap.size + 1) (w.heap.size + 1 + 1)) rfl rfl hth Tp.tableInfo (Tp.table_one _ _) ?_
  clear hW
  have hr := World.rangeAt_setCells_same W w.heap.size 0 (Tp.table (w.heap.size + 1) (w.heap.size + 1 + 1)).toList hth
  have hbS := Tp.setCells (B := w.heap.size) (a := w) w.heap.size (Nat.le_refl _) (Tp.table (w.heap.size + 1) (w.heap.size + 1 + 1)).toList 0 W hbW
  have hsS := Tp.setCells_size w.heap.size (Tp.table (w.heap.size + 1) (w.heap.size + 1 + 1)).toList 0 W
  have d34 := (World.cell?_setCells_out w.heap.size (Tp.table (w.heap.size + 1) (w.heap.size + 1 + 1)).toList 0 W ⟨w.heap.size + 1, 0, none⟩ (fun e => by have e' : w.heap.size + 1 = w.heap.size := e; omega)).trans c34
  have d39 := (World.cell?_setCells_out w.heap.size (Tp.table (w.heap.size + 1) (w.heap.size + 1 + 1)).toList 0 W ⟨w.heap.size + 1 + 1, 0, none⟩ (fun e => by have e' : w.heap.size + 1 + 1 = w.heap.size := e; omega)).trans c39
  generalize W.setCells w.heap.size 0 (Tp.table (w.heap.size + 1) (w.heap.size + 1 + 1)).toList = V at *
  have hl := run_loadVar_mid (P := Tryz.prog) V w.heap.size 0 58 _ _ hr Tryz.underlying58 rfl Tp.tableInfo
  clear hr hth c34 c39
  go_wp2
  refine bodyPost_ret (v := .agg (Tp.table (w.heap.size + 1) (w.heap.size + 1 + 1))) ?_ rfl ⟨_, _, rfl, by omega, by omega, by omega, by omega, d34, d39, hbS⟩
  simp [results, Tryz.results22, asAddr, Act.put, hl]
theorem Tp.Table.cell {w : World} {g off : Nat} (h : Tp.Table w g off) : ∃ B C, B < w.heap.size ∧ C < w.heap.size ∧ w.cell? ⟨B, 0, none⟩ = some (.int .u8 34) ∧ w.cell? ⟨C, 0, none⟩ = some (.int .u8 39) ∧ ∀ k v, (Tp.table B C)[k]? = some v → w.cell? ⟨g, off + k, none⟩ = some v := h.all
theorem Tp.Table.on {w w' : World} {g off : Nat} (h : Tp.Table w g off) (hb : Below w.heap.size w w') : Tp.Table w' g off := by
  obtain ⟨B, C, hB, hC, h1, h2, hk⟩ := h.all
  exact ⟨Nat.lt_of_lt_of_le h.lt hb.size, B, C, Nat.lt_of_lt_of_le hB hb.size, Nat.lt_of_lt_of_le hC hb.size, Tp.keep hb h1, Tp.keep hb h2, fun k v hv => Tp.keep hb (hk k v hv)⟩
end Go.Proofs.YtjbkgokiikbaeaaGreatDoor

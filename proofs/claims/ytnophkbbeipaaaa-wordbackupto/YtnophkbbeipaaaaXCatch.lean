/-
  THE WALKS of what the landed reader's words defers; a row of words under way.
-/
import Derived.Test.YtnophkbbeipaaaaXOne
import Derived.Defers
import Derived.Recover
namespace Go.Proofs.Ytnophkbbeipaaaa
open Go.RowKit
theorem Xr.catch_idle (a b : Addr) (w : World) :
    CallsD Try.prog 21 #[.pointer (some a), .pointer (some b)] .returning w fun e u' w' => e = .returned (.tuple #[]) ∧ u' = .returning ∧ w' = w := by
  refine callsD_of_wpS Try.func21 rfl fun c₀ cs hu => ?_
  apply wpS_seq
  apply wpS_region
  simp [wpOpsS, go_sem, recoverD, hu, Try.ntmps21, Exit.thenS]
  apply wpS_seq
  apply wpS_seq
  apply wpS_region
  simp [wpOpsS, go_sem, Exit.thenS]
  refine wpS_cond (t := true) (by simp [Act.eval, Array.replicate]) ?_
  simp only [if_true]
  refine wpS_of_wp (wp_ret ?_)
  cases c₀
  simp_all [bodyPostS, results, Try.results21, Exit.thenS]
set_option maxRecDepth 100000 in
set_option maxHeartbeats 4000000 in
theorem Xr.catch_fault (a b : Nat) (older : List PanicEntry) (w : World) {v : Value} (hX : Bs.Box w a #[v] 22) (x y : Int) (hE : Bs.Box w b #[.int .i64 y] 23) (hab : a ≠ b) :
    CallsD Try.prog 21 #[.pointer (some ⟨a, 0, none⟩), .pointer (some ⟨b, 0, none⟩)] (.panicking ({ v := .iface 23 (.int .i64 x), recovered := false } :: older)) w fun e u' w' =>
      e = .returned (.tuple #[]) ∧ u' = .panicking ({ v := .iface 23 (.int .i64 x), recovered := true } :: older) ∧ w' = ((w.setCell ⟨a, 0, none⟩ (.slice none 0 0)).setCell ⟨b, 0, none⟩ (.int .i64 x)) := by
  have c0 : w.cell? ⟨a, 0, none⟩ = some v := hX.cell 0 rfl
  have f0 := hX.frozen 0
  have d0 : w.cell? ⟨b, 0, none⟩ = some (.int .i64 y) := hE.cell 0 rfl
  have g0 := hE.frozen 0
  have hba : ¬ b = a := fun q => hab q.symm
  have hta : ∀ u : World, (Instr.typeAssert (.iface 23 (.int .i64 x)) 20 23 true).run Try.prog u = .ok (.tuple #[.int .i64 x, .bool true]) u := fun _ => by kernel_rfl
  clear hX hE
  refine callsD_of_wpS Try.func21 rfl fun c₀ cs hu => ?_
  apply wpS_seq
  apply wpS_region
  simp [wpOpsS, go_sem, recoverD, hu, Try.ntmps21, Exit.thenS]
  apply wpS_seq
  apply wpS_seq
  apply wpS_region
  simp [wpOpsS, go_sem, Exit.thenS]
  refine wpS_cond (t := false) (by simp [Act.eval, Array.replicate]) ?_
  simp only [Bool.false_eq_true, if_false]
  refine wpS_of_wp (wp_skip ?_)
  simp only [Exit.thenS]
  refine wpS_of_wp ?_
  refine (show Code.wp Try.prog _ _ { tmps := #[.pointer (some ⟨a, 0, none⟩), .pointer (some ⟨b, 0, none⟩), .iface 23 (.int .i64 x), undef, undef, .iface 23 (.int .i64 x), .iface 23 (.int .i64 x), .bool false, undef, undef, undef, undef, undef, undef, undef, undef, undef], defers := [] } w from ?_)
  go_wp2
  exact ⟨rfl, _, rfl, .tuple #[], by simp [results, Try.results21], rfl, rfl, rfl⟩
theorem Xr.row_swap {base g g' : Nat} {ws : List Wo} {w : World} {v : Value} (h : Wo.Row base g ws w v) (hg : g' < base) : Wo.Row base g' ws w v := by
  obtain ⟨xs, ho, hx⟩ := h
  refine ⟨xs, ho, fun i x hi => ?_⟩
  obtain ⟨pv, h0, hl⟩ := hx i x hi
  exact ⟨pv, h0, hl.on fun k hk => ⟨⟨hk.1, hk.2.1, hk.2.2.1, by have := hk.1; omega, hk.2.2.2.2⟩, rfl⟩⟩
theorem Xr.row_own {base g b : Nat} {ws : List Wo} {w : World} {v : Value} (h : Wo.Row base g ws w v) (hb : b < base) : v.ownBlock ≠ some b := fun e => by
  obtain ⟨xs, ho, _⟩ := h
  have := (ho.lt b e).1
  omega
theorem Xr.row_kept {base g : Nat} {ws : List Wo} {w w' : World} {v : Value} (h : Wo.Row base g ws w v) (hg : g < base) (hk : Cu.Kept w w' g) : Wo.Row base g ws w' v := h.on (Xr.row_own h hg) hk
theorem Xr.row_set {base g b c : Nat} {ws : List Wo} {w : World} {v : Value} (h : Wo.Row base g ws w v) (hg : g < base) (hb : b < base) (u : Value) : Wo.Row base g ws (w.setCell ⟨b, c, none⟩ u) v :=
  Xr.row_swap ((Xr.row_swap h hb).on (Xr.row_own h hb) ((Cu.Kept.refl _ _).set _ _)) hg
/-- words under way: the reader, the two results' blocks, the row -/
structure Xr.Ws (w wr : World) (g : Nat) (s : ByteArray) (p : Nat) (v : Value) (ws : List Wo) : Prop where
  at_ : Xr.At w wr g s p
  cell : Bs.Box wr w.heap.size #[v] 22
  err : Bs.Box wr (w.heap.size + 1) #[.int .i64 0] 23
  row : Wo.Row (w.heap.size + 2) g ws wr v
  lt : g < w.heap.size
theorem Xr.Ws.then {w wr w' : World} {g : Nat} {s : ByteArray} {p q : Nat} {v : Value} {ws : List Wo} (h : Xr.Ws w wr g s p v ws) (h2 : Xr.At wr w' g s q) : Xr.Ws w w' g s q v ws :=
  ⟨h.at_.comp h2, Xr.box_kept h.cell h2.kept (by have := h.lt; omega), Xr.box_kept h.err h2.kept (by have := h.lt; omega), Xr.row_kept h.row (by have := h.lt; omega) h2.kept, h.lt⟩
theorem Xr.Ws.drewN {w wr : World} {g : Nat} {s : ByteArray} {p : Nat} {v : Value} {ws : List Wo} (h : Xr.Ws w wr g s p v ws) (n : Nat) : Xr.Ws w (wr.drewN n) g s p v ws := h.then (h.at_.start.drewN n)
theorem Xr.Ws.hi {w wr : World} {g : Nat} {s : ByteArray} {p : Nat} {v : Value} {ws : List Wo} (h : Xr.Ws w wr g s p v ws) : w.heap.size + 2 ≤ wr.heap.size := h.err.lt
/-- what words gives -/
def Xr.Res (G : Except Int (List Wo)) (w : World) (g : Nat) (e : Ending) (w' : World) : Prop :=
  (match G with
  | .error x => e = .returned (.tuple #[.slice none 0 0, .int .i64 x])
  | .ok ws => ∃ v, e = .returned (.tuple #[v, .int .i64 0]) ∧ Wo.Lies w' (fun k => w.heap.size ≤ k ∧ k < w'.heap.size ∧ Rm.Ub w' k) ws v) ∧ Cu.Kept w w' g
/-- the end of a reading that threw -/
theorem Xr.fault_end {w w1 w9 : World} {g : Nat} {v : Value} {y x : Int} {tmps : Array Value} (hX : Bs.Box w1 w.heap.size #[v] 22) (hE : Bs.Box w1 (w.heap.size + 1) #[.int .i64 y] 23) (hK : Cu.Kept w w1 g)
    (h9 : w9 = ((w1.setCell ⟨w.heap.size, 0, none⟩ (.slice none 0 0)).setCell ⟨w.heap.size + 1, 0, none⟩ (.int .i64 x))) (h2 : tmps[2]? = some (.pointer (some ⟨w.heap.size, 0, none⟩))) (h3 : tmps[3]? = some (.pointer (some ⟨w.heap.size + 1, 0, none⟩))) :
    Leaves Try.prog Try.f15 tmps (Xr.Res (.error x) w g) [] .returning w9 := by
  have hX9 : Bs.Box w9 w.heap.size #[.slice none 0 0] 22 := by rw [h9]; exact (Below.heap_setCell _ _ _ _ (by show w.heap.size ≠ w.heap.size + 1; omega)).trans (hX.set 0 _)
  have hE9 : Bs.Box w9 (w.heap.size + 1) #[.int .i64 x] 23 := by rw [h9]; exact Bs.Box.set ((Below.heap_setCell _ _ _ _ (by show w.heap.size + 1 ≠ w.heap.size; omega)).trans hE) 0 _
  have hK9 : Cu.Kept w w9 g := by
    rw [h9]
    refine ⟨hK.os, hK.tape, hK.output, by simp; exact hK.size, fun k hk hne => ?_⟩
    rw [Below.heap_setCell _ _ _ _ (by show k ≠ w.heap.size + 1; omega), Below.heap_setCell _ _ _ _ (by show k ≠ w.heap.size; omega)]
    exact hK.block k hk hne
  have x0 : w9.cell? ⟨w.heap.size, 0, none⟩ = some (.slice none 0 0) := hX9.cell 0 rfl
  have ce : w9.cell? ⟨w.heap.size + 1, 0, none⟩ = some (.int .i64 x) := hE9.cell 0 rfl
  refine ⟨.tuple #[.slice none 0 0, .int .i64 x], ?_, rfl, hK9⟩
  simp [results, Try.results15, go_sem, x0, ce, h2, h3]
/-- the end of a reading that went well -/
theorem Xr.good_end {w w1 w9 : World} {g p : Nat} {s : ByteArray} {v : Value} {ws : List Wo} {tmps : Array Value} (hW : Xr.Ws w w1 g s p v ws)
    (h9 : w9 = ((w1.setCell ⟨w.heap.size, 0, none⟩ v).setCell ⟨w.heap.size + 1, 0, none⟩ (.int .i64 0))) (h2 : tmps[2]? = some (.pointer (some ⟨w.heap.size, 0, none⟩))) (h3 : tmps[3]? = some (.pointer (some ⟨w.heap.size + 1, 0, none⟩))) :
    Leaves Try.prog Try.f15 tmps (Xr.Res (.ok ws) w g) [] .returning w9 := by
  have hg := hW.lt
  have hX9 : Bs.Box w9 w.heap.size #[v] 22 := by rw [h9]; exact (Below.heap_setCell _ _ _ _ (by show w.heap.size ≠ w.heap.size + 1; omega)).trans (hW.cell.set 0 _)
  have hE9 : Bs.Box w9 (w.heap.size + 1) #[.int .i64 0] 23 := by rw [h9]; exact Bs.Box.set ((Below.heap_setCell _ _ _ _ (by show w.heap.size + 1 ≠ w.heap.size; omega)).trans hW.err) 0 _
  have hR9 : Wo.Row (w.heap.size + 2) g ws w9 v := by rw [h9]; exact Xr.row_set (Xr.row_set hW.row (by omega) (by omega) _) (by omega) (by omega) _
  have hK9 : Cu.Kept w w9 g := by
    rw [h9]
    refine ⟨hW.at_.kept.os, hW.at_.kept.tape, hW.at_.kept.output, by simp; exact hW.at_.kept.size, fun k hk hne => ?_⟩
    rw [Below.heap_setCell _ _ _ _ (by show k ≠ w.heap.size + 1; omega), Below.heap_setCell _ _ _ _ (by show k ≠ w.heap.size; omega)]
    exact hW.at_.kept.block k hk hne
  have x0 : w9.cell? ⟨w.heap.size, 0, none⟩ = some v := hX9.cell 0 rfl
  have ce : w9.cell? ⟨w.heap.size + 1, 0, none⟩ = some (.int .i64 0) := hE9.cell 0 rfl
  obtain ⟨a, d, hv⟩ := hR9.form
  subst hv
  refine ⟨.tuple #[.slice a ws.length d, .int .i64 0], ?_, ⟨_, rfl, hR9.lies.on fun k hk => ⟨⟨by have := hk.1; omega, hk.2⟩, rfl⟩⟩, hK9⟩
  simp [results, Try.results15, go_sem, x0, ce, h2, h3]
end Go.Proofs.Ytnophkbbeipaaaa

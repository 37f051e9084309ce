/-
  THE WALK of stoleref18.CtxMay at the context ahead of a page.
-/
import Derived.Test.YtjbkgokiikbaeaaGreatDoorTStep3
import Derived.Deep.QuietTactic
import Derived.BigQuiet
namespace Go.Proofs.YtjbkgokiikbaeaaGreatDoor
open Go.RowKit
theorem Cx.drew {B : Nat} {a w : World} (h : Below B a w) : Below B a w.drew := ⟨h.os, h.tape, h.output, h.size, h.block⟩
/-- THE WORLDS IN WHICH ALL THAT LAY IN L LIES STILL: a class for a region that draws its order and whose calls make memory. -/
def Cx.Wd (L : World) : Type := { u : World // Below L.heap.size L u }
theorem Cx.wd_ne (L : World) : Nonempty (Cx.Wd L) := ⟨⟨L, Below.refl _ _⟩⟩
theorem Cx.region {L : World} {id : Nat} {Q : Exit → Act → World → Prop} {a : Act} {l : List Oper} (hB : Region.lexB .any l.toArray = true)
    (h : wpQuiet Tryz.prog l.toArray (fun u => ∃ q : Cx.Wd L, u = q.1) (fun a' => ∀ w', (∃ q : Cx.Wd L, w' = q.1) → Q .normal a' w') l a) : (Code.region id l.toArray true).wp Tryz.prog Q a L :=
  wp_region_quiet (C := fun u => ∃ q : Cx.Wd L, u = q.1) (by kernel_rfl) hB ⟨⟨_, Cx.drew (Below.refl _ _)⟩, rfl⟩ (by simpa using h)
theorem Cx.call {L : World} {f : FuncId} {args : Array Value} {v : Value} (q : Cx.Wd L) (h : Calls Tryz.prog f args q.1 fun e w' => e = .returned v ∧ Below q.1.heap.size q.1 w') :
    Calls Tryz.prog f args q.1 fun e w'' => e = .returned v ∧ ∃ m : Cx.Wd L, w'' = m.1 :=
  h.mono fun _ w'' ⟨he, hb⟩ => ⟨he, ⟨w'', q.2.trans (hb.mono q.2.size)⟩, rfl⟩
theorem Cx.heldAt (w : World) : Calls Tryz.prog 40 #[.int .i64 0] w fun e w' => e = .returned (.bool false) ∧ w' = w := by
  go_enter Tryz.func40, Tryz.ntmps40
  go_wp2
  go_ret
  exact ⟨rfl, rfl⟩
theorem Cx.value (w : World) : Calls Tryz.prog 86 #[.agg #[.int .i64 0, .string ⟨#[]⟩, .bool false, .string ⟨#[]⟩, .string ⟨#[]⟩, .int .i64 0]] w fun e w' => e = .returned (.bool false) ∧ w' = w.alloc (.cells #[.int .i64 0, .string ⟨#[]⟩, .bool false, .string ⟨#[]⟩, .string ⟨#[]⟩, .int .i64 0] 23) := by
  go_enter Tryz.func86, Tryz.ntmps86
  go_wp2
  go_ret
  exact ⟨rfl, rfl⟩
theorem Cx.script (w : World) : Calls Tryz.prog 41 #[.agg #[.int .i64 0, .string ⟨#[]⟩, .bool false, .string ⟨#[]⟩, .string ⟨#[]⟩, .int .i64 0]] w fun e w' => e = .returned (.bool false) ∧ w' = w.alloc (.cells #[.int .i64 0, .string ⟨#[]⟩, .bool false, .string ⟨#[]⟩, .string ⟨#[]⟩, .int .i64 0] 23) := by
  have hh := fun u => Cx.heldAt u
  go_enter Tryz.func41, Tryz.ntmps41
  go_wp2_with (go_at_call 40; refine (hh _).mono ?_; rintro e w' ⟨rfl, rfl⟩)
  go_ret
  exact ⟨rfl, rfl⟩
theorem Cx.inTag (w : World) : Calls Tryz.prog 20 #[.int .i64 0] w fun e w' => e = .returned (.bool false) ∧ w' = w := by
  go_enter Tryz.func20, Tryz.ntmps20
  go_wp2
  go_ret
  exact ⟨rfl, rfl⟩
set_option maxHeartbeats 2000000 in
theorem Cx.clean (w : World) : Calls Tryz.prog 6 #[.agg #[.int .i64 0, .string ⟨#[]⟩, .bool false, .string ⟨#[]⟩, .string ⟨#[]⟩, .int .i64 0]] w fun e w' => e = .returned (.agg #[.int .i64 0, .string ⟨#[]⟩, .bool false, .string ⟨#[]⟩, .string ⟨#[]⟩, .int .i64 0]) ∧ Below w.heap.size w w' := by
  have hh := fun u => Cx.inTag u
  go_enter Tryz.func6, Tryz.ntmps6
  go_wp2_with (go_at_call 20; refine (hh _).mono ?_; rintro e w' ⟨rfl, rfl⟩)
  refine bodyPost_ret (v := .agg #[.int .i64 0, .string ⟨#[]⟩, .bool false, .string ⟨#[]⟩, .string ⟨#[]⟩, .int .i64 0]) (by simp [results, Tryz.results6, go_sem]) rfl ?_
  exact ⟨rfl, ((Below.refl _ _).alloc (Nat.le_refl _) _).alloc (by simp) _⟩
set_option maxHeartbeats 4000000 in
theorem Cx.entered (w : World) : Calls Tryz.prog 43 #[.agg #[.int .i64 0, .string ⟨#[]⟩, .bool false, .string ⟨#[]⟩, .string ⟨#[]⟩, .int .i64 0, .bool false, .int .i64 0, .int .i64 0, .int .i64 0]] w fun e w' => e = .returned (.agg #[.int .i64 0, .string ⟨#[]⟩, .bool false, .string ⟨#[]⟩, .string ⟨#[]⟩, .int .i64 0, .bool false, .int .i64 0, .int .i64 0, .int .i64 0]) ∧ Below w.heap.size w w' := by
  have h1 := fun u => Cx.value u
  have h2 := fun u => Cx.script u
  go_enter Tryz.func43, Tryz.ntmps43
  go_wp2_with (first | (go_at_call 86; refine (h1 _).mono ?_; rintro e w1 ⟨rfl, rfl⟩) | (go_at_call 41; refine (h2 _).mono ?_; rintro e w1 ⟨rfl, rfl⟩))
  refine bodyPost_ret (v := .agg #[.int .i64 0, .string ⟨#[]⟩, .bool false, .string ⟨#[]⟩, .string ⟨#[]⟩, .int .i64 0, .bool false, .int .i64 0, .int .i64 0, .int .i64 0]) (by simp [results, Tryz.results43, go_sem]) rfl ?_
  exact ⟨rfl, (((((Below.refl _ _).alloc (Nat.le_refl _) _).alloc (by simp) _).alloc (by simp; try omega) _).alloc (by simp; try omega) _).alloc (by simp; try omega) _⟩
theorem Cx.field (u : World) : (Instr.field 51 (.agg #[.int .i64 0, .string ⟨#[]⟩, .bool false, .string ⟨#[]⟩, .string ⟨#[]⟩, .int .i64 0, .bool false, .int .i64 0, .int .i64 0, .int .i64 0]) 2).run Tryz.prog u = .ok (.int .i64 0) u := by kernel_rfl
set_option maxRecDepth 100000 in
set_option maxHeartbeats 8000000 in
theorem Cx.may (w : World) : Calls Tryz.prog 17 #[.agg #[.int .i64 0, .string ⟨#[]⟩, .bool false, .string ⟨#[]⟩, .string ⟨#[]⟩, .int .i64 0, .bool false, .int .i64 0, .int .i64 0, .int .i64 0]] w fun e w' => e = .returned (.bool true) ∧ Below w.heap.size w w' := by
  have h1 := fun u => Cx.heldAt u
  have h2 := fun u => Cx.clean u
  have h3 := fun u => Cx.entered u
  have hf := fun u => Cx.field u
  go_enter Tryz.func17, Tryz.ntmps17
  go_wp2_with fail
  obtain ⟨W, hW⟩ : ∃ W, (w.alloc (.cells #[.int .i64 0, .string ⟨#[]⟩, .bool false, .string ⟨#[]⟩, .string ⟨#[]⟩, .int .i64 0, .bool false, .int .i64 0, .int .i64 0, .int .i64 0] 51)).alloc (.cells #[.int .i64 0, .string ⟨#[]⟩, .bool false, .string ⟨#[]⟩, .string ⟨#[]⟩, .int .i64 0] 23) = W := ⟨_, rfl⟩
  have HB : Hid (Below w.heap.size w W) := Lib.hid (by rw [← hW]; exact ((Below.refl _ _).alloc (Nat.le_refl _) _).alloc (by simp) _)
  have c0 : W.cell? ⟨w.heap.size, 0, none⟩ = some (.int .i64 0) := by rw [← hW]; simp
  have c1 : W.cell? ⟨w.heap.size, 1, none⟩ = some (.string ⟨#[]⟩) := by rw [← hW]; simp
  have c2 : W.cell? ⟨w.heap.size, 2, none⟩ = some (.bool false) := by rw [← hW]; simp
  have c3 : W.cell? ⟨w.heap.size, 3, none⟩ = some (.string ⟨#[]⟩) := by rw [← hW]; simp
  have c4 : W.cell? ⟨w.heap.size, 4, none⟩ = some (.string ⟨#[]⟩) := by rw [← hW]; simp
  have c5 : W.cell? ⟨w.heap.size, 5, none⟩ = some (.int .i64 0) := by rw [← hW]; simp
  have c6 : W.cell? ⟨w.heap.size, 6, none⟩ = some (.bool false) := by rw [← hW]; simp
  have c7 : W.cell? ⟨w.heap.size, 7, none⟩ = some (.int .i64 0) := by rw [← hW]; simp
  have c8 : W.cell? ⟨w.heap.size, 8, none⟩ = some (.int .i64 0) := by rw [← hW]; simp
  have c9 : W.cell? ⟨w.heap.size, 9, none⟩ = some (.int .i64 0) := by rw [← hW]; simp
  have d0 : W.cell? ⟨w.heap.size + 1, 0, none⟩ = some (.int .i64 0) := by rw [← hW]; simp
  have d1 : W.cell? ⟨w.heap.size + 1, 1, none⟩ = some (.string ⟨#[]⟩) := by rw [← hW]; simp
  have d2 : W.cell? ⟨w.heap.size + 1, 2, none⟩ = some (.bool false) := by rw [← hW]; simp
  have d3 : W.cell? ⟨w.heap.size + 1, 3, none⟩ = some (.string ⟨#[]⟩) := by rw [← hW]; simp
  have d4 : W.cell? ⟨w.heap.size + 1, 4, none⟩ = some (.string ⟨#[]⟩) := by rw [← hW]; simp
  have d5 : W.cell? ⟨w.heap.size + 1, 5, none⟩ = some (.int .i64 0) := by rw [← hW]; simp
  rw [hW]
  clear hW
  generalize hh : w.heap.size + 1 = h at *
  generalize hg : w.heap.size = g at *
  clear hh
  go_quiet ((go_at_call 40; exact Calls.quiet_of_same (h1 _)))
  clear h1
  replace c0 : (W.drewN nq).cell? ⟨g, 0, none⟩ = some (.int .i64 0) := c0
  replace c1 : (W.drewN nq).cell? ⟨g, 1, none⟩ = some (.string ⟨#[]⟩) := c1
  replace c2 : (W.drewN nq).cell? ⟨g, 2, none⟩ = some (.bool false) := c2
  replace c3 : (W.drewN nq).cell? ⟨g, 3, none⟩ = some (.string ⟨#[]⟩) := c3
  replace c4 : (W.drewN nq).cell? ⟨g, 4, none⟩ = some (.string ⟨#[]⟩) := c4
  replace c5 : (W.drewN nq).cell? ⟨g, 5, none⟩ = some (.int .i64 0) := c5
  replace c6 : (W.drewN nq).cell? ⟨g, 6, none⟩ = some (.bool false) := c6
  replace c7 : (W.drewN nq).cell? ⟨g, 7, none⟩ = some (.int .i64 0) := c7
  replace c8 : (W.drewN nq).cell? ⟨g, 8, none⟩ = some (.int .i64 0) := c8
  replace c9 : (W.drewN nq).cell? ⟨g, 9, none⟩ = some (.int .i64 0) := c9
  replace d0 : (W.drewN nq).cell? ⟨h, 0, none⟩ = some (.int .i64 0) := d0
  replace d1 : (W.drewN nq).cell? ⟨h, 1, none⟩ = some (.string ⟨#[]⟩) := d1
  replace d2 : (W.drewN nq).cell? ⟨h, 2, none⟩ = some (.bool false) := d2
  replace d3 : (W.drewN nq).cell? ⟨h, 3, none⟩ = some (.string ⟨#[]⟩) := d3
  replace d4 : (W.drewN nq).cell? ⟨h, 4, none⟩ = some (.string ⟨#[]⟩) := d4
  replace d5 : (W.drewN nq).cell? ⟨h, 5, none⟩ = some (.int .i64 0) := d5
  have HB2 : Hid (Below g w (W.drewN nq)) := Lib.hid ⟨HB.out.os, HB.out.tape, HB.out.output, HB.out.size, HB.out.block⟩
  clear HB
  generalize W.drewN nq = V at *
  go_wp2_with fail
  have q0 := fun q : Cx.Wd V => Tp.keep q.2 c0
  have q1 := fun q : Cx.Wd V => Tp.keep q.2 c1
  have q2 := fun q : Cx.Wd V => Tp.keep q.2 c2
  have q3 := fun q : Cx.Wd V => Tp.keep q.2 c3
  have q4 := fun q : Cx.Wd V => Tp.keep q.2 c4
  have q5 := fun q : Cx.Wd V => Tp.keep q.2 c5
  have q6 := fun q : Cx.Wd V => Tp.keep q.2 c6
  have q7 := fun q : Cx.Wd V => Tp.keep q.2 c7
  have q8 := fun q : Cx.Wd V => Tp.keep q.2 c8
  have q9 := fun q : Cx.Wd V => Tp.keep q.2 c9
  have r0 := fun q : Cx.Wd V => Tp.keep q.2 d0
  have r1 := fun q : Cx.Wd V => Tp.keep q.2 d1
  have r2 := fun q : Cx.Wd V => Tp.keep q.2 d2
  have r3 := fun q : Cx.Wd V => Tp.keep q.2 d3
  have r4 := fun q : Cx.Wd V => Tp.keep q.2 d4
  have r5 := fun q : Cx.Wd V => Tp.keep q.2 d5
  have ne := Cx.wd_ne V
  have k2 := fun q : Cx.Wd V => Cx.call q (h2 q.1)
  have k3 := fun q : Cx.Wd V => Cx.call q (h3 q.1)
  clear h2 h3
  refine Cx.region (L := V) (by kernel_rfl) ?_
  repeat (go_big_quiet_step (first | (go_at_call 6; exact k2 _) | (go_at_call 43; exact k3 _)))
  refine wpQuiet_nil ?_
  rintro _ ⟨q, rfl⟩
  go_wp2
  go_ret
  exact ⟨rfl, by rw [hg]; exact HB2.out.trans (q.2.mono (by rw [← hg]; exact HB2.out.size))⟩
end Go.Proofs.YtjbkgokiikbaeaaGreatDoor

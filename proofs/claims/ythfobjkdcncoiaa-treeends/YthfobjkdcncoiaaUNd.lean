/-
  THE WALK of the reference's node.
-/
import Derived.Test.YthfobjkdcncoiaaUMk
import Derived.Deep.RegionHeld
namespace Go.Proofs.Ythfobjkdcncoiaa
open Go.RowKit
theorem Um.five_cells (W : World) (x : Nd) (av : Value) (g1 : Nat) (h : g1 = W.heap.size) : ∀ j u, (Nd.five x av)[j]? = some u → (W.alloc (.cells #[.int .i64 x.kind, .string x.name, .string x.text, av, .int .i64 x.parent] 38)).cell? ⟨g1, j, none⟩ = some u := by
  subst h
  intro j u hj
  unfold World.cell?
  rw [show (W.alloc (.cells #[.int .i64 x.kind, .string x.name, .string x.text, av, .int .i64 x.parent] 38)).heap[W.heap.size]? = some _ from heap_alloc_new W _]
  simpa [Nd.five] using hj
theorem Um.five_one (x : Nd) (a : Option Addr) (n d : Nat) : ∀ u ∈ Nd.five x (.slice a n d), u.oneCell' = true := by
  intro u hu
  simp only [Nd.five, List.mem_cons, List.not_mem_nil, or_false] at hu
  rcases hu with rfl | rfl | rfl | rfl | rfl <;> rfl
theorem Um.topCell {base : Nat} {w : World} {g : Nat} {m : Bt} {ov pv : Value} (h : Um.At base w g m ov pv) (hn : 0 < m.opn.length) : ∃ p d, pv = .slice (some ⟨p, 0, none⟩) m.opn.length d ∧ m.opn.length ≤ d ∧ w.cell? ⟨p, m.opn.length - 1, none⟩ = some (.int .i64 (m.top : Int)) := by
  obtain ⟨p, d, e, h1, h2⟩ := Um.form1 h.opn hn
  refine ⟨p, d, e, h1, ?_⟩
  have ho := h.opn
  rw [e] at ho
  rw [ho.cellAt (m.opn.length - 1) (by omega)]
  refine Um.ints_get ?_
  unfold Bt.top
  rw [List.getLastD_eq_getLast?, List.getLast?_eq_getElem?]
  rw [List.getElem?_eq_getElem (by omega)]
  rfl
/-- another parent in a node's box -/
theorem Um.five_set {W : World} {k : Nat} {x : Nd} {av : Value} (h : ∀ j u, (Nd.five x av)[j]? = some u → W.cell? ⟨k, j, none⟩ = some u) (p : Int) : ∀ j u, (Nd.five { x with parent := p } av)[j]? = some u → (W.setCell ⟨k, 4, none⟩ (.int .i64 p)).drew.cell? ⟨k, j, none⟩ = some u := by
  intro j u hj
  show (W.setCell ⟨k, 4, none⟩ (.int .i64 p)).cell? ⟨k, j, none⟩ = some u
  have h5 := Nd.five_lt hj
  by_cases e : j = 4
  · subst e
    have hu : u = .int .i64 p := by simpa [Nd.five] using hj.symm
    rw [hu]
    exact World.cell?_setCell_same _ _ _ (h 4 _ rfl)
  · rw [World.cell?_setCell_other _ _ _ _ (fun q => by injection q with q1 q2; exact e q2.symm)]
    refine h j u ?_
    have : j = 0 ∨ j = 1 ∨ j = 2 ∨ j = 3 := by omega
    rcases this with rfl | rfl | rfl | rfl <;> exact hj
set_option maxRecDepth 100000 in
set_option maxHeartbeats 4000000 in
theorem Um.node (base : Nat) (m : Bt) (x : Nd) (aa : Option Addr) (an ad : Nat) (w : World) (g : Nat) (ov pv : Value) (h : Um.At base w g m ov pv) (hok : Bt.Ok m) (hs : m.out.length ≤ 1000000)
    (hat : Ak.Lies w (fun k => base ≤ k ∧ k < w.heap.size ∧ ov.ownBlock ≠ some k ∧ ¬ (k = g ∨ pv.ownBlock = some k) ∧ Rm.Ub w k) x.attrs (.slice aa an ad)) :
    Calls Try.prog 31 #[.pointer (some ⟨g, 0, none⟩), .agg #[.int .i64 x.kind, .string x.name, .string x.text, .slice aa an ad, .int .i64 x.parent]] w fun e w' => e = .returned (.tuple #[]) ∧ ∃ ov', Um.At base w' g (m.node x) ov' pv ∧ Um.Kept w w' g ov pv ov' pv := by
  have hlt := h.lt
  obtain ⟨p, pd, rfl, hpd, ctop⟩ := Um.topCell h hok.opn
  obtain ⟨xs, hx⟩ := id h.out
  obtain ⟨oa, od, rfl⟩ := Um.form hx.1
  have c0 := h.c0
  have c1 := h.c1
  have cf := h.fz
  have hp := World.block_lt_of_cell? _ _ ctop
  have hl0 := hok.opn
  have hfew := hok.few
  have n1 : w.heap.size ≠ g := by omega
  have n2 : g ≠ w.heap.size := by omega
  have n3 : p ≠ w.heap.size := by have hp' : p < w.heap.size := hp; omega
  have HH := Lib.hid h
  have HX := Lib.hid hx
  have HAT := Lib.hid hat
  have HN : Hid (m.out.length + 1 ≤ maxLen ∧ (m.out.length + 1) * 72 ≤ 140737488355328) := ⟨by unfold maxLen; omega, by omega⟩
  have hw1 : IntKind.i64.wrap ((m.opn.length : Int) - 1) = ((m.opn.length - 1 : Nat) : Int) := by rw [IntKind.wrap_i64]; omega
  have hidx : m.opn.length - 1 < pd := by omega
  have hi63 : m.opn.length - 1 < m.opn.length := by omega
  clear h hx hat hok
  go_enter Try.func31, Try.ntmps31
  go_upto_region 1 with fail
  obtain ⟨W, hW⟩ : ∃ W, w.alloc (.cells #[.int .i64 x.kind, .string x.name, .string x.text, .slice aa an ad, .int .i64 x.parent] 38) = W := ⟨_, rfl⟩
  have hbW : Below w.heap.size w W := by rw [← hW]; exact (Below.refl _ _).alloc (Nat.le_refl _) _
  have q1 := Tp.keep hbW c1
  have qt := Tp.keep hbW ctop
  have qf : ∀ i, W.frozen? ⟨w.heap.size, i, none⟩ = false := fun i => by rw [← hW]; simp
  have HQ : Hid (∀ j u, (Nd.five x (.slice aa an ad))[j]? = some u → W.cell? ⟨w.heap.size, j, none⟩ = some u) := by unfold Hid; rw [← hW]; exact Um.five_cells w x _ _ rfl
  have q4 := HQ.out 4 _ rfl
  rw [hW]
  have HBW := Lib.hid hbW
  clear hW hbW c0 c1 cf ctop
  go_cut [] from 4 to 16 (fun wx => Hid (Below w.heap.size w wx ∧ ∀ j u, (Nd.five { x with parent := (m.top : Int) } (.slice aa an ad))[j]? = some u → wx.cell? ⟨w.heap.size, j, none⟩ = some u))
  case first =>
    go_region_with (fail)
    all_goals (try go_wp2_with fail)
    all_goals go_meet
    all_goals exact Lib.hid ⟨(HBW.out.setCell (Nat.le_refl _) _).drew, Um.five_set HQ.out _⟩
  case rest =>
    obtain ⟨hbc, hfc⟩ := hcut.out
    have hA := HH.out.on hbc
    have e0 := hA.c0
    have ef := hA.fz
    have f0 := hfc 0 _ rfl
    have f1 := hfc 1 _ rfl
    have f2 := hfc 2 _ rfl
    have f3 := hfc 3 _ rfl
    have f4 := hfc 4 _ rfl
    have hsz := hbc.size
    have HBC := Lib.hid hbc
    have HO : Hid (wc.ownsRow base 38 5 (.slice oa m.out.length od) m.out.length xs) := Rm.own_on HX.out.1 fun k hk => hbc.block k (HX.out.1.lt k hk).2
    have hgs : w.heap.size < wc.heap.size := World.block_lt_of_cell? _ _ f0
    have n4 : wc.heap.size ≠ g := by omega
    have n5 : wc.heap.size ≠ w.heap.size := by omega
    have hbase := HH.out.ge
    have hgc : g < wc.heap.size := by omega
    have e0' : ∀ o, (wc.alloc o).cell? ⟨g, 0, none⟩ = _ := fun o => (World.cell?_alloc_lt _ _ _ hgc).trans e0
    clear hcut hbc hfc hA q1 qt qf q4 HQ HBW
    go_upto_region 2 with fail
    go_region_law (first | (refine Ro.step_push rfl (.tmp 21) (.tmp 23) 24 38 5 72 _ rfl Try.underlying24 Um.infoN rfl (by decide) (.slice oa m.out.length od) (by simp [Act.eval]) (HO.out.alloc _) wc.heap.size (Nd.five { x with parent := (m.top : Int) } (.slice aa an ad)) (by simp [Act.eval]) (Um.five_cells _ { x with parent := (m.top : Int) } _ _ (by first | rfl | omega | (simp; omega))) rfl (Um.five_one _ _ _ _) HN.out.1 HN.out.2 (by first | omega | (simp; omega)) ?_; intro v4 w4 R4 hg4 hf4; obtain ⟨a4, d4, rfl⟩ := Um.form R4; have B4 : w4.heap[g]? = wc.heap[g]? := ((hg4.block g (by first | omega | (simp; omega)) (fun e => HH.out.og e.symm)).trans (Below.heap_alloc _ _ _ (by first | omega | (simp; omega)))); have d0 := (World.cell?_of_block (a := ⟨g, 0, none⟩) B4).trans e0; have df : ∀ i, w4.frozen? ⟨g, i, none⟩ = false := (fun i => by have := ef i; unfold World.frozen? at this ⊢; rw [B4]; exact this); clear B4; have HR4 := Lib.hid R4; have HG4 := Lib.hid hg4; have HF4 := Lib.hid hf4; clear R4 hg4 hf4))
    all_goals go_wp2
    all_goals go_end0
    all_goals
      have hq : Below w.heap.size w (wc.drew.alloc (.cells #[.int .i64 x.kind, .string x.name, .string x.text, .slice aa an ad, .int .i64 (m.top : Int)] 38)) := HBC.out.drew.alloc (by show w.heap.size ≤ wc.heap.size; omega) _
      obtain ⟨z1, z2⟩ := Um.At.push (x := { x with parent := (m.top : Int) }) HH.out hq xs HX.out HAT.out HR4.out HG4.out HF4.out
      exact ⟨rfl, _, z1, z2⟩
end Go.Proofs.Ythfobjkdcncoiaa

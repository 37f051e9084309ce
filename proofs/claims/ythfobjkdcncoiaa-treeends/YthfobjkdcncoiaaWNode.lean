/-
  THE WALK of the builder's addNode.
-/
import Derived.Test.YthfobjkdcncoiaaWInner
namespace Go.Proofs.Ythfobjkdcncoiaa
open Go.RowKit
set_option maxRecDepth 100000 in
set_option maxHeartbeats 4000000 in
theorem Pg.addNode (base : Nat) (m : Bt) (bs : ByteArray) (x : Nd) (aa : Option Addr) (an ad : Nat) (w : World) (g : Nat) (ov pv tv : Value) (h : Pm.At base w g m bs ov pv tv) (hok : Bt.Ok m) (hs : m.out.length ≤ 1000000) (hz : bs.size ≤ 140737488355328)
    (hat : Ak.Lies w (Pm.Off base w (Pm.Mine g ov pv tv)) x.attrs (.slice aa an ad)) :
    Calls Try.prog 28 #[.pointer (some ⟨g, 0, none⟩), .agg #[.int .i64 x.kind, .string x.name, .string x.text, .slice aa an ad, .int .i64 x.parent]] w fun e w' => e = .returned (.tuple #[]) ∧ ∃ ov' tv', Pm.At base w' g ((Pb.flush m bs).node x) Ts.e ov' pv tv' ∧ Pm.Kept w w' (Pm.Mine g ov pv tv) (Pm.Mine g ov' pv tv') := by
  have hlt := h.lt
  have HN0 : Hid (¬ Pm.Mine g ov pv tv w.heap.size) := fun q => Nat.lt_irrefl _ (h.mine q).2
  have et := fun u hu => Pg.endText base m bs w u g ov pv tv hu h hok hs hz
  have hokF := Pb.Ok.flush hok bs
  have htop : (Pb.flush m bs).top = m.top := Pb.flush_top m bs
  have hlen : (Pb.flush m bs).out.length = m.out.length := Pb.flush_len m bs
  have HAT := Lib.hid hat
  have HM : Hid ((Pb.flush m bs).out.length ≤ 1000000) := by unfold Hid; rw [hlen]; exact hs
  clear h hat hok hz hs hlen
  generalize Pb.flush m bs = mf at *
  go_enter Try.func28, Try.ntmps28
  go_upto_region 1 with fail
  obtain ⟨W, hW⟩ : ∃ W, w.alloc (.cells #[.int .i64 x.kind, .string x.name, .string x.text, .slice aa an ad, .int .i64 x.parent] 38) = W := ⟨_, rfl⟩
  have hbW : Below w.heap.size w W := by rw [← hW]; exact (Below.refl _ _).alloc (Nat.le_refl _) _
  have HQ : Hid (∀ j u, (Nd.five x (.slice aa an ad))[j]? = some u → W.cell? ⟨w.heap.size, j, none⟩ = some u) := by unfold Hid; rw [← hW]; exact Um.five_cells w x _ _ rfl
  have HQF : Hid (∀ i, W.frozen? ⟨w.heap.size, i, none⟩ = false) := fun i => by rw [← hW]; simp
  have hWs : w.heap.size < W.heap.size := by rw [← hW]; simp
  rw [hW]
  have et := et W hbW
  clear hW hbW
  go_upto_region 2 with (go_at_call 21; refine et.mono ?_; rintro e w2 ⟨rfl, w1, tv', hA1, hK1, hs1, hB1, hK2⟩; clear et)
  have HL1 := Lib.hid (hK1.attrs HAT.out)
  have hB1' : Below w1.heap.size w1 w2 := by rw [hs1]; exact hB1
  have hA2 := hA1.on hB1'
  have inn := Pg.innermost base mf Ts.e w2 g ov pv tv' hA2 hokF
  rw [htop] at inn
  have hbb := (hK2.block w.heap.size hWs HN0.out).1
  have HQ2 : Hid (∀ j u, (Nd.five x (.slice aa an ad))[j]? = some u → w2.cell? ⟨w.heap.size, j, none⟩ = some u) := fun j u hj => hK2.cell HN0.out (HQ.out j u hj)
  have qf : ∀ i, w2.frozen? ⟨w.heap.size, i, none⟩ = false := Pm.frozenOn hbb HQF.out
  have q4 := HQ2.out 4 _ rfl
  have HA1 := Lib.hid hA1
  have HK1 := Lib.hid hK1
  have HB1 : Hid (∀ n, Below w1.heap.size w1 ((w2.drewN n).setCell ⟨w.heap.size, 4, none⟩ (.int .i64 (m.top : Int)))) := fun n => by
    have q : Below w1.heap.size w1 (w2.drewN n) := ⟨hB1'.os, hB1'.tape, hB1'.output, hB1'.size, hB1'.block⟩
    exact q.setCell (by rw [hs1]; exact Nat.le_refl _) _
  have HQ3 : Hid (∀ n j u, (Nd.five { x with parent := (m.top : Int) } (.slice aa an ad))[j]? = some u → ((w2.drewN n).setCell ⟨w.heap.size, 4, none⟩ (.int .i64 (m.top : Int))).cell? ⟨w.heap.size, j, none⟩ = some u) := fun n => Um.five_set (W := w2.drewN n) HQ2.out (m.top : Int)
  have HS1 := Lib.hid hs1
  clear hA1 hK1 hB1 hB1' hK2 hA2 HQ HQ2 HQF hbb hs1
  go_upto_region 3 with (go_at_call 35; refine inn.mono ?_; rintro e w3 ⟨rfl, n3, rfl⟩; clear inn)
  have hbc := HB1.out n3
  have hfc := HQ3.out n3
  generalize (w2.drewN n3).setCell ⟨w.heap.size, 4, none⟩ (.int .i64 (m.top : Int)) = wc at *
  have hA := HA1.out.on hbc
  obtain ⟨xs, hx⟩ := id HA1.out.out
  obtain ⟨oa, od, rfl⟩ := Um.form hx.1
  have e0 := hA.c0
  have ef := hA.fz
  have f0 := hfc 0 _ rfl
  have f1 := hfc 1 _ rfl
  have f2 := hfc 2 _ rfl
  have f3 := hfc 3 _ rfl
  have f4 := hfc 4 _ rfl
  have HX := Lib.hid hx
  have HBC := Lib.hid hbc
  have HO : Hid (wc.ownsRow base 38 5 (.slice oa mf.out.length od) mf.out.length xs) := Rm.own_on hx.1 fun k hk => hbc.block k (hx.1.lt k hk).2
  have hgs : w.heap.size < wc.heap.size := World.block_lt_of_cell? _ _ f0
  have n4 : wc.heap.size ≠ g := by omega
  have n5 : wc.heap.size ≠ w.heap.size := by omega
  have hbase := HA1.out.ge
  have hgc : g < wc.heap.size := by omega
  have hog := hA.og
  have HOG := Lib.hid hog
  have e0' : ∀ o, (wc.alloc o).cell? ⟨g, 0, none⟩ = _ := fun o => (World.cell?_alloc_lt _ _ _ hgc).trans e0
  have HN : Hid (mf.out.length + 1 ≤ maxLen ∧ (mf.out.length + 1) * 72 ≤ 140737488355328) := ⟨by unfold maxLen; have := HM.out; omega, by have := HM.out; omega⟩
  clear hx hbc hfc hA HB1 HQ3 q4 qf hog
  go_region_law (first | (refine Ro.step_push rfl (.tmp 13) (.tmp 15) 24 38 5 72 _ rfl Try.underlying24 Um.infoN rfl (by decide) (.slice oa mf.out.length od) (by simp [Act.eval]) (HO.out.alloc _) wc.heap.size (Nd.five { x with parent := (m.top : Int) } (.slice aa an ad)) (by simp [Act.eval]) (Um.five_cells _ { x with parent := (m.top : Int) } _ _ (by first | rfl | omega | (simp; omega))) rfl (Um.five_one _ _ _ _) HN.out.1 HN.out.2 (by first | omega | (simp; omega)) ?_; intro v4 w4 R4 hg4 hf4; obtain ⟨a4, d4, rfl⟩ := Um.form R4; have B4 : w4.heap[g]? = wc.heap[g]? := ((hg4.block g (by first | omega | (simp; omega)) (fun e => HOG.out e.symm)).trans (Below.heap_alloc _ _ _ (by first | omega | (simp; omega)))); have d0 := (World.cell?_of_block (a := ⟨g, 0, none⟩) B4).trans e0; have df : ∀ i, w4.frozen? ⟨g, i, none⟩ = false := (fun i => by have := ef i; unfold World.frozen? at this ⊢; rw [B4]; exact this); clear B4; have HR4 := Lib.hid R4; have HG4 := Lib.hid hg4; have HF4 := Lib.hid hf4; clear R4 hg4 hf4))
  all_goals go_wp2
  all_goals go_end0
  all_goals
    have hq : Below w1.heap.size w1 (wc.drew.alloc (.cells #[.int .i64 x.kind, .string x.name, .string x.text, .slice aa an ad, .int .i64 (m.top : Int)] 38)) := HBC.out.drew.alloc HBC.out.size _
    obtain ⟨z1, z2⟩ := Pm.At.push (x := { x with parent := (m.top : Int) }) HA1.out hq xs HX.out HL1.out HR4.out HG4.out HF4.out
    refine ⟨rfl, _, _, ?_, HK1.out.trans z2⟩
    unfold Bt.node
    rw [htop]
    exact z1
end Go.Proofs.Ythfobjkdcncoiaa

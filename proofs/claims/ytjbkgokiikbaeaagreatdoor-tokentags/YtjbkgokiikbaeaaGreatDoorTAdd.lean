/-
  THE WALK of the reader's addAttr.
-/
import Derived.Test.YtjbkgokiikbaeaaGreatDoorTAny
import Derived.Test.YtjbkgokiikbaeaaGreatDoorTTell
namespace Go.Proofs.YtjbkgokiikbaeaaGreatDoor
open Go.RowKit
theorem Rm.kept_pushA {W W1 w4 : World} {tv av v' : Value} {g : Nat} (hb : Below W.heap.size W W1) (hg : W1.grownBy w4 av.ownBlock) (hf : v'.ownBlock = av.ownBlock ∨ v'.ownBlock = some W1.heap.size) : Rm.Kept W w4 g tv av tv v' :=
  ⟨hg.os.trans hb.os, hg.tape.trans hb.tape, hg.output.trans hb.output, Nat.le_trans hb.size hg.size, fun k hk hfr =>
    ⟨(hg.block k (Nat.lt_of_lt_of_le hk hb.size) (fun e => hfr.2.2 e.symm)).trans (hb.block k hk), hfr.1, hfr.2.1, fun e => by
      rcases hf with e' | e'
      · rw [e'] at e; exact hfr.2.2 e
      · rw [e'] at e; have := Option.some.inj e; have := hb.size; omega⟩⟩
theorem Rm.two_cells (W : World) (n : ByteArray) (g1 : Nat) (h : g1 = W.heap.size) : ∀ j u, (Ak.cells [(n, Ts.e)])[j]? = some u → (W.alloc (.cells #[.string n, .string ⟨#[]⟩] 45)).cell? ⟨g1, j, none⟩ = some u := by
  subst h
  intro j u hj
  unfold World.cell?
  rw [show (W.alloc (.cells #[.string n, .string ⟨#[]⟩] 45)).heap[W.heap.size]? = some _ from heap_alloc_new W _]
  simpa [Ak.cells, Ts.e] using hj
set_option maxHeartbeats 4000000 in
theorem Rm.addAttr (r : Rd) (nm : ByteArray) (w : World) (g : Nat) (P : ByteArray) (tv av : Value) (h : Rm.At w g P r tv av) (hn : r.attrs.length ≤ 32) :
    Calls Tryz.prog 99 #[.pointer (some ⟨g, 0, none⟩), .string nm] w fun e w' => e = .returned (.tuple #[]) ∧ ∃ tv' av', Rm.At w' g P (r.addAttr nm) tv' av' ∧ Rm.Kept w w' g tv av tv' av' := by
  obtain ⟨aa, ad, rfl⟩ := Rm.form h.attrs
  have HH := Lib.hid h
  have c34 := h.box.attrs
  have c35 := h.box.taken
  have cf := h.box.fz
  have hlt := h.lt
  have n1 : w.heap.size ≠ g := by omega
  have n2 : g ≠ w.heap.size := by omega
  have hbA : Below w.heap.size w (w.alloc (.cells #[.string nm] 9)) := (Below.refl _ _).alloc (Nat.le_refl _) _
  have HA := Lib.hid hbA
  have hlies : Ak.Lies w (· < w.heap.size) r.attrs (.slice aa r.attrs.length ad) := (Ak.Lies.own h.attrs).on fun k hk => ⟨(h.avLt hk).2, rfl⟩
  have HL := Lib.hid hlies
  by_cases h32 : r.attrs.length < 32
  · have t32 : decide ((r.attrs.length : Int) < 32) = true := decide_eq_true (by omega)
    have hc := fun (u : World) (hu : Below (w.alloc (.cells #[.string nm] 9)).heap.size (w.alloc (.cells #[.string nm] 9)) u) => Rm.containsFunc r.attrs aa ad nm w.heap.size u (HL.out.on fun k hk => ⟨by have := hu.size; simp at this; omega, (hu.block k (by simp; omega)).trans (HA.out.block k hk)⟩) (Tp.keep hu (by simp))
    cases hany : r.attrs.any (fun x => decide (x.1 = nm)) with
    | true =>
      rw [hany] at hc
      have HR : Hid (r.addAttr nm = { r with taken := false }) := by unfold Rd.addAttr Hid; rw [if_neg (by rw [hany]; simp)]
      clear h hlies
      go_enter Tryz.func99, Tryz.ntmps99
      go_wp2_with (go_at_call 114; refine (hc _ (Below.refl _ _)).mono ?_; rintro e w1 ⟨rfl, hb1⟩; have q1 : Below w.heap.size w w1 := hbA.trans (hb1.mono (by simp)); have hq := HH.out.on q1; have d34 := hq.box.attrs; have d35 := hq.box.taken; have df := hq.box.fz; have dq := Tp.keep hb1 (b := w.heap.size) (o := 0) (v := .string nm) (by simp); have hs1 : w.heap.size < w1.heap.size := (by have hs := hb1.size; simp at hs; omega); have HQ := Lib.hid hq; clear hb1 hc hq)
      go_end0
      refine ⟨rfl, tv, .slice aa r.attrs.length ad, ?_, (Rm.Kept.of g _ _ q1).trans (Rm.Kept.set _ _ _ _ _ _)⟩
      rw [HR.out]
      have hq := HQ.out
      have hne : ∀ k, g + 1 ≤ k → (w1.setCell ⟨g, 35, none⟩ (.bool false)).heap[k]? = w1.heap[k]? := fun k hk => Rm.set_ne _ _ _ _ hk
      exact ⟨hq.box.setTaken false, hq.toks.on (by simp) (fun k hk => hne k (hq.tvLt hk).1) (fun k hk _ _ hn => ⟨hn, hne k hk⟩), Rm.own_on hq.attrs (fun k hk => hne k (hq.avLt hk).1), hq.apart⟩
    | false =>
      rw [hany] at hc
      have HR : Hid (r.addAttr nm = { r with attrs := r.attrs ++ [(nm, Ts.e)], taken := true }) := by unfold Rd.addAttr Hid; rw [if_pos ⟨h32, hany⟩]
      clear h hlies
      go_enter Tryz.func99, Tryz.ntmps99
      go_wp2_with (go_at_call 114; refine (hc _ (Below.refl _ _)).mono ?_; rintro e w1 ⟨rfl, hb1⟩; have q1 : Below w.heap.size w w1 := hbA.trans (hb1.mono (by simp)); have hq := HH.out.on q1; have d34 := hq.box.attrs; have d35 := hq.box.taken; have df := hq.box.fz; have dq := Tp.keep hb1 (b := w.heap.size) (o := 0) (v := .string nm) (by simp); have hs1 : w.heap.size < w1.heap.size := (by have hs := hb1.size; simp at hs; omega); have HQ := Lib.hid hq; clear hb1 hc hq)
      obtain ⟨W, hW⟩ : ∃ W, w1.setCell ⟨g, 35, none⟩ (.bool true) = W := ⟨_, rfl⟩
      have hAt : Rm.At W g P { r with taken := true } tv (.slice aa r.attrs.length ad) := by
        rw [← hW]
        have hq := HQ.out
        have hne : ∀ k, g + 1 ≤ k → (w1.setCell ⟨g, 35, none⟩ (.bool true)).heap[k]? = w1.heap[k]? := fun k hk => Rm.set_ne _ _ _ _ hk
        exact ⟨hq.box.setTaken true, hq.toks.on (by simp) (fun k hk => hne k (hq.tvLt hk).1) (fun k hk _ _ hn => ⟨hn, hne k hk⟩), Rm.own_on hq.attrs (fun k hk => hne k (hq.avLt hk).1), hq.apart⟩
      have hKW : Rm.Kept w W g tv (.slice aa r.attrs.length ad) tv (.slice aa r.attrs.length ad) := by rw [← hW]; exact (Rm.Kept.of g _ _ q1).trans (Rm.Kept.set _ _ _ _ _ _)
      have hqW : W.cell? ⟨w.heap.size, 0, none⟩ = some (.string nm) := by rw [← hW, Rm.out _ _ _ _ n1]; exact dq
      have hsW : W.heap.size = w1.heap.size := by rw [← hW]; simp
      rw [hW]
      have e34 := hAt.box.attrs
      have ef := hAt.box.fz
      have e34' : ∀ o, (W.alloc o).cell? ⟨g, 34, none⟩ = some (.slice aa r.attrs.length ad) := fun o => (World.cell?_alloc_lt _ _ _ hAt.lt).trans e34
      have HAt := Lib.hid hAt
      have HK := Lib.hid hKW
      have HO := Lib.hid hAt.attrs
      have n5 : w1.heap.size ≠ g := by omega
      have n6 : w1.heap.size ≠ w.heap.size := by omega
      have n7 : g ≠ w1.heap.size := by omega
      have n8 : w.heap.size ≠ w1.heap.size := by omega
      have HN : Hid (r.attrs.length + 1 ≤ maxLen ∧ (r.attrs.length + 1) * 32 ≤ 140737488355328) := ⟨by unfold maxLen; omega, by omega⟩
      clear hW d34 d35 df dq hAt hKW HQ q1 hbA c34 c35 cf HL hn h32 hany
      go_region_law (first | (refine Ro.step_push rfl (.tmp 32) (.tmp 35) 41 45 2 32 _ rfl Tryz.underlying41 Rm.infoA rfl (by decide) (.slice aa r.attrs.length ad) (by simp [Act.eval]) (HO.out.alloc _) w1.heap.size (Ak.cells [(nm, Ts.e)]) (by simp [Act.eval]) (Rm.two_cells _ nm _ (by first | omega | (simp; omega))) rfl (Ak.cells_one _) HN.out.1 HN.out.2 (by first | omega | (simp; omega)) ?_; intro v' w4 R4 hg4 hf4; obtain ⟨a4, d4, rfl⟩ := Rm.form R4; have HR4 := Lib.hid R4; have HG4 := Lib.hid hg4; have HF4 := Lib.hid hf4; have B4 := HAt.out.box.on (w' := w4) (by have hq := hg4.size; first | omega | (simp at hq; omega)) (fun k hk => (hg4.block k (by first | omega | (simp; omega)) (fun e => by have := (HO.out.lt k e.symm).1; omega)).trans (Below.heap_alloc _ _ _ (by first | omega | (simp; omega)))); have d34 := B4.attrs; have df := B4.fz; have HB4 := Lib.hid B4; clear R4 hg4 hf4 B4))
      all_goals go_wp2
      all_goals go_end0
      all_goals
        have hq : Below W.heap.size W (W.drew.alloc (.cells #[.string nm, .string ⟨#[]⟩] 45)) := (Below.refl _ _).drew.alloc (Nat.le_refl _) _
        have hk4 : Rm.Kept W w4 g tv (.slice aa r.attrs.length ad) tv (.slice a4 (r.attrs.length + 1) d4) := Rm.kept_pushA hq HG4.out HF4.out
        refine ⟨rfl, tv, .slice a4 (r.attrs.length + 1) d4, ?_, HK.out.trans (hk4.trans (Rm.Kept.set _ _ _ _ _ _))⟩
        rw [HR.out]
        have hne : ∀ k, g + 1 ≤ k → (w4.setCell ⟨g, 34, none⟩ (.slice a4 (r.attrs.length + 1) d4)).heap[k]? = w4.heap[k]? := fun k hk => Rm.set_ne _ _ _ _ hk
        have hold : ∀ k, k < W.heap.size → (Value.slice aa r.attrs.length ad).ownBlock ≠ some k → w4.heap[k]? = W.heap[k]? ∧ (Value.slice a4 (r.attrs.length + 1) d4).ownBlock ≠ some k := fun k hk hn => ⟨(HG4.out.block k (Nat.lt_of_lt_of_le hk hq.size) (fun e => hn e.symm)).trans (hq.block k hk), fun e => by
          rcases HF4.out with e' | e'
          · rw [e'] at e; exact hn e
          · rw [e'] at e; have hh := Option.some.inj e; simp only [World.size_alloc, World.size_drew] at hh; omega⟩
        refine ⟨HB4.out.setAttrs _, HAt.out.toks.on (by have h1 := HG4.out.size; simp only [World.size_alloc, World.size_drew, World.size_setCell] at h1 ⊢; omega) (fun k hk => (hne k (HAt.out.tvLt hk).1).trans (hold k (HAt.out.tvLt hk).2 (HAt.out.apart k hk)).1) (fun k hk hk2 _ hn => ⟨(hold k hk2 hn).2, (hne k hk).trans (hold k hk2 hn).1⟩), ?_, fun k hk => (hold k (HAt.out.tvLt hk).2 (HAt.out.apart k hk)).2⟩
        have := Rm.own_on HR4.out (w' := w4.setCell ⟨g, 34, none⟩ (.slice a4 (r.attrs.length + 1) d4)) (fun k hk => hne k (HR4.out.lt k hk).1)
        rw [← Ak.cells_append] at this
        simpa using this
  · have t32 : decide ((r.attrs.length : Int) < 32) = false := decide_eq_false (by omega)
    have HR : Hid (r.addAttr nm = { r with taken := false }) := by unfold Rd.addAttr Hid; rw [if_neg (fun e => h32 e.1)]
    clear h hlies h32
    go_enter Tryz.func99, Tryz.ntmps99
    go_wp2
    go_end0
    refine ⟨rfl, tv, .slice aa r.attrs.length ad, ?_, (Rm.Kept.set w g 35 _ _ _).trans (Rm.Kept.of g _ _ ((Below.refl _ _).alloc (Nat.le_refl _) _))⟩
    rw [HR.out]
    have hq := HH.out
    have hne : ∀ k, g + 1 ≤ k → (w.setCell ⟨g, 35, none⟩ (.bool false)).heap[k]? = w.heap[k]? := fun k hk => Rm.set_ne _ _ _ _ hk
    have hs : Rm.At (w.setCell ⟨g, 35, none⟩ (.bool false)) g P { r with taken := false } tv (.slice aa r.attrs.length ad) := ⟨hq.box.setTaken false, hq.toks.on (by simp) (fun k hk => hne k (hq.tvLt hk).1) (fun k hk _ _ hn => ⟨hn, hne k hk⟩), Rm.own_on hq.attrs (fun k hk => hne k (hq.avLt hk).1), hq.apart⟩
    exact hs.on ((Below.refl _ _).alloc (Nat.le_refl _) _)
end Go.Proofs.YtjbkgokiikbaeaaGreatDoor

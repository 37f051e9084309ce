/-
  THE WALK of the reader's tell.
-/
import Derived.Test.YtjbkgokiikbaeaaGreatDoorTBox
namespace Go.Proofs.YtjbkgokiikbaeaaGreatDoor
open Go.RowKit
theorem Rm.form {w : World} {base : Nat} {e : TypeId} {size n : Nat} {v : Value} {xs : List Value} (h : w.ownsRow base e size v n xs) : ∃ a d, v = .slice a n d := by
  rcases h.2 with ⟨rfl, rfl⟩ | ⟨g, cap, cur, rfl, _⟩
  · exact ⟨_, _, rfl⟩
  · exact ⟨_, _, rfl⟩
def Rm.five (t : Tk) (tav : Value) : List Value := [.int .i64 t.kind, .string t.name, .string t.text, tav, .bool t.self]
theorem Rm.toks_push {base : Nat} {ts : List Tk} {w0 w w4 : World} {tv v' : Value} {no : Option Nat} {xs : List Value} {t : Tk} {tav : Value} (ho : w0.ownsRow base 47 5 tv ts.length xs)
    (hx : ∀ i t, ts[i]? = some t → ∃ av, xs[i * 5]? = some (.int .i64 t.kind) ∧ xs[i * 5 + 1]? = some (.string t.name) ∧ xs[i * 5 + 2]? = some (.string t.text) ∧ xs[i * 5 + 3]? = some av ∧ xs[i * 5 + 4]? = some (.bool t.self) ∧ Ak.Lies w0 (fun k => base ≤ k ∧ k < w0.heap.size ∧ tv.ownBlock ≠ some k ∧ no ≠ some k) t.attrs av)
    (hl : Ak.Lies w0 (fun k => base ≤ k ∧ k < w0.heap.size ∧ tv.ownBlock ≠ some k) t.attrs tav) (hs : w0.heap.size ≤ w.heap.size) (hw : ∀ k, k < w0.heap.size → w.heap[k]? = w0.heap[k]?)
    (R4 : w4.ownsRow base 47 5 v' (ts.length + 1) (xs ++ Rm.five t tav)) (hg : w.grownBy w4 tv.ownBlock) (hf : v'.ownBlock = tv.ownBlock ∨ v'.ownBlock = some w.heap.size) : Rm.Toks base (ts ++ [t]) w4 v' none := by
  have hkeep : ∀ k, base ≤ k → k < w0.heap.size → tv.ownBlock ≠ some k → (base ≤ k ∧ k < w4.heap.size ∧ v'.ownBlock ≠ some k ∧ (none : Option Nat) ≠ some k) ∧ w4.heap[k]? = w0.heap[k]? := fun k h1 h2 h3 =>
    ⟨⟨h1, by have := hg.size; omega, fun e => by
      rcases hf with e' | e'
      · rw [e'] at e; exact h3 e
      · rw [e'] at e; have := Option.some.inj e; omega, fun e => by cases e⟩, (hg.block k (by omega) (fun e => h3 e.symm)).trans (hw k h2)⟩
  have hlen := ho.1
  refine ⟨_, by rw [List.length_append]; exact R4, fun i u hi => ?_⟩
  by_cases e : i < ts.length
  · rw [List.getElem?_append_left e] at hi
    obtain ⟨av, x0, x1, x2, x3, x4, hl'⟩ := hx i u hi
    refine ⟨av, ?_, ?_, ?_, ?_, ?_, hl'.on fun k hk => hkeep k hk.1 hk.2.1 hk.2.2.1⟩
    all_goals rw [List.getElem?_append_left (by omega)]
    all_goals assumption
  · have hi' : i = ts.length := by
      have := (List.getElem?_eq_some_iff.1 hi).1
      simp at this; omega
    subst hi'
    rw [List.getElem?_append_right (Nat.le_refl _), Nat.sub_self] at hi
    have : t = u := by simpa using hi
    subst this
    have at5 : ∀ r, (xs ++ Rm.five t tav)[ts.length * 5 + r]? = (Rm.five t tav)[r]? := fun r => by rw [List.getElem?_append_right (by omega), hlen, Nat.add_sub_cancel_left]
    exact ⟨tav, at5 0, at5 1, at5 2, at5 3, at5 4, hl.on fun k hk => hkeep k hk.1 hk.2.1 hk.2.2⟩

theorem Rm.kept_push {W W1 w4 : World} {tv av v' av' : Value} {g : Nat} (hb : Below W.heap.size W W1) (hg : W1.grownBy w4 tv.ownBlock) (hf : v'.ownBlock = tv.ownBlock ∨ v'.ownBlock = some W1.heap.size) (ha : ∀ k, av.ownBlock ≠ some k → av'.ownBlock ≠ some k) : Rm.Kept W w4 g tv av v' av' :=
  ⟨hg.os.trans hb.os, hg.tape.trans hb.tape, hg.output.trans hb.output, Nat.le_trans hb.size hg.size, fun k hk hfr =>
    ⟨(hg.block k (Nat.lt_of_lt_of_le hk hb.size) (fun e => hfr.2.1 e.symm)).trans (hb.block k hk), hfr.1, fun e => by
      rcases hf with e' | e'
      · rw [e'] at e; exact hfr.2.1 e
      · rw [e'] at e; have := Option.some.inj e; have := hb.size; omega, ha k hfr.2.2⟩⟩
theorem Rm.set_ne (w : World) (g j : Nat) (u : Value) {k : Nat} (h : g + 1 ≤ k) : (w.setCell ⟨g, j, none⟩ u).heap[k]? = w.heap[k]? := Below.heap_setCell _ _ _ _ (by show k ≠ g; omega)
theorem Rm.five_cells (W : World) (t : Tk) (tav : Value) (g1 : Nat) (h : g1 = W.heap.size) : ∀ j u, (Rm.five t tav)[j]? = some u → (W.alloc (.cells #[.int .i64 t.kind, .string t.name, .string t.text, tav, .bool t.self] 47)).cell? ⟨g1, j, none⟩ = some u := by
  subst h
  intro j u hj
  unfold World.cell?
  rw [show (W.alloc (.cells #[.int .i64 t.kind, .string t.name, .string t.text, tav, .bool t.self] 47)).heap[W.heap.size]? = some _ from heap_alloc_new W _]
  simpa [Rm.five] using hj
theorem Rm.five_one (t : Tk) (ta : Option Addr) (m td : Nat) : ∀ u ∈ Rm.five t (.slice ta m td), u.oneCell' = true := by
  intro u hu
  simp only [Rm.five, List.mem_cons, List.not_mem_nil, or_false] at hu
  rcases hu with rfl | rfl | rfl | rfl | rfl <;> rfl
set_option maxHeartbeats 4000000 in
theorem Rm.tell (r : Rd) (t : Tk) (tav : Value) (next : Nat) (w : World) (g : Nat) (P : ByteArray) (tv av : Value) (h : Rm.At w g P r tv av) (hl : Ak.Lies w (fun k => g + 1 ≤ k ∧ k < w.heap.size ∧ tv.ownBlock ≠ some k) t.attrs tav) (hn : r.toks.length ≤ 1000000) :
    Calls Tryz.prog 74 #[.pointer (some ⟨g, 0, none⟩), .agg #[.int .i64 t.kind, .string t.name, .string t.text, tav, .bool t.self], .int .i64 (next : Int)] w fun e w' => e = .returned (.tuple #[]) ∧ ∃ tv', Rm.At w' g P (r.tell t next) tv' (.slice none 0 0) ∧ Rm.Kept w w' g tv av tv' (.slice none 0 0) := by
  obtain ⟨xs, ho, hx⟩ := h.toks
  obtain ⟨ta, td, htav, htd1, htd2, hrest⟩ := id hl
  clear hrest
  have HH := Lib.hid h
  have HL := Lib.hid hl
  have HO := Lib.hid ho
  have HX := Lib.hid hx
  have B := h.box
  have c30 := B.toks
  have c31 := B.text
  have c34 := B.attrs
  have cf := B.fz
  have hglt := B.lt
  have n1 : w.heap.size ≠ g := by omega
  have n2 : w.heap.size + 1 ≠ g := by omega
  have n3 : g ≠ w.heap.size := by omega
  have n4 : g ≠ w.heap.size + 1 := by omega
  generalize hm : t.attrs.length = m at htav htd1
  subst htav
  clear h hl ho hx B hm
  go_enter Tryz.func74, Tryz.ntmps74
  go_wp2_with fail
  obtain ⟨W, hW⟩ : ∃ W, w.alloc (.cells #[.int .i64 t.kind, .string t.name, .string t.text, .slice ta m td, .bool t.self] 47) = W := ⟨_, rfl⟩
  have hbW : Below w.heap.size w W := by rw [← hW]; exact (Below.refl _ _).alloc (Nat.le_refl _) _
  have hsW : W.heap.size = w.heap.size + 1 := by rw [← hW]; simp
  have k0 : W.cell? ⟨w.heap.size, 0, none⟩ = some (.int .i64 t.kind) := by rw [← hW]; simp
  have k1 : W.cell? ⟨w.heap.size, 1, none⟩ = some (.string t.name) := by rw [← hW]; simp
  have k2 : W.cell? ⟨w.heap.size, 2, none⟩ = some (.string t.text) := by rw [← hW]; simp
  have k3 : W.cell? ⟨w.heap.size, 3, none⟩ = some (.slice ta m td) := by rw [← hW]; simp
  have k4 : W.cell? ⟨w.heap.size, 4, none⟩ = some (.bool t.self) := by rw [← hW]; simp
  have c30' := Tp.keep hbW c30
  have n5 : W.heap.size ≠ g := by omega
  have n6 : W.heap.size ≠ w.heap.size := by omega
  rw [hW]
  have HB := Lib.hid hbW
  have HW1 : Hid (W.ownsRow (g + 1) 47 5 tv r.toks.length xs) := Rm.own_on HO.out fun k hk => HB.out.block k (HO.out.lt k hk).2
  have HN : Hid (r.toks.length + 1 ≤ maxLen ∧ (r.toks.length + 1) * 72 ≤ 140737488355328) := ⟨by unfold maxLen; omega, by omega⟩
  clear hW c30 c31 c34 cf hbW hn htd1 htd2
  go_region_law (first | (refine Ro.step_push rfl (.tmp 10) (.tmp 12) 29 47 5 72 _ rfl Tryz.underlying29 Rm.infoT rfl (by decide) tv (by simp [Act.eval]) (HW1.out.alloc _) (w.heap.size + 1) (Rm.five t (.slice ta m td)) (by simp [Act.eval]) (Rm.five_cells _ t _ _ (by first | omega | (simp; omega))) rfl (Rm.five_one _ _ _ _) HN.out.1 HN.out.2 (by first | omega | (simp; omega)) ?_; intro v' w4 R4 hg4 hf4; obtain ⟨a4, d4, rfl⟩ := Rm.form R4; have HR4 := Lib.hid R4; have HG4 := Lib.hid hg4; have HF4 := Lib.hid hf4; have B4 := (HH.out.on HB.out).box.on (w' := w4) (by have hq := hg4.size; first | omega | (simp at hq; omega)) (fun k hk => (hg4.block k (by first | omega | (simp; omega)) (fun e => by have := (HO.out.lt k e.symm).1; omega)).trans (Below.heap_alloc _ _ _ (by first | omega | (simp; omega)))); have d30 := B4.toks; have d31 := B4.text; have d34 := B4.attrs; have df := B4.fz; have HB4 := Lib.hid B4; clear R4 hg4 hf4 B4))
  all_goals go_wp2
  all_goals go_end0
  all_goals
    have hq : Below W.heap.size W (W.drew.alloc (.cells #[.int .i64 t.kind, .string t.name, .string t.text, .slice ta m td, .bool t.self] 47)) := (Below.refl _ _).drew.alloc (Nat.le_refl _) _
    have hk4 : Rm.Kept W w4 g tv av (.slice a4 (r.toks.length + 1) d4) (.slice none 0 0) := Rm.kept_push hq HG4.out HF4.out (fun k _ e => by cases e)
    have ht4 := Rm.toks_push (w := W.drew.alloc (.cells #[.int .i64 t.kind, .string t.name, .string t.text, .slice ta m td, .bool t.self] 47)) HO.out HX.out HL.out (Nat.le_trans HB.out.size hq.size) (fun k hk => (hq.block k (Nat.lt_of_lt_of_le hk HB.out.size)).trans (HB.out.block k hk)) HR4.out HG4.out HF4.out
    refine ⟨rfl, .slice a4 (r.toks.length + 1) d4, ⟨((HB4.out.setToks _).setText next).setAttrs _, ?_, World.ownsRow_nil _ _ _ _, fun k _ e => by cases e⟩, (((Rm.Kept.of g tv av HB.out).trans hk4).trans (Rm.Kept.set _ _ _ _ _ _)).trans ((Rm.Kept.set _ _ _ _ _ _).trans (Rm.Kept.set _ _ _ _ _ _))⟩
    have hne : ∀ k, g + 1 ≤ k → (((w4.setCell ⟨g, 30, none⟩ (.slice a4 (r.toks.length + 1) d4)).setCell ⟨g, 31, none⟩ (.int .i64 (next : Int))).setCell ⟨g, 34, none⟩ (.slice none 0 0)).heap[k]? = w4.heap[k]? := fun k hk => by
      rw [Rm.set_ne _ _ _ _ hk, Rm.set_ne _ _ _ _ hk, Rm.set_ne _ _ _ _ hk]
    exact Rm.Toks.on ht4 (by simp) (fun k hk => hne k (HR4.out.lt k hk).1) (fun k hk _ _ _ => ⟨(fun e => by cases e), hne k hk⟩)
end Go.Proofs.YtjbkgokiikbaeaaGreatDoor

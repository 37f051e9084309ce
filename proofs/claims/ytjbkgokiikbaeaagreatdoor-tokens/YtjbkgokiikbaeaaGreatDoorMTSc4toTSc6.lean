/-
  THE REFERENCE's SCAN: a token more.
-/
import Derived.Test.YtjbkgokiikbaeaaGreatDoorMTRs9toTSc3
import Derived.Deep.QuietTactic
import Derived.BigQuiet
namespace Go.Proofs.YtjbkgokiikbaeaaGreatDoor
open Go.RowKit
theorem Sc.toksPush {base : Nat} {ts : List Tk} {w w2 : World} {v v' av : Value} {no no' : Nat → Prop} {t : Tk} (xs : List Value) (ho : w.ownsRow base 47 5 v ts.length xs)
    (hx : ∀ i t, ts[i]? = some t → ∃ av, xs[i * 5]? = some (.int .i64 t.kind) ∧ xs[i * 5 + 1]? = some (.string t.name) ∧ xs[i * 5 + 2]? = some (.string t.text) ∧ xs[i * 5 + 3]? = some av ∧ xs[i * 5 + 4]? = some (.bool t.self) ∧ Ak.Lies w (fun k => base ≤ k ∧ k < w.heap.size ∧ v.ownBlock ≠ some k ∧ ¬ no k) t.attrs av)
    (hs : w.heap.size ≤ w2.heap.size) (hown : w2.ownsRow base 47 5 v' (ts.length + 1) (xs ++ Rm.five t av))
    (hat : Ak.Lies w2 (fun k => base ≤ k ∧ k < w2.heap.size ∧ v'.ownBlock ≠ some k ∧ ¬ no' k) t.attrs av)
    (hw : ∀ k, base ≤ k → k < w.heap.size → v.ownBlock ≠ some k → ¬ no k → (v'.ownBlock ≠ some k ∧ ¬ no' k) ∧ w2.heap[k]? = w.heap[k]?) : Sc.Toks base (ts ++ [t]) w2 v' no' := by
  have hl : xs.length = ts.length * 5 := ho.1
  refine ⟨xs ++ Rm.five t av, by rw [List.length_append]; exact hown, fun i u hi => ?_⟩
  by_cases hlt : i < ts.length
  · rw [List.getElem?_append_left hlt] at hi
    obtain ⟨av1, x0, x1, x2, x3, x4, hl1⟩ := hx i u hi
    refine ⟨av1, ?_, ?_, ?_, ?_, ?_, hl1.on fun k hk => ?_⟩
    · rw [List.getElem?_append_left (by omega)]; exact x0
    · rw [List.getElem?_append_left (by omega)]; exact x1
    · rw [List.getElem?_append_left (by omega)]; exact x2
    · rw [List.getElem?_append_left (by omega)]; exact x3
    · rw [List.getElem?_append_left (by omega)]; exact x4
    · obtain ⟨h1, h2⟩ := hw k hk.1 hk.2.1 hk.2.2.1 hk.2.2.2
      exact ⟨⟨hk.1, by omega, h1.1, h1.2⟩, h2⟩
  · have hi' : i = ts.length := by
      have := (List.getElem?_eq_some_iff.1 hi).1
      simp at this
      omega
    subst hi'
    have hu : u = t := by simpa using hi.symm
    subst hu
    refine ⟨av, ?_, ?_, ?_, ?_, ?_, hat⟩
    all_goals (rw [List.getElem?_append_right (by omega), hl])
    · rw [Nat.sub_self]; rfl
    · rw [show ts.length * 5 + 1 - ts.length * 5 = 1 by omega]; rfl
    · rw [show ts.length * 5 + 2 - ts.length * 5 = 2 by omega]; rfl
    · rw [show ts.length * 5 + 3 - ts.length * 5 = 3 by omega]; rfl
    · rw [show ts.length * 5 + 4 - ts.length * 5 = 4 by omega]; rfl
/-- a token without attributes behind the others, laid down -/
theorem Sc.At.outPut {w w1 w4 : World} {g : Nat} {P : ByteArray} {x : Rf} {bv ov av ov' : Value} {t : Tk} (h : Sc.At w g P x bv ov av) (hq : Below w.heap.size w w1) (xs : List Value)
    (hx : w.ownsRow (g + 1) 47 5 ov x.out.length xs ∧ ∀ i t, x.out[i]? = some t → ∃ av', xs[i * 5]? = some (.int .i64 t.kind) ∧ xs[i * 5 + 1]? = some (.string t.name) ∧ xs[i * 5 + 2]? = some (.string t.text) ∧ xs[i * 5 + 3]? = some av' ∧ xs[i * 5 + 4]? = some (.bool t.self) ∧ Ak.Lies w (fun k => g + 1 ≤ k ∧ k < w.heap.size ∧ ov.ownBlock ≠ some k ∧ ¬ (bv.ownBlock = some k ∨ av.ownBlock = some k)) t.attrs av')
    (ht : t.attrs = []) (R4 : w4.ownsRow (g + 1) 47 5 ov' (x.out.length + 1) (xs ++ Rm.five t (.slice none 0 0))) (hg : w1.grownBy w4 ov.ownBlock) (hf : ov'.ownBlock = ov.ownBlock ∨ ov'.ownBlock = some w1.heap.size) :
    Sc.At (w4.setCell ⟨g, 10, none⟩ ov') g P { x with out := x.out ++ [t] } bv ov' av ∧ Sc.Kept w (w4.setCell ⟨g, 10, none⟩ ov') g bv ov av bv ov' av := by
  have hlt := h.lt
  have hgne : ov.ownBlock ≠ some g := fun e => by have := (h.ovLt e).1; omega
  have hold : ∀ k, k < w.heap.size → ov.ownBlock ≠ some k → ov'.ownBlock ≠ some k ∧ w4.heap[k]? = w.heap[k]? := fun k hk hv => ⟨fun e => by
    rcases hf with q | q
    · rw [q] at e; exact hv e
    · rw [q] at e; have := Option.some.inj e; have := hq.size; omega, (hg.block k (Nat.lt_of_lt_of_le hk hq.size) (fun e => hv e.symm)).trans (hq.block k hk)⟩
  have hne : ∀ k, g + 1 ≤ k → (w4.setCell ⟨g, 10, none⟩ ov').heap[k]? = w4.heap[k]? := fun k hk => Below.heap_setCell _ _ _ _ (by show k ≠ g; omega)
  have hsz : w.heap.size ≤ w4.heap.size := Nat.le_trans hq.size hg.size
  have hbv : ∀ k, bv.ownBlock = some k → k < w.heap.size ∧ ov.ownBlock ≠ some k := fun k hk => ⟨(h.buf.lt k hk).2, fun e => h.ob k e hk⟩
  have hav : ∀ k, av.ownBlock = some k → k < w.heap.size ∧ ov.ownBlock ≠ some k := fun k hk => ⟨(h.attrs.lt k hk).2, fun e => h.oa k e hk⟩
  have hT : Sc.Toks (g + 1) (x.out ++ [t]) w4 ov' (fun k => bv.ownBlock = some k ∨ av.ownBlock = some k) := by
    refine Sc.toksPush xs hx.1 hx.2 hsz R4 (by rw [ht]; exact Ak.Lies.nil _ _) (fun k _ h2 h3 h4 => ⟨⟨(hold k h2 h3).1, h4⟩, (hold k h2 h3).2⟩)
  obtain ⟨ys, hys, hyx⟩ := id hT
  refine ⟨⟨?_, ?_, ?_, ?_, ?_, ?_, h.ba⟩, ⟨hg.os.trans hq.os, hg.tape.trans hq.tape, hg.output.trans hq.output, by simpa using hsz, fun k hk hfr => ⟨?_, hfr.1, hfr.2.1, (hold k hk hfr.2.2.1).1, hfr.2.2.2⟩⟩⟩
  · exact (h.box.on (hold g hlt hgne).2).set 10 ov' (by show 10 < 15; decide)
  · exact Rm.own_on h.buf (fun k hk => (hne k (h.buf.lt k hk).1).trans (hold k (hbv k hk).1 (hbv k hk).2).2)
  · exact hT.on (by simp) (fun k hk => hne k (hys.lt k hk).1) (fun k h1 _ _ h4 => ⟨h4, hne k h1⟩)
  · exact Rm.own_on h.attrs (fun k hk => (hne k (h.attrs.lt k hk).1).trans (hold k (hav k hk).1 (hav k hk).2).2)
  · intro k hk hk2
    exact (hold k (hbv k hk2).1 (hbv k hk2).2).1 hk
  · intro k hk hk2
    exact (hold k (hav k hk2).1 (hav k hk2).2).1 hk
  · rw [show (w4.setCell ⟨g, 10, none⟩ ov').heap[k]? = w4.heap[k]? from Below.heap_setCell _ _ _ _ hfr.1]
    exact (hold k hk hfr.2.2.1).2
/-- no bytes any more -/
theorem Sc.At.bufNil {w : World} {g : Nat} {P : ByteArray} {x : Rf} {bv ov av : Value} (h : Sc.At w g P x bv ov av) : Sc.At (w.setCell ⟨g, 8, none⟩ (.slice none 0 0)) g P { x with buf := [] } (.slice none 0 0) ov av ∧ Sc.Kept w (w.setCell ⟨g, 8, none⟩ (.slice none 0 0)) g bv ov av (.slice none 0 0) ov av := by
  have hne : ∀ k, g + 1 ≤ k → (w.setCell ⟨g, 8, none⟩ (.slice none 0 0)).heap[k]? = w.heap[k]? := fun k hk => Below.heap_setCell _ _ _ _ (by show k ≠ g; omega)
  refine ⟨⟨h.box.set 8 _ (by show 8 < 15; decide), World.ownsRow_nil _ _ _ _, ?_, Rm.own_on h.attrs (fun k hk => hne k (h.attrs.lt k hk).1), fun k _ e => (by cases e), h.oa, fun k e => (by cases e)⟩, ⟨rfl, rfl, rfl, by simp, fun k _ hfr => ⟨Below.heap_setCell _ _ _ _ hfr.1, hfr.1, (fun e => by cases e), hfr.2.2.1, hfr.2.2.2⟩⟩⟩
  exact h.out.on (by simp) (fun k hk => hne k (h.ovLt hk).1) (fun k h1 _ _ h4 => ⟨fun q => q.elim (fun q => nomatch q) (fun q => h4 (Or.inr q)), hne k h1⟩)
/-- no attributes any more -/
theorem Sc.At.attrsNil {w : World} {g : Nat} {P : ByteArray} {x : Rf} {bv ov av : Value} (h : Sc.At w g P x bv ov av) : Sc.At (w.setCell ⟨g, 11, none⟩ (.slice none 0 0)) g P { x with attrs := [] } bv ov (.slice none 0 0) ∧ Sc.Kept w (w.setCell ⟨g, 11, none⟩ (.slice none 0 0)) g bv ov av bv ov (.slice none 0 0) := by
  have hne : ∀ k, g + 1 ≤ k → (w.setCell ⟨g, 11, none⟩ (.slice none 0 0)).heap[k]? = w.heap[k]? := fun k hk => Below.heap_setCell _ _ _ _ (by show k ≠ g; omega)
  refine ⟨⟨h.box.set 11 _ (by show 11 < 15; decide), Rm.own_on h.buf (fun k hk => hne k (h.buf.lt k hk).1), ?_, World.ownsRow_nil _ _ _ _, h.ob, fun k _ e => (by cases e), fun k _ e => (by cases e)⟩, ⟨rfl, rfl, rfl, by simp, fun k _ hfr => ⟨Below.heap_setCell _ _ _ _ hfr.1, hfr.1, hfr.2.1, hfr.2.2.1, (fun e => by cases e)⟩⟩⟩
  exact h.out.on (by simp) (fun k hk => hne k (h.ovLt hk).1) (fun k h1 _ _ h4 => ⟨fun q => q.elim (fun q => h4 (Or.inl q)) (fun q => nomatch q), hne k h1⟩)
end Go.Proofs.YtjbkgokiikbaeaaGreatDoor
/-
  THE WALK of the reference's flush: text that came.
-/
namespace Go.Proofs.YtjbkgokiikbaeaaGreatDoor
open Go.RowKit
theorem Sc.five_cells (W : World) (k : Int) (n t : ByteArray) (b : Bool) (t' : Tk) (ht : t'.kind = k ∧ t'.name = n ∧ t'.text = t ∧ t'.self = b) : ∀ j u, (Rm.five t' (.slice none 0 0))[j]? = some u → (W.alloc (.cells #[.int .i64 k, .string n, .string t, .slice none 0 0, .bool b] 47)).cell? ⟨W.heap.size, j, none⟩ = some u := by
  obtain ⟨e1, e2, e3, e4⟩ := ht
  intro j u hj
  unfold World.cell?
  rw [show (W.alloc (.cells #[.int .i64 k, .string n, .string t, .slice none 0 0, .bool b] 47)).heap[W.heap.size]? = some _ from heap_alloc_new W _]
  simpa [Rm.five, e1, e2, e3, e4] using hj
theorem Sc.five_one (t : Tk) : ∀ u ∈ Rm.five t (.slice none 0 0), u.oneCell' = true := by
  intro u hu
  simp only [Rm.five, List.mem_cons, List.not_mem_nil, or_false] at hu
  rcases hu with e | e | e | e | e <;> (rw [e]; rfl)
set_option maxHeartbeats 4000000 in
theorem Sc.flush (P : ByteArray) (x : Rf) (w : World) (g : Nat) (bv ov av : Value) (h : Sc.At w g P x bv ov av) (hl : x.buf.length ≤ 65536) (ho : x.out.length ≤ 1000000) :
    Calls Tryz.prog 37 #[.pointer (some ⟨g, 0, none⟩)] w fun e w' => e = .returned (.tuple #[]) ∧ ∃ bv' ov', Sc.At w' g P x.flush bv' ov' av ∧ Sc.Kept w w' g bv ov av bv' ov' av := by
  by_cases hb : x.buf = []
  · have HX : Hid (x.flush = x) := by unfold Hid Rf.flush; rw [if_pos hb]
    obtain ⟨ba, bd, rfl⟩ := Rm.form h.buf
    have c8 := h.box.cell 8 _ rfl
    have hz : x.buf.length = 0 := by rw [hb]; rfl
    rw [hz] at c8
    have HA := Lib.hid h
    clear h hl ho hb
    go_enter Tryz.func37, Tryz.ntmps37
    go_wp2
    refine bodyPost_ret (v := .tuple #[]) (by simp [results, Tryz.results37, go_sem]) rfl ⟨rfl, _, _, ?_, Sc.Kept.refl _ _ _ _ _⟩
    rw [HX.out]
    exact HA.out
  · have hne : x.buf.length ≠ 0 := fun e => hb (List.eq_nil_of_length_eq_zero e)
    have t0 : ((x.buf.length : Int) == 0) = false := beq_eq_false_iff_ne.2 (by omega)
    obtain ⟨T, hT⟩ : ∃ T, Rf.txt x.buf x.raw = T := ⟨_, rfl⟩
    have HX : Hid (x.flush = { ({ x with out := x.out ++ [⟨0, Ts.e, T, [], false⟩] } : Rf) with buf := [] }) := by unfold Hid Rf.flush; rw [if_neg hb, hT]
    obtain ⟨ba, bd, rfl⟩ := Rm.form h.buf
    obtain ⟨xs, hx⟩ := id h.out
    obtain ⟨oa, od, rfl⟩ := Rm.form hx.1
    have c8 := h.box.cell 8 _ rfl
    have c9 := h.box.cell 9 _ rfl
    have c10 := h.box.cell 10 _ rfl
    have fz := h.box.fz
    have hlt := h.lt
    have hcv := Dm.conv h.buf
    have HA := Lib.hid h
    have HXS := Lib.hid hx
    have hdz : (⟨x.buf.toArray⟩ : ByteArray).size ≤ 65536 := by show (List.toArray _).size ≤ _; simpa using hl
    have hde := fun u => Rt.decode ⟨x.buf.toArray⟩ u (by omega)
    have HN : Hid (x.out.length + 1 ≤ maxLen ∧ (x.out.length + 1) * 72 ≤ 140737488355328) := ⟨by unfold maxLen; omega, by omega⟩
    cases hraw : x.raw with
    | true =>
      rw [hraw] at c9 hT
      have hT2 : (⟨x.buf.toArray⟩ : ByteArray) = T := hT
      rw [hT2] at hcv
      clear hde h hx hb hT hT2 hl ho
      go_enter Tryz.func37, Tryz.ntmps37
      go_wp2_with (at_builtin; refine Ro.push rfl _ _ 29 47 5 72 _ rfl Tryz.underlying29 Rm.infoT rfl (by decide) _ rfl (HXS.out.1.alloc _) w.heap.size (Rm.five ⟨0, Ts.e, T, [], false⟩ (.slice none 0 0)) rfl (Sc.five_cells w 0 ⟨#[]⟩ T false ⟨0, Ts.e, T, [], false⟩ ⟨rfl, rfl, rfl, rfl⟩) rfl (Sc.five_one _) HN.out.1 HN.out.2 (by simp; omega) ?_)
      intro v4 w4 R4 hg4 hf4
      obtain ⟨a4, d4, rfl⟩ := Rm.form R4
      have hq : Below w.heap.size w (w.alloc (.cells #[.int .i64 0, .string ⟨#[]⟩, .string T, .slice none 0 0, .bool false] 47)) := (Below.refl _ _).alloc (Nat.le_refl _) _
      obtain ⟨z1, z2⟩ := Sc.At.outPut (t := ⟨0, Ts.e, T, [], false⟩) HA.out hq xs HXS.out rfl R4 hg4 (by simpa using hf4)
      obtain ⟨y1, y2⟩ := z1.bufNil
      have B4 := HA.out.box.on (w' := w4) ((hg4.block g (Nat.lt_of_lt_of_le hlt hq.size) (fun e => by have := (HXS.out.1.lt g e.symm).1; omega)).trans (hq.block g hlt))
      have d8 := B4.cell 8 _ rfl
      have d10 := B4.cell 10 _ rfl
      have df := B4.fz
      have HY1 := Lib.hid y1
      have HK := Lib.hid (z2.trans y2)
      clear R4 hg4 hf4 hq z1 z2 y1 y2 B4 c8 c9 c10 fz
      go_wp2
      go_end0
      exact ⟨rfl, _, _, by rw [HX.out]; exact HY1.out, HK.out⟩
    | false =>
      rw [hraw] at c9 hT
      have hT2 : (⟨(Pl.decL x.buf).toArray⟩ : ByteArray) = T := hT
      have hde2 : ∀ u, Calls Tryz.prog 85 #[.string ⟨x.buf.toArray⟩] u fun e w' => e = .returned (.string T) ∧ Below u.heap.size u w' := fun u => by
        have := hde u
        rw [show Pl.decL (⟨x.buf.toArray⟩ : ByteArray).data.toList = Pl.decL x.buf from rfl, hT2] at this
        exact this
      generalize (⟨x.buf.toArray⟩ : ByteArray) = Q at *
      clear hde h hx hb hT hT2 hl ho
      go_enter Tryz.func37, Tryz.ntmps37
      go_wp2_with (first | (go_at_call 85; refine (hde2 _).mono ?_; rintro e w1 ⟨rfl, hb1⟩; have HB1 := Lib.hid hb1; have k10 := Tp.keep hb1 c10; have hs1 := hb1.size; have HO1 := Lib.hid (Rm.own_on HXS.out.1 (fun k hk => hb1.block k (HXS.out.1.lt k hk).2)); clear hb1 hde2) | (at_builtin; refine Ro.push rfl _ _ 29 47 5 72 _ rfl Tryz.underlying29 Rm.infoT rfl (by decide) _ rfl (HO1.out.alloc _) w1.heap.size (Rm.five ⟨0, Ts.e, T, [], false⟩ (.slice none 0 0)) rfl (Sc.five_cells w1 0 ⟨#[]⟩ T false ⟨0, Ts.e, T, [], false⟩ ⟨rfl, rfl, rfl, rfl⟩) rfl (Sc.five_one _) HN.out.1 HN.out.2 (by simp; omega) ?_))
      intro v4 w4 R4 hg4 hf4
      obtain ⟨a4, d4, rfl⟩ := Rm.form R4
      have hq : Below w.heap.size w (w1.alloc (.cells #[.int .i64 0, .string ⟨#[]⟩, .string T, .slice none 0 0, .bool false] 47)) := HB1.out.alloc HB1.out.size _
      obtain ⟨z1, z2⟩ := Sc.At.outPut (t := ⟨0, Ts.e, T, [], false⟩) HA.out hq xs HXS.out rfl R4 hg4 (by simpa using hf4)
      obtain ⟨y1, y2⟩ := z1.bufNil
      have B4 := HA.out.box.on (w' := w4) ((hg4.block g (Nat.lt_of_lt_of_le hlt hq.size) (fun e => by have := (HXS.out.1.lt g e.symm).1; omega)).trans (hq.block g hlt))
      have d8 := B4.cell 8 _ rfl
      have d10 := B4.cell 10 _ rfl
      have df := B4.fz
      have HY1 := Lib.hid y1
      have HK := Lib.hid (z2.trans y2)
      clear R4 hg4 hf4 hq z1 z2 y1 y2 B4 c8 c9 c10 fz
      go_wp2
      go_end0
      exact ⟨rfl, _, _, by rw [HX.out]; exact HY1.out, HK.out⟩
end Go.Proofs.YtjbkgokiikbaeaaGreatDoor
/-
  THE WALK of the reference's commit: an attribute that came.
-/
namespace Go.Proofs.YtjbkgokiikbaeaaGreatDoor
open Go.RowKit
/-- an attribute more, laid down -/
theorem Sc.At.attrPut {w w1 w4 : World} {g : Nat} {P : ByteArray} {x : Rf} {bv ov av av' : Value} {n v : ByteArray} (h : Sc.At w g P x bv ov av) (hq : Below w.heap.size w w1)
    (R4 : w4.ownsRow (g + 1) 45 2 av' (x.attrs.length + 1) (Ak.cells x.attrs ++ Ak.cells [(n, v)])) (hg : w1.grownBy w4 av.ownBlock) (hf : av'.ownBlock = av.ownBlock ∨ av'.ownBlock = some w1.heap.size) :
    Sc.At (w4.setCell ⟨g, 11, none⟩ av') g P { x with attrs := x.attrs ++ [(n, v)] } bv ov av' ∧ Sc.Kept w (w4.setCell ⟨g, 11, none⟩ av') g bv ov av bv ov av' := by
  have hlt := h.lt
  have hgne : av.ownBlock ≠ some g := fun e => by have := (h.attrs.lt g e).1; omega
  have hold : ∀ k, k < w.heap.size → av.ownBlock ≠ some k → av'.ownBlock ≠ some k ∧ w4.heap[k]? = w.heap[k]? := fun k hk hv => ⟨fun e => by
    rcases hf with q | q
    · rw [q] at e; exact hv e
    · rw [q] at e; have := Option.some.inj e; have := hq.size; omega, (hg.block k (Nat.lt_of_lt_of_le hk hq.size) (fun e => hv e.symm)).trans (hq.block k hk)⟩
  have hne : ∀ k, g + 1 ≤ k → (w4.setCell ⟨g, 11, none⟩ av').heap[k]? = w4.heap[k]? := fun k hk => Below.heap_setCell _ _ _ _ (by show k ≠ g; omega)
  have hsz : w.heap.size ≤ w4.heap.size := Nat.le_trans hq.size hg.size
  have hbv : ∀ k, bv.ownBlock = some k → k < w.heap.size ∧ av.ownBlock ≠ some k := fun k hk => ⟨(h.buf.lt k hk).2, h.ba k hk⟩
  have hov : ∀ k, ov.ownBlock = some k → k < w.heap.size ∧ av.ownBlock ≠ some k := fun k hk => ⟨(h.ovLt hk).2, h.oa k hk⟩
  refine ⟨⟨?_, ?_, ?_, ?_, h.ob, ?_, ?_⟩, ⟨hg.os.trans hq.os, hg.tape.trans hq.tape, hg.output.trans hq.output, by simpa using hsz, fun k hk hfr => ⟨?_, hfr.1, hfr.2.1, hfr.2.2.1, (hold k hk hfr.2.2.2).1⟩⟩⟩
  · exact (h.box.on (hold g hlt hgne).2).set 11 av' (by show 11 < 15; decide)
  · exact Rm.own_on h.buf (fun k hk => (hne k (h.buf.lt k hk).1).trans (hold k (hbv k hk).1 (hbv k hk).2).2)
  · exact h.out.on (by simpa using hsz) (fun k hk => (hne k (h.ovLt hk).1).trans (hold k (hov k hk).1 (hov k hk).2).2) (fun k h1 h2 _ h4 => ⟨fun q => q.elim (fun q => h4 (Or.inl q)) (fun q => (hold k h2 (fun e => h4 (Or.inr e))).1 q), (hne k h1).trans (hold k h2 (fun e => h4 (Or.inr e))).2⟩)
  · have := Rm.own_on R4 (w' := w4.setCell ⟨g, 11, none⟩ av') (fun k hk => hne k (R4.lt k hk).1)
    rw [← Ak.cells_append] at this
    simpa using this
  · intro k hk
    exact (hold k (hov k hk).1 (hov k hk).2).1
  · intro k hk
    exact (hold k (hbv k hk).1 (hbv k hk).2).1
  · rw [show (w4.setCell ⟨g, 11, none⟩ av').heap[k]? = w4.heap[k]? from Below.heap_setCell _ _ _ _ hfr.1]
    exact (hold k hk hfr.2.2.2).2
theorem Sc.two_cells (W : World) (n v : ByteArray) (g1 : Nat) (h : g1 = W.heap.size) : ∀ j u, (Ak.cells [(n, v)])[j]? = some u → (W.alloc (.cells #[.string n, .string v] 45)).cell? ⟨g1, j, none⟩ = some u := by
  subst h
  intro j u hj
  unfold World.cell?
  rw [show (W.alloc (.cells #[.string n, .string v] 45)).heap[W.heap.size]? = some _ from heap_alloc_new W _]
  simpa [Ak.cells] using hj
end Go.Proofs.YtjbkgokiikbaeaaGreatDoor

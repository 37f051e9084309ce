/-
  PLAIN: the tokens of a page are few and short; a page read.
-/
import Derived.Test.YtblpkjlodncpeaaGreatDoorBTSim3toKMay
import Derived.Test.YtblpkjlodncpeaaGreatDoorBPlaintoKPlain
import Derived.Test.YtblpkjlodncpeaaGreatDoorBTSimtoShelf8
import Derived.Test.YtblpkjlodncpeaaGreatDoorBUCopytoTDec
import Derived.Deep.QuietTactic
import Derived.BigQuiet
namespace Go.Proofs.YtblpkjlodncpeaaGreatDoor
def Kp.T (L : Nat) (t : Tk) : Prop := t.text.size ≤ L ∧ (t.kind = 0 → t.name = Ts.e ∧ t.attrs = [] ∧ t.self = false)
theorem Kp.snoc {P : Tk → Prop} {l : List Tk} {t : Tk} (h : ∀ u ∈ l, P u) (ht : P t) : ∀ u ∈ l ++ [t], P u := fun u hu => by
 rcases List.mem_append.1 hu with q | q
 ·
  exact h u q
 ·
  rw [List.mem_singleton.1 q]; exact ht
theorem Kp.txt_size (b : List UInt8) (raw : Bool) : (Rf.txt b raw).size ≤ 4 * b.length := by
 unfold Rf.txt
 split
 ·
  show b.toArray.size ≤ _
  simp
  omega
 ·
  show (Pl.decL b.toArray.toList).toArray.size ≤ _
  have := Pl.decL_len b
  simpa using this
theorem Kp.flush {L : Nat} {x : Rf} (h : ∀ t ∈ x.out, Kp.T L t) (hb : 4 * x.buf.length ≤ L) : ∀ t ∈ x.flush.out, Kp.T L t := by
 unfold Rf.flush
 split
 ·
  exact h
 ·
  exact Kp.snoc h ⟨Nat.le_trans (Kp.txt_size _ _) hb, fun _ => ⟨rfl, rfl, rfl⟩⟩
theorem Kp.tag (L : Nat) (was : Ts) (al : List (ByteArray × ByteArray)) : Kp.T L (Rf.tag was al) := by
 unfold Rf.tag
 split
 ·
  exact ⟨Nat.zero_le _, fun e => absurd e (show ¬ (2 : Int) = 0 by decide)⟩
 ·
  exact ⟨Nat.zero_le _, fun e => absurd e (show ¬ (1 : Int) = 0 by decide)⟩
theorem Kp.ext (P : ByteArray) (a b : Nat) : (P.extract a b).size ≤ P.size := by
 rw [ByteArray.size_extract]
 omega
theorem Kp.go {P : ByteArray} {L : Nat} {x : Rf} {i : Nat} (h : ∀ t ∈ x.out, Kp.T L t) (hs : Rf.Sm x i) (hi : i < P.size) (hL : 8 * P.size ≤ L) (N : Ts) : ∀ t ∈ (Rf.go P x N i).out, Kp.T L t := by
 have hb : 4 * x.buf.length ≤ L := by have := hs.buf; omega
 have hcm : (Rf.moved x N).commit.out = x.out ∧ (Rf.moved x N).commit.buf = x.buf := by
  obtain ⟨_, a, b, _⟩ := Rf.commit_rest (Rf.moved x N)
  exact ⟨a, b⟩
 unfold Rf.go
 dsimp only
 have e1 : ({ x with st := N } : Rf) = Rf.moved x N := rfl
 rw [e1]
 split
 ·
  show ∀ t ∈ (Rf.moved x N).commit.flush.out ++ [_], Kp.T L t
  exact Kp.snoc (Kp.flush (by rw [hcm.1]; exact h) (by rw [hcm.2]; exact hb)) (Kp.tag _ _ _)
 split
 ·
  unfold Rf.value
  split
  ·
   show ∀ t ∈ (Rf.moved x N).commit.out, Kp.T L t
   rw [hcm.1]; exact h
  ·
   split
   ·
    exact h
   ·
    split <;> exact h
 split
 ·
  refine Kp.snoc (Kp.flush (x := Rf.moved x N) h hb) ⟨?_, fun e => absurd e (show ¬ (3 : Int) = 0 by decide)⟩
  show ByteArray.size (if _ then _ else _) ≤ L
  split
  ·
   have := Kp.ext P (x.hold.toNat + 4) (i - 2); omega
  ·
   have := Kp.ext P (x.hold.toNat + 2) i; omega
 split
 ·
  exact h
 split
 ·
  split <;> exact h
 split
 ·
  exact h
 ·
  exact h
theorem Kp.run {P : ByteArray} {L : Nat} (hL : 8 * P.size ≤ L) : ∀ (l : List UInt8) {x : Rf} {i : Nat}, (∀ t ∈ x.out, Kp.T L t) → Rf.Sm x i → Ts.Fit x.st → i + l.length ≤ P.size → ∀ t ∈ (Rf.run P x i l).out, Kp.T L t
 | [], _, _, h, _, _, _ => h
 | c :: l, x, i, h, hs, hf, hl => by
  have hi : i < P.size := by simp at hl; omega
  exact Kp.run hL l (x := Rf.byte P x i c) (i := i + 1) (Kp.go h hs hi hL _) (hs.go hi _) (by rw [Rf.byte_st]; exact hf.step c) (by simp at hl; omega)
theorem Kp.lines_len : ∀ (n : Nat) (A : List UInt8), A.length ≤ n → (Rd.lines A).length ≤ A.length
 | _, [], _ => Nat.le_refl _
 | 0, _ :: _, h => absurd h (by simp)
 | n + 1, d :: A, h => by
  by_cases hd : d = 13 ∧ ∃ B, A = 10 :: B
  ·
   obtain ⟨rfl, B, rfl⟩ := hd
   have := Kp.lines_len n B (by simp at h; omega)
   show (10 :: Rd.lines B).length ≤ _
   simp
   omega
  ·
   rw [Rd.lines.eq_3 d A (fun l e1 e2 => hd ⟨e1, l, e2⟩)]
   have := Kp.lines_len n A (by simp at h; omega)
   simp
   omega
theorem Kp.toks (s : ByteArray) : (∀ t ∈ Rd.tokens s, Kp.T (8 * s.size) t) ∧ (Rd.tokens s).length ≤ 2 * s.size + 1 := by
 rw [← Rf.tokens_eq]
 unfold Rf.tokens
 have hlen : (Rd.lines s.data.toList).length ≤ s.size := by
  have := Kp.lines_len _ s.data.toList (Nat.le_refl _)
  rw [Array.length_toList] at this
  exact this
 have hPs : (Rd.page s).size = (Rd.lines s.data.toList).length := by
  show (Rd.lines s.data.toList).toArray.size = _
  simp
 obtain ⟨hsm, hft⟩ := Rf.Sm.run (P := Rd.page s) (Rd.lines s.data.toList) Rf.Sm.start Ts.Fit.start (by rw [hPs]; omega)
 have hT := Kp.run (P := Rd.page s) (L := 8 * s.size) (by rw [hPs]; omega) (Rd.lines s.data.toList) (x := Rf.start) (i := 0) (fun t h => by simp [Rf.start] at h) Rf.Sm.start Ts.Fit.start (by rw [hPs]; omega)
 rw [Nat.zero_add] at hsm
 generalize Rf.run (Rd.page s) Rf.start 0 (Rd.lines s.data.toList) = x at *
 unfold Rf.done
 have hbuf := hsm.buf
 have hout := hsm.out
 refine ⟨?_, ?_⟩
 ·
  refine Kp.flush (by split <;> exact hT) ?_
  split
  ·
   show 4 * (x.buf ++ Rf.sl (Rd.page s) x.hold.toNat (Rd.page s).size).length ≤ _
   rw [List.length_append, Rf.sl_len _ _ _ (Nat.le_refl _)]
   omega
  ·
   omega
 ·
  have hfl : ∀ z : Rf, z.flush.out.length ≤ z.out.length + 1 := Rf.flush_out_len
  refine Nat.le_trans (hfl _) ?_
  split
  ·
   show x.out.length + 1 ≤ _
   omega
  ·
   omega
theorem Kp.sum_le (l : List Nat) (M : Nat) (h : ∀ x ∈ l, x ≤ M) : l.sum ≤ l.length * M := by
 induction l with
 | nil => exact Nat.zero_le _
 | cons a l ih =>
  rw [List.sum_cons, List.length_cons, Nat.succ_mul]
  have := h a List.mem_cons_self
  have := ih fun x hx => h x (List.mem_cons_of_mem _ hx)
  omega
theorem Kp.bulk (s : ByteArray) (h : s.size ≤ 65536) : Bt.bulk (Rd.tokens s) ≤ 140737488355328 := by
 obtain ⟨h1, h2⟩ := Kp.toks s
 unfold Bt.bulk
 have := Kp.sum_le ((Rd.tokens s).map (·.text.size)) 524288 (fun q hq => by
  obtain ⟨t, ht, rfl⟩ := List.mem_map.1 hq
  have := (h1 t ht).1
  show t.text.size ≤ _
  omega)
 rw [List.length_map] at this
 have h5 : (Rd.tokens s).length * 524288 ≤ 131073 * 524288 := Nat.mul_le_mul_right _ (by omega)
 omega
def Kp.Is (s : ByteArray) (ns : List Nd) (k : Int) : Prop :=
 (65536 < s.size ∧ ns = [] ∧ k = 500) ∨ (s.size ≤ 65536 ∧ ((¬ (∀ t ∈ Rd.tokens s, t.May) ∧ ns = [] ∧ k = 700) ∨ ((∀ t ∈ Rd.tokens s, t.May) ∧ (Bt.run Bt.start (Rd.tokens s)).2 = false ∧ ns = [] ∧ k = 701) ∨ ((∀ t ∈ Rd.tokens s, t.May) ∧ (Bt.run Bt.start (Rd.tokens s)).2 = true ∧ ns = (Bt.run Bt.start (Rd.tokens s)).1.out ∧ k = 0)))
theorem Kp.ex (s : ByteArray) : ∃ ns k, Kp.Is s ns k := by
 by_cases h : 65536 < s.size
 ·
  exact ⟨_, _, .inl ⟨h, rfl, rfl⟩⟩
 ·
  have hs : s.size ≤ 65536 := by omega
  by_cases hm : ∀ t ∈ Rd.tokens s, t.May
  ·
   cases hr : (Bt.run Bt.start (Rd.tokens s)).2 with
   | true => exact ⟨_, _, .inr ⟨hs, .inr (.inr ⟨hm, hr, rfl, rfl⟩)⟩⟩
   | false => exact ⟨_, _, .inr ⟨hs, .inr (.inl ⟨hm, hr, rfl, rfl⟩)⟩⟩
  ·
   exact ⟨_, _, .inr ⟨hs, .inl ⟨hm, rfl, rfl⟩⟩⟩
theorem Kp.Is.ok {s : ByteArray} {ns : List Nd} {k : Int} (h : Kp.Is s ns k) (hk : k = 0) : s.size ≤ 65536 ∧ (Bt.run Bt.start (Rd.tokens s)).2 = true ∧ ns = (Bt.run Bt.start (Rd.tokens s)).1.out := by
 rcases h with ⟨_, _, e⟩ | ⟨hs, ⟨_, _, e⟩ | ⟨_, _, _, e⟩ | ⟨_, h2, h3, _⟩⟩
 ·
  omega
 ·
  omega
 ·
  omega
 ·
  exact ⟨hs, h2, h3⟩
theorem Kp.Is.bad {s : ByteArray} {ns : List Nd} {k : Int} (h : Kp.Is s ns k) (hk : k ≠ 0) : ns = [] := by
 rcases h with ⟨_, e, _⟩ | ⟨_, ⟨_, e, _⟩ | ⟨_, _, e, _⟩ | ⟨_, _, _, e⟩⟩
 ·
  exact e
 ·
  exact e
 ·
  exact e
 ·
  exact absurd e hk
theorem Kp.Is.len {s : ByteArray} {ns : List Nd} {k : Int} (h : Kp.Is s ns k) : ns.length ≤ 4096 := by
 by_cases hk : k = 0
 ·
  obtain ⟨_, h2, h3⟩ := h.ok hk
  rw [h3]
  exact Bt.run_len _ Bt.start (by decide) h2
 ·
  rw [h.bad hk]
  exact Nat.zero_le _
theorem Kp.Is.may {s : ByteArray} {ns : List Nd} {k : Int} (h : Kp.Is s ns k) (hk : k = 0) : Sk.May ns := by
 rw [(h.ok hk).2.2]
 exact Sk.may_run _
open Go.RowKit
theorem Sc.toksPush {base : Nat} {ts : List Tk} {w w2 : World} {v v' av : Value} {no no' : Nat → Prop} {t : Tk} (xs : List Value) (ho : w.ownsRow base 84 5 v ts.length xs)
  (hx : ∀ i t, ts[i]? = some t → ∃ av, xs[i * 5]? = some (.int .i64 t.kind) ∧ xs[i * 5 + 1]? = some (.string t.name) ∧ xs[i * 5 + 2]? = some (.string t.text) ∧ xs[i * 5 + 3]? = some av ∧ xs[i * 5 + 4]? = some (.bool t.self) ∧ Ak.Lies w (fun k => base ≤ k ∧ k < w.heap.size ∧ v.ownBlock ≠ some k ∧ ¬ no k) t.attrs av)
  (hs : w.heap.size ≤ w2.heap.size) (hown : w2.ownsRow base 84 5 v' (ts.length + 1) (xs ++ Rm.five t av))
  (hat : Ak.Lies w2 (fun k => base ≤ k ∧ k < w2.heap.size ∧ v'.ownBlock ≠ some k ∧ ¬ no' k) t.attrs av)
  (hw : ∀ k, base ≤ k → k < w.heap.size → v.ownBlock ≠ some k → ¬ no k → (v'.ownBlock ≠ some k ∧ ¬ no' k) ∧ w2.heap[k]? = w.heap[k]?) : Sc.Toks base (ts ++ [t]) w2 v' no' := by
 have hl : xs.length = ts.length * 5 := ho.1
 refine ⟨xs ++ Rm.five t av, by rw [List.length_append]; exact hown, fun i u hi => ?_⟩
 by_cases hlt : i < ts.length
 ·
  rw [List.getElem?_append_left hlt] at hi
  obtain ⟨av1, x0, x1, x2, x3, x4, hl1⟩ := hx i u hi
  refine ⟨av1, ?_, ?_, ?_, ?_, ?_, hl1.on fun k hk => ?_⟩
  ·
   rw [List.getElem?_append_left (by omega)]; exact x0
  ·
   rw [List.getElem?_append_left (by omega)]; exact x1
  ·
   rw [List.getElem?_append_left (by omega)]; exact x2
  ·
   rw [List.getElem?_append_left (by omega)]; exact x3
  ·
   rw [List.getElem?_append_left (by omega)]; exact x4
  ·
   obtain ⟨h1, h2⟩ := hw k hk.1 hk.2.1 hk.2.2.1 hk.2.2.2
   exact ⟨⟨hk.1, by omega, h1.1, h1.2⟩, h2⟩
 ·
  have hi' : i = ts.length := by
   have := (List.getElem?_eq_some_iff.1 hi).1
   simp at this
   omega
  subst hi'
  have hu : u = t := by simpa using hi.symm
  subst hu
  refine ⟨av, ?_, ?_, ?_, ?_, ?_, hat⟩
  all_goals (rw [List.getElem?_append_right (by omega), hl])
  ·
   rw [Nat.sub_self]; rfl
  ·
   rw [show ts.length * 5 + 1 - ts.length * 5 = 1 by omega]; rfl
  ·
   rw [show ts.length * 5 + 2 - ts.length * 5 = 2 by omega]; rfl
  ·
   rw [show ts.length * 5 + 3 - ts.length * 5 = 3 by omega]; rfl
  ·
   rw [show ts.length * 5 + 4 - ts.length * 5 = 4 by omega]; rfl
theorem Sc.At.outPut {w w1 w4 : World} {g : Nat} {P : ByteArray} {x : Rf} {bv ov av ov' : Value} {t : Tk} (h : Sc.At w g P x bv ov av) (hq : Below w.heap.size w w1) (xs : List Value)
  (hx : w.ownsRow (g + 1) 84 5 ov x.out.length xs ∧ ∀ i t, x.out[i]? = some t → ∃ av', xs[i * 5]? = some (.int .i64 t.kind) ∧ xs[i * 5 + 1]? = some (.string t.name) ∧ xs[i * 5 + 2]? = some (.string t.text) ∧ xs[i * 5 + 3]? = some av' ∧ xs[i * 5 + 4]? = some (.bool t.self) ∧ Ak.Lies w (fun k => g + 1 ≤ k ∧ k < w.heap.size ∧ ov.ownBlock ≠ some k ∧ ¬ (bv.ownBlock = some k ∨ av.ownBlock = some k)) t.attrs av')
  (ht : t.attrs = []) (R4 : w4.ownsRow (g + 1) 84 5 ov' (x.out.length + 1) (xs ++ Rm.five t (.slice none 0 0))) (hg : w1.grownBy w4 ov.ownBlock) (hf : ov'.ownBlock = ov.ownBlock ∨ ov'.ownBlock = some w1.heap.size) :
  Sc.At (w4.setCell ⟨g, 10, none⟩ ov') g P { x with out := x.out ++ [t] } bv ov' av ∧ Sc.Kept w (w4.setCell ⟨g, 10, none⟩ ov') g bv ov av bv ov' av := by
 have hlt := h.lt
 have hgne : ov.ownBlock ≠ some g := fun e => by have := (h.ovLt e).1; omega
 have hold : ∀ k, k < w.heap.size → ov.ownBlock ≠ some k → ov'.ownBlock ≠ some k ∧ w4.heap[k]? = w.heap[k]? := fun k hk hv => ⟨fun e => by
  rcases hf with q | q
  ·
   rw [q] at e; exact hv e
  ·
   rw [q] at e; have := Option.some.inj e; have := hq.size; omega, (hg.block k (Nat.lt_of_lt_of_le hk hq.size) (fun e => hv e.symm)).trans (hq.block k hk)⟩
 have hne : ∀ k, g + 1 ≤ k → (w4.setCell ⟨g, 10, none⟩ ov').heap[k]? = w4.heap[k]? := fun k hk => Below.heap_setCell _ _ _ _ (by show k ≠ g; omega)
 have hsz : w.heap.size ≤ w4.heap.size := Nat.le_trans hq.size hg.size
 have hbv : ∀ k, bv.ownBlock = some k → k < w.heap.size ∧ ov.ownBlock ≠ some k := fun k hk => ⟨(h.buf.lt k hk).2, fun e => h.ob k e hk⟩
 have hav : ∀ k, av.ownBlock = some k → k < w.heap.size ∧ ov.ownBlock ≠ some k := fun k hk => ⟨(h.attrs.lt k hk).2, fun e => h.oa k e hk⟩
 have hT : Sc.Toks (g + 1) (x.out ++ [t]) w4 ov' (fun k => bv.ownBlock = some k ∨ av.ownBlock = some k) := by
  refine Sc.toksPush xs hx.1 hx.2 hsz R4 (by rw [ht]; exact Ak.Lies.nil _ _) (fun k _ h2 h3 h4 => ⟨⟨(hold k h2 h3).1, h4⟩, (hold k h2 h3).2⟩)
 obtain ⟨ys, hys, hyx⟩ := id hT
 refine ⟨⟨?_, ?_, ?_, ?_, ?_, ?_, h.ba⟩, ⟨hg.os.trans hq.os, hg.tape.trans hq.tape, hg.output.trans hq.output, by simpa using hsz, fun k hk hfr => ⟨?_, hfr.1, hfr.2.1, (hold k hk hfr.2.2.1).1, hfr.2.2.2⟩⟩⟩
 ·
  exact (h.box.on (hold g hlt hgne).2).set 10 ov' (by show 10 < 15; decide)
 ·
  exact Rm.own_on h.buf (fun k hk => (hne k (h.buf.lt k hk).1).trans (hold k (hbv k hk).1 (hbv k hk).2).2)
 ·
  exact hT.on (by simp) (fun k hk => hne k (hys.lt k hk).1) (fun k h1 _ _ h4 => ⟨h4, hne k h1⟩)
 ·
  exact Rm.own_on h.attrs (fun k hk => (hne k (h.attrs.lt k hk).1).trans (hold k (hav k hk).1 (hav k hk).2).2)
 ·
  intro k hk hk2
  exact (hold k (hbv k hk2).1 (hbv k hk2).2).1 hk
 ·
  intro k hk hk2
  exact (hold k (hav k hk2).1 (hav k hk2).2).1 hk
 ·
  rw [show (w4.setCell ⟨g, 10, none⟩ ov').heap[k]? = w4.heap[k]? from Below.heap_setCell _ _ _ _ hfr.1]
  exact (hold k hk hfr.2.2.1).2
theorem Sc.At.bufNil {w : World} {g : Nat} {P : ByteArray} {x : Rf} {bv ov av : Value} (h : Sc.At w g P x bv ov av) : Sc.At (w.setCell ⟨g, 8, none⟩ (.slice none 0 0)) g P { x with buf := [] } (.slice none 0 0) ov av ∧ Sc.Kept w (w.setCell ⟨g, 8, none⟩ (.slice none 0 0)) g bv ov av (.slice none 0 0) ov av := by
 have hne : ∀ k, g + 1 ≤ k → (w.setCell ⟨g, 8, none⟩ (.slice none 0 0)).heap[k]? = w.heap[k]? := fun k hk => Below.heap_setCell _ _ _ _ (by show k ≠ g; omega)
 refine ⟨⟨h.box.set 8 _ (by show 8 < 15; decide), World.ownsRow_nil _ _ _ _, ?_, Rm.own_on h.attrs (fun k hk => hne k (h.attrs.lt k hk).1), fun k _ e => (by cases e), h.oa, fun k e => (by cases e)⟩, ⟨rfl, rfl, rfl, by simp, fun k _ hfr => ⟨Below.heap_setCell _ _ _ _ hfr.1, hfr.1, (fun e => by cases e), hfr.2.2.1, hfr.2.2.2⟩⟩⟩
 exact h.out.on (by simp) (fun k hk => hne k (h.ovLt hk).1) (fun k h1 _ _ h4 => ⟨fun q => q.elim (fun q => nomatch q) (fun q => h4 (Or.inr q)), hne k h1⟩)
theorem Sc.five_cells (W : World) (k : Int) (n t : ByteArray) (b : Bool) (t' : Tk) (ht : t'.kind = k ∧ t'.name = n ∧ t'.text = t ∧ t'.self = b) : ∀ j u, (Rm.five t' (.slice none 0 0))[j]? = some u → (W.alloc (.cells #[.int .i64 k, .string n, .string t, .slice none 0 0, .bool b] 84)).cell? ⟨W.heap.size, j, none⟩ = some u := by
 obtain ⟨e1, e2, e3, e4⟩ := ht
 intro j u hj
 unfold World.cell?
 rw [show (W.alloc (.cells #[.int .i64 k, .string n, .string t, .slice none 0 0, .bool b] 84)).heap[W.heap.size]? = some _ from heap_alloc_new W _]
 simpa [Rm.five, e1, e2, e3, e4] using hj
theorem Sc.five_one (t : Tk) : ∀ u ∈ Rm.five t (.slice none 0 0), u.oneCell' = true := by
 intro u hu
 simp only [Rm.five, List.mem_cons, List.not_mem_nil, or_false] at hu
 rcases hu with e | e | e | e | e <;> (rw [e]; rfl)
set_option maxHeartbeats 4000000 in
theorem Sc.flush (P : ByteArray) (x : Rf) (w : World) (g : Nat) (bv ov av : Value) (h : Sc.At w g P x bv ov av) (hl : x.buf.length ≤ 65536) (ho : x.out.length ≤ 1000000) :
  Calls Tryz.prog 44 #[.pointer (some ⟨g, 0, none⟩)] w fun e w' => e = .returned (.tuple #[]) ∧ ∃ bv' ov', Sc.At w' g P x.flush bv' ov' av ∧ Sc.Kept w w' g bv ov av bv' ov' av := by
 by_cases hb : x.buf = []
 ·
  have HX : Hid (x.flush = x) := by unfold Hid Rf.flush; rw [if_pos hb]
  obtain ⟨ba, bd, rfl⟩ := Rm.form h.buf
  have c8 := h.box.cell 8 _ rfl
  have hz : x.buf.length = 0 := by rw [hb]; rfl
  rw [hz] at c8
  have HA := Lib.hid h
  clear h hl ho hb
  go_enter Tryz.func44, Tryz.ntmps44
  go_wp2
  refine bodyPost_ret (v := .tuple #[]) (by simp [results, Tryz.results44, go_sem]) rfl ⟨rfl, _, _, ?_, Sc.Kept.refl _ _ _ _ _⟩
  rw [HX.out]
  exact HA.out
 ·
  have hne : x.buf.length ≠ 0 := fun e => hb (List.eq_nil_of_length_eq_zero e)
  have t0 : ((x.buf.length : Int) == 0) = false := beq_eq_false_iff_ne.2 (by omega)
  obtain ⟨T, hT⟩ : ∃ T, Rf.txt x.buf x.raw = T := ⟨_, rfl⟩
  have HX : Hid (x.flush = { ({ x with out := x.out ++ [⟨0, Ts.e, T, [], false⟩] } : Rf) with buf := [] }) := by unfold Hid Rf.flush; rw [if_neg hb, hT]
  obtain ⟨ba, bd, rfl⟩ := Rm.form h.buf
  obtain ⟨xs, hx⟩ := id h.out
  obtain ⟨oa, od, rfl⟩ := Rm.form hx.1
  have c8 := h.box.cell 8 _ rfl
  have c9 := h.box.cell 9 _ rfl
  have c10 := h.box.cell 10 _ rfl
  have fz := h.box.fz
  have hlt := h.lt
  have hcv := Dm.conv h.buf
  have HA := Lib.hid h
  have HXS := Lib.hid hx
  have hdz : (⟨x.buf.toArray⟩ : ByteArray).size ≤ 65536 := by show (List.toArray _).size ≤ _; simpa using hl
  have hde := fun u => Rt.decode ⟨x.buf.toArray⟩ u (by omega)
  have HN : Hid (x.out.length + 1 ≤ maxLen ∧ (x.out.length + 1) * 72 ≤ 140737488355328) := ⟨by unfold maxLen; omega, by omega⟩
  cases hraw : x.raw with
  | true =>
   rw [hraw] at c9 hT
   have hT2 : (⟨x.buf.toArray⟩ : ByteArray) = T := hT
   rw [hT2] at hcv
   clear hde h hx hb hT hT2 hl ho
   go_enter Tryz.func44, Tryz.ntmps44
   go_wp2_with (at_builtin; refine Ro.push rfl _ _ 55 84 5 72 _ rfl Tryz.underlying55 Rm.infoT rfl (by decide) _ rfl (HXS.out.1.alloc _) w.heap.size (Rm.five ⟨0, Ts.e, T, [], false⟩ (.slice none 0 0)) rfl (Sc.five_cells w 0 ⟨#[]⟩ T false ⟨0, Ts.e, T, [], false⟩ ⟨rfl, rfl, rfl, rfl⟩) rfl (Sc.five_one _) HN.out.1 HN.out.2 (by simp; omega) ?_)
   intro v4 w4 R4 hg4 hf4
   obtain ⟨a4, d4, rfl⟩ := Rm.form R4
   have hq : Below w.heap.size w (w.alloc (.cells #[.int .i64 0, .string ⟨#[]⟩, .string T, .slice none 0 0, .bool false] 84)) := (Below.refl _ _).alloc (Nat.le_refl _) _
   obtain ⟨z1, z2⟩ := Sc.At.outPut (t := ⟨0, Ts.e, T, [], false⟩) HA.out hq xs HXS.out rfl R4 hg4 (by simpa using hf4)
   obtain ⟨y1, y2⟩ := z1.bufNil
   have B4 := HA.out.box.on (w' := w4) ((hg4.block g (Nat.lt_of_lt_of_le hlt hq.size) (fun e => by have := (HXS.out.1.lt g e.symm).1; omega)).trans (hq.block g hlt))
   have d8 := B4.cell 8 _ rfl
   have d10 := B4.cell 10 _ rfl
   have df := B4.fz
   have HY1 := Lib.hid y1
   have HK := Lib.hid (z2.trans y2)
   clear R4 hg4 hf4 hq z1 z2 y1 y2 B4 c8 c9 c10 fz
   go_wp2
   go_end0
   exact ⟨rfl, _, _, by rw [HX.out]; exact HY1.out, HK.out⟩
  | false =>
   rw [hraw] at c9 hT
   have hT2 : (⟨(Pl.decL x.buf).toArray⟩ : ByteArray) = T := hT
   have hde2 : ∀ u, Calls Tryz.prog 92 #[.string ⟨x.buf.toArray⟩] u fun e w' => e = .returned (.string T) ∧ Below u.heap.size u w' := fun u => by
    have := hde u
    rw [show Pl.decL (⟨x.buf.toArray⟩ : ByteArray).data.toList = Pl.decL x.buf from rfl, hT2] at this
    exact this
   generalize (⟨x.buf.toArray⟩ : ByteArray) = Q at *
   clear hde h hx hb hT hT2 hl ho
   go_enter Tryz.func44, Tryz.ntmps44
   go_wp2_with (first | (go_at_call 92; refine (hde2 _).mono ?_; rintro e w1 ⟨rfl, hb1⟩; have HB1 := Lib.hid hb1; have k10 := Tp.keep hb1 c10; have hs1 := hb1.size; have HO1 := Lib.hid (Rm.own_on HXS.out.1 (fun k hk => hb1.block k (HXS.out.1.lt k hk).2)); clear hb1 hde2) | (at_builtin; refine Ro.push rfl _ _ 55 84 5 72 _ rfl Tryz.underlying55 Rm.infoT rfl (by decide) _ rfl (HO1.out.alloc _) w1.heap.size (Rm.five ⟨0, Ts.e, T, [], false⟩ (.slice none 0 0)) rfl (Sc.five_cells w1 0 ⟨#[]⟩ T false ⟨0, Ts.e, T, [], false⟩ ⟨rfl, rfl, rfl, rfl⟩) rfl (Sc.five_one _) HN.out.1 HN.out.2 (by simp; omega) ?_))
   intro v4 w4 R4 hg4 hf4
   obtain ⟨a4, d4, rfl⟩ := Rm.form R4
   have hq : Below w.heap.size w (w1.alloc (.cells #[.int .i64 0, .string ⟨#[]⟩, .string T, .slice none 0 0, .bool false] 84)) := HB1.out.alloc HB1.out.size _
   obtain ⟨z1, z2⟩ := Sc.At.outPut (t := ⟨0, Ts.e, T, [], false⟩) HA.out hq xs HXS.out rfl R4 hg4 (by simpa using hf4)
   obtain ⟨y1, y2⟩ := z1.bufNil
   have B4 := HA.out.box.on (w' := w4) ((hg4.block g (Nat.lt_of_lt_of_le hlt hq.size) (fun e => by have := (HXS.out.1.lt g e.symm).1; omega)).trans (hq.block g hlt))
   have d8 := B4.cell 8 _ rfl
   have d10 := B4.cell 10 _ rfl
   have df := B4.fz
   have HY1 := Lib.hid y1
   have HK := Lib.hid (z2.trans y2)
   clear R4 hg4 hf4 hq z1 z2 y1 y2 B4 c8 c9 c10 fz
   go_wp2
   go_end0
   exact ⟨rfl, _, _, by rw [HX.out]; exact HY1.out, HK.out⟩
theorem Sc.At.attrPut {w w1 w4 : World} {g : Nat} {P : ByteArray} {x : Rf} {bv ov av av' : Value} {n v : ByteArray} (h : Sc.At w g P x bv ov av) (hq : Below w.heap.size w w1)
  (R4 : w4.ownsRow (g + 1) 50 2 av' (x.attrs.length + 1) (Ak.cells x.attrs ++ Ak.cells [(n, v)])) (hg : w1.grownBy w4 av.ownBlock) (hf : av'.ownBlock = av.ownBlock ∨ av'.ownBlock = some w1.heap.size) :
  Sc.At (w4.setCell ⟨g, 11, none⟩ av') g P { x with attrs := x.attrs ++ [(n, v)] } bv ov av' ∧ Sc.Kept w (w4.setCell ⟨g, 11, none⟩ av') g bv ov av bv ov av' := by
 have hlt := h.lt
 have hgne : av.ownBlock ≠ some g := fun e => by have := (h.attrs.lt g e).1; omega
 have hold : ∀ k, k < w.heap.size → av.ownBlock ≠ some k → av'.ownBlock ≠ some k ∧ w4.heap[k]? = w.heap[k]? := fun k hk hv => ⟨fun e => by
  rcases hf with q | q
  ·
   rw [q] at e; exact hv e
  ·
   rw [q] at e; have := Option.some.inj e; have := hq.size; omega, (hg.block k (Nat.lt_of_lt_of_le hk hq.size) (fun e => hv e.symm)).trans (hq.block k hk)⟩
 have hne : ∀ k, g + 1 ≤ k → (w4.setCell ⟨g, 11, none⟩ av').heap[k]? = w4.heap[k]? := fun k hk => Below.heap_setCell _ _ _ _ (by show k ≠ g; omega)
 have hsz : w.heap.size ≤ w4.heap.size := Nat.le_trans hq.size hg.size
 have hbv : ∀ k, bv.ownBlock = some k → k < w.heap.size ∧ av.ownBlock ≠ some k := fun k hk => ⟨(h.buf.lt k hk).2, h.ba k hk⟩
 have hov : ∀ k, ov.ownBlock = some k → k < w.heap.size ∧ av.ownBlock ≠ some k := fun k hk => ⟨(h.ovLt hk).2, h.oa k hk⟩
 refine ⟨⟨?_, ?_, ?_, ?_, h.ob, ?_, ?_⟩, ⟨hg.os.trans hq.os, hg.tape.trans hq.tape, hg.output.trans hq.output, by simpa using hsz, fun k hk hfr => ⟨?_, hfr.1, hfr.2.1, hfr.2.2.1, (hold k hk hfr.2.2.2).1⟩⟩⟩
 ·
  exact (h.box.on (hold g hlt hgne).2).set 11 av' (by show 11 < 15; decide)
 ·
  exact Rm.own_on h.buf (fun k hk => (hne k (h.buf.lt k hk).1).trans (hold k (hbv k hk).1 (hbv k hk).2).2)
 ·
  exact h.out.on (by simpa using hsz) (fun k hk => (hne k (h.ovLt hk).1).trans (hold k (hov k hk).1 (hov k hk).2).2) (fun k h1 h2 _ h4 => ⟨fun q => q.elim (fun q => h4 (Or.inl q)) (fun q => (hold k h2 (fun e => h4 (Or.inr e))).1 q), (hne k h1).trans (hold k h2 (fun e => h4 (Or.inr e))).2⟩)
 ·
  have := Rm.own_on R4 (w' := w4.setCell ⟨g, 11, none⟩ av') (fun k hk => hne k (R4.lt k hk).1)
  rw [← Ak.cells_append] at this
  simpa using this
 ·
  intro k hk
  exact (hold k (hov k hk).1 (hov k hk).2).1
 ·
  intro k hk
  exact (hold k (hbv k hk).1 (hbv k hk).2).1
 ·
  rw [show (w4.setCell ⟨g, 11, none⟩ av').heap[k]? = w4.heap[k]? from Below.heap_setCell _ _ _ _ hfr.1]
  exact (hold k hk hfr.2.2.2).2
theorem Sc.two_cells (W : World) (n v : ByteArray) (g1 : Nat) (h : g1 = W.heap.size) : ∀ j u, (Ak.cells [(n, v)])[j]? = some u → (W.alloc (.cells #[.string n, .string v] 50)).cell? ⟨g1, j, none⟩ = some u := by
 subst h
 intro j u hj
 unfold World.cell?
 rw [show (W.alloc (.cells #[.string n, .string v] 50)).heap[W.heap.size]? = some _ from heap_alloc_new W _]
 simpa [Ak.cells] using hj
theorem Sc.drewN (w : World) (n : Nat) : Below w.heap.size w (w.drewN n) := ⟨rfl, rfl, rfl, Nat.le_refl _, fun _ _ => rfl⟩
theorem Sc.drewN2 (w : World) (n m : Nat) : Below w.heap.size w ((w.drewN n).drewN m) := ⟨rfl, rfl, rfl, Nat.le_refl _, fun _ _ => rfl⟩
theorem Sc.undrew {V w1 : World} (h : Below V.drew.heap.size V.drew w1) : Below V.heap.size V w1 := ⟨h.os, h.tape, h.output, h.size, h.block⟩
theorem Sc.toList_ne {a b : ByteArray} (h : ¬ a = b) : (a.toList == b.toList) = false := by
 refine beq_eq_false_iff_ne.2 (fun e => h ?_)
 rw [ByteArray.toList_eq, ByteArray.toList_eq] at e
 apply ByteArray.ext
 exact Array.toList_inj.1 e
theorem Sc.any_true {l : List (ByteArray × ByteArray)} {n : ByteArray} {j : Nat} (hj : j < l.length) (h : l[j].1 = n) : l.any (fun a => decide (a.1 = n)) = true := List.any_eq_true.2 ⟨l[j], List.getElem_mem hj, decide_eq_true h⟩
theorem Sc.any_false {l : List (ByteArray × ByteArray)} {n : ByteArray} (h : ∀ i (hi : i < l.length), ¬ l[i].1 = n) : ¬ l.any (fun a => decide (a.1 = n)) = true := by
 intro q
 obtain ⟨y, hy, hz⟩ := List.any_eq_true.1 q
 obtain ⟨i, hi, rfl⟩ := List.getElem_of_mem hy
 exact h i hi (of_decide_eq_true hz)
set_option maxRecDepth 100000 in
set_option maxHeartbeats 8000000 in
theorem Sc.commit (P : ByteArray) (x : Rf) (w : World) (g : Nat) (bv ov av : Value) (h : Sc.At w g P x bv ov av) (hl : x.pv.size ≤ 65536) (ha : x.attrs.length ≤ 32) :
  Calls Tryz.prog 125 #[.pointer (some ⟨g, 0, none⟩)] w fun e w' => e = .returned (.tuple #[]) ∧ ∃ av', Sc.At w' g P x.commit bv ov av' ∧ Sc.Kept w w' g bv ov av bv ov av' := by
 cases hh : x.has with
 | false =>
  have HX : Hid (x.commit = x) := by unfold Hid Rf.commit; rw [if_neg (by rw [hh]; decide)]
  have c12 := h.box.cell 12 _ rfl
  rw [hh] at c12
  have HA := Lib.hid h
  clear h hl ha hh
  go_enter Tryz.func125, Tryz.ntmps125
  go_wp2
  refine bodyPost_ret (v := .tuple #[]) (by simp [results, Tryz.results125, go_sem]) rfl ⟨rfl, _, ?_, Sc.Kept.refl _ _ _ _ _⟩
  rw [HX.out]
  exact HA.out
 | true =>
  obtain ⟨aa, ad, rfl⟩ := Rm.form h.attrs
  have c12 := h.box.cell 12 _ rfl
  rw [hh] at c12
  have fz := h.box.fz
  have hA1 := h.set (x' := { x with has := false }) 12 (.bool false) (by decide) rfl rfl rfl rfl
  have hK1 := Sc.Kept.set w g 12 (.bool false) bv ov (.slice aa x.attrs.length ad)
  obtain ⟨W, hW⟩ : ∃ W, w.setCell ⟨g, 12, none⟩ (.bool false) = W := ⟨_, rfl⟩
  rw [hW] at hA1 hK1
  have e11 := hA1.box.cell 11 _ rfl
  have e13 := hA1.box.cell 13 _ rfl
  have e14 := hA1.box.cell 14 _ rfl
  have ef := hA1.box.fz
  have hlW := hA1.lt
  have hli := Ak.Lies.own hA1.attrs
  obtain ⟨aa', ad', eq1, l1, m1, x1⟩ := hli
  injection eq1 with q1 q2 q3
  subst q1 q3
  have X1 := Lib.hid x1
  have HA1 := Lib.hid hA1
  have HK1 := Lib.hid hK1
  have HH := Lib.hid hh
  have hde := fun u => Rt.decode x.pv u (by omega)
  clear h hA1 hK1 x1 q2 m1 hh
  have hm : x.attrs.length ≤ ad := l1
  go_enter Tryz.func125, Tryz.ntmps125
  go_wp2
  try rw [hW]
  clear hW c12 fz
  go_loopw [2] (fun i wr => ∃ j n : Nat, j ≤ x.attrs.length ∧ i = .int .i64 (j : Int) ∧ wr = W.drewN n ∧ Hid (∀ i (_ : i < j) (hi : i < x.attrs.length), ¬ x.attrs[i].1 = x.pn)) (fun i _ => x.attrs.length - (intOf i).toNat)
  case atStart => exact ⟨0, 0, Nat.zero_le _, rfl, rfl, fun i h => absurd h (Nat.not_lt_zero _)⟩
  case round =>
   obtain ⟨j, n, hj, rfl, rfl, HJ⟩ := hrel
   by_cases hlt : j < x.attrs.length
   ·
    obtain ⟨b1, o1, rfl, _, c1, c1'⟩ := X1.out j x.attrs[j] (List.getElem?_eq_getElem hlt)
    have hd1 : j < ad := by omega
    by_cases he : x.attrs[j].1 = x.pn
    ·
     have te : (x.attrs[j].1.toList == x.pn.toList) = true := by rw [he]; simp
     have HX : Hid (x.commit = { x with has := false }) := by unfold Hid Rf.commit; rw [if_pos HH.out, if_pos (Sc.any_true hlt he)]
     clear HJ he c1'
     generalize x.attrs[j].1 = y at *
     go_wp2_with fail
     go_quiet (fail)
     go_wp2
     refine bodyPost_ret (v := .tuple #[]) (by simp [results, Tryz.results125, go_sem]) rfl ⟨rfl, _, ?_, HK1.out.trans (Sc.Kept.of _ _ _ _ (Sc.drewN2 _ _ _))⟩
     rw [HX.out]
     exact HA1.out.on (Sc.drewN2 _ _ _)
    ·
     have te : (x.attrs[j].1.toList == x.pn.toList) = false := Sc.toList_ne he
     have HJ2 : Hid (∀ i (_ : i < j + 1) (hi : i < x.attrs.length), ¬ x.attrs[i].1 = x.pn) := fun i hi hl => by
      by_cases e : i = j
      ·
       subst e; exact he
      ·
       exact HJ.out i (by omega) hl
     clear HJ he c1'
     generalize x.attrs[j].1 = y at *
     go_wp2_with fail
     go_quiet (fail)
     go_wp2
     go_roundw
     case rel => exact ⟨j + 1, _, by omega, by go_num, rfl, HJ2⟩
     case measure => simp [intOf]; omega
   ·
    have hjl : j = x.attrs.length := by omega
    have hno := Sc.any_false (l := x.attrs) (n := x.pn) (fun i hi => HJ.out i (by omega) hi)
    by_cases h32 : x.attrs.length < 32
    ·
     have t32 : decide ((x.attrs.length : Int) < 32) = true := decide_eq_true (by omega)
     have HX : Hid (x.commit = { ({ x with has := false } : Rf) with attrs := x.attrs ++ [(x.pn, Rd.dec x.pv)] }) := by unfold Hid Rf.commit; rw [if_pos HH.out, if_neg hno, if_pos h32]
     have hde2 : ∀ u, Calls Tryz.prog 92 #[.string x.pv] u fun e w' => e = .returned (.string (Rd.dec x.pv)) ∧ Below u.heap.size u w' := hde
     have HN : Hid (x.attrs.length + 1 ≤ maxLen ∧ (x.attrs.length + 1) * 32 ≤ 140737488355328) := ⟨by unfold maxLen; omega, by omega⟩
     have HO := Lib.hid HA1.out.attrs
     generalize Rd.dec x.pv = D at *
     clear HJ hno hde hjl
     have HA2 := Lib.hid (HA1.out.on (Sc.drewN W n))
     have HK2 := Lib.hid (HK1.out.trans (Sc.Kept.of g bv ov (.slice aa x.attrs.length ad) (Sc.drewN W n)))
     go_wp2_with fail
     generalize W.drewN n = V at *
     have f11 := HA2.out.box.cell 11 _ rfl
     have f13 := HA2.out.box.cell 13 _ rfl
     have f14 := HA2.out.box.cell 14 _ rfl
     have ff := HA2.out.box.fz
     have hlV := HA2.out.lt
     clear e11 e13 e14 ef X1 HO HA1 HK1
     have HO := Lib.hid HA2.out.attrs
     go_region_law (first | (refine Ro.step_push rfl (.tmp 44) (.tmp 57) 46 50 2 32 _ rfl Tryz.underlying46 Rm.infoA rfl (by decide) (.slice aa x.attrs.length ad) (by rfl) (HO1.out.alloc _) w1.heap.size (Ak.cells [(x.pn, D)]) (by rfl) (Sc.two_cells _ x.pn D _ rfl) rfl (Ak.cells_one _) HN.out.1 HN.out.2 (by first | omega | (simp; omega)) ?_; intro v4 w4 R4 hg4 hf4; obtain ⟨a4, d4, rfl⟩ := Rm.form R4; have hq := HB1.out.alloc HB1.out.size (.cells #[.string x.pn, .string D] 50); obtain ⟨z1, z2⟩ := Sc.At.attrPut (n := x.pn) (v := D) HA2.out hq R4 hg4 (by simpa using hf4); have B4 := HA2.out.box.on (w' := w4) ((hg4.block g (Nat.lt_of_lt_of_le hlV hq.size) (fun e => by have := (HO.out.lt g e.symm).1; omega)).trans (hq.block g hlV)); have d11 := B4.cell 11 _ rfl; have df := B4.fz; have HZ := Lib.hid z1; have HZK := Lib.hid z2; clear R4 hg4 hf4 hq z1 z2 B4) | (rw [if_pos (by simp [Region.wanted])]; go_simp; go_at_call 92; refine (hde2 _).mono ?_; rintro e w1 ⟨rfl, hb1⟩; have hb1 := Sc.undrew hb1; have k11 := Tp.keep hb1 f11; have k13 := Tp.keep hb1 f13; have k14 := Tp.keep hb1 f14; have hs1 := hb1.size; have hg1 : g < w1.heap.size := Nat.lt_of_lt_of_le hlV hs1; have k11' : ∀ o, (w1.alloc o).cell? ⟨g, 11, none⟩ = some (.slice aa x.attrs.length ad) := fun o => (World.cell?_alloc_lt _ _ _ hg1).trans k11; have k13' : ∀ o, (w1.alloc o).cell? ⟨g, 13, none⟩ = some (.string x.pn) := fun o => (World.cell?_alloc_lt _ _ _ hg1).trans k13; have HO1 := Lib.hid (Rm.own_on HO.out (fun k hk => hb1.block k (HO.out.lt k hk).2)); have HB1 := Lib.hid hb1; clear hb1))
     all_goals go_wp2
     all_goals go_end0
     all_goals exact ⟨rfl, _, by rw [HX.out]; exact HZ.out, HK2.out.trans HZK.out⟩
    ·
     have t32 : decide ((x.attrs.length : Int) < 32) = false := decide_eq_false (by omega)
     have HX : Hid (x.commit = { x with has := false }) := by unfold Hid Rf.commit; rw [if_pos HH.out, if_neg hno, if_neg h32]
     clear HJ hno hde hjl
     go_wp2
     go_end0
     exact ⟨rfl, _, by rw [HX.out]; exact HA1.out.on (Sc.drewN _ _), HK1.out.trans (Sc.Kept.of _ _ _ _ (Sc.drewN _ _))⟩
theorem Sc.At.tagPut {w w1 w4 : World} {g : Nat} {P : ByteArray} {x : Rf} {bv ov av ov' tav : Value} {t : Tk} (h : Sc.At w g P x bv ov av) (hq : Below w.heap.size w w1) (xs : List Value)
  (hx : w.ownsRow (g + 1) 84 5 ov x.out.length xs ∧ ∀ i t, x.out[i]? = some t → ∃ av', xs[i * 5]? = some (.int .i64 t.kind) ∧ xs[i * 5 + 1]? = some (.string t.name) ∧ xs[i * 5 + 2]? = some (.string t.text) ∧ xs[i * 5 + 3]? = some av' ∧ xs[i * 5 + 4]? = some (.bool t.self) ∧ Ak.Lies w (fun k => g + 1 ≤ k ∧ k < w.heap.size ∧ ov.ownBlock ≠ some k ∧ ¬ (bv.ownBlock = some k ∨ av.ownBlock = some k)) t.attrs av')
  (hl : Ak.Lies w (fun k => av.ownBlock = some k) t.attrs tav) (R4 : w4.ownsRow (g + 1) 84 5 ov' (x.out.length + 1) (xs ++ Rm.five t tav)) (hg : w1.grownBy w4 ov.ownBlock) (hf : ov'.ownBlock = ov.ownBlock ∨ ov'.ownBlock = some w1.heap.size) :
  Sc.At ((w4.setCell ⟨g, 10, none⟩ ov').setCell ⟨g, 11, none⟩ (.slice none 0 0)) g P { x with out := x.out ++ [t], attrs := [] } bv ov' (.slice none 0 0) ∧ Sc.Kept w ((w4.setCell ⟨g, 10, none⟩ ov').setCell ⟨g, 11, none⟩ (.slice none 0 0)) g bv ov av bv ov' (.slice none 0 0) := by
 have hlt := h.lt
 have hgne : ov.ownBlock ≠ some g := fun e => by have := (h.ovLt e).1; omega
 have hold : ∀ k, k < w.heap.size → ov.ownBlock ≠ some k → ov'.ownBlock ≠ some k ∧ w4.heap[k]? = w.heap[k]? := fun k hk hv => ⟨fun e => by
  rcases hf with q | q
  ·
   rw [q] at e; exact hv e
  ·
   rw [q] at e; have := Option.some.inj e; have := hq.size; omega, (hg.block k (Nat.lt_of_lt_of_le hk hq.size) (fun e => hv e.symm)).trans (hq.block k hk)⟩
 have hne : ∀ k, k ≠ g → ((w4.setCell ⟨g, 10, none⟩ ov').setCell ⟨g, 11, none⟩ (.slice none 0 0)).heap[k]? = w4.heap[k]? := fun k hk => (Below.heap_setCell _ _ _ _ (by show k ≠ g; exact hk)).trans (Below.heap_setCell _ _ _ _ (by show k ≠ g; exact hk))
 have hsz : w.heap.size ≤ w4.heap.size := Nat.le_trans hq.size hg.size
 have hbv : ∀ k, bv.ownBlock = some k → k < w.heap.size ∧ ov.ownBlock ≠ some k := fun k hk => ⟨(h.buf.lt k hk).2, fun e => h.ob k e hk⟩
 have hav : ∀ k, av.ownBlock = some k → k < w.heap.size ∧ ov.ownBlock ≠ some k := fun k hk => ⟨(h.attrs.lt k hk).2, fun e => h.oa k e hk⟩
 have hT : Sc.Toks (g + 1) (x.out ++ [t]) w4 ov' (fun k => bv.ownBlock = some k ∨ (Value.slice none 0 0).ownBlock = some k) := by
  refine Sc.toksPush xs hx.1 hx.2 hsz R4 (hl.on fun k hk => ⟨⟨(h.attrs.lt k hk).1, Nat.lt_of_lt_of_le (hav k hk).1 hsz, (hold k (hav k hk).1 (hav k hk).2).1, fun q => q.elim (fun q => h.ba k q hk) (fun q => nomatch q)⟩, (hold k (hav k hk).1 (hav k hk).2).2⟩) (fun k _ h2 h3 h4 => ⟨⟨(hold k h2 h3).1, fun q => q.elim (fun q => h4 (Or.inl q)) (fun q => nomatch q)⟩, (hold k h2 h3).2⟩)
 obtain ⟨ys, hys, hyx⟩ := id hT
 refine ⟨⟨?_, ?_, ?_, World.ownsRow_nil _ _ _ _, ?_, fun k _ e => (by cases e), fun k _ e => (by cases e)⟩, ⟨hg.os.trans hq.os, hg.tape.trans hq.tape, hg.output.trans hq.output, by simpa using hsz, fun k hk hfr => ⟨(hne k hfr.1).trans (hold k hk hfr.2.2.1).2, hfr.1, hfr.2.1, (hold k hk hfr.2.2.1).1, (fun e => by cases e)⟩⟩⟩
 ·
  exact ((h.box.on (hold g hlt hgne).2).set 10 ov' (by show 10 < 15; decide)).set 11 (.slice none 0 0) (by show 11 < 15; decide)
 ·
  exact Rm.own_on h.buf (fun k hk => (hne k (by have := (h.buf.lt k hk).1; omega)).trans (hold k (hbv k hk).1 (hbv k hk).2).2)
 ·
  exact hT.on (by simp) (fun k hk => hne k (by have := (hys.lt k hk).1; omega)) (fun k h1 _ _ h4 => ⟨h4, hne k (by omega)⟩)
 ·
  intro k hk hk2
  exact (hold k (hbv k hk2).1 (hbv k hk2).2).1 hk
end Go.Proofs.YtblpkjlodncpeaaGreatDoor

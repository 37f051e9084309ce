/-
  THREE ROWS THAT GROW BY TURNS: tokens without attributes, and two rows of numbers.
-/
import Derived.Test.YthfobjkdcncoiaaUEndsAt
import Derived.Test.YthfobjkdcncoiaaUTs
namespace Go.Proofs.Ythfobjkdcncoiaa
open Go.RowKit
def Te.cells (ts : List Tk) : List Value := ts.flatMap fun t => Rm.five t (.slice none 0 0)
theorem Te.cells_snoc (ts : List Tk) (t : Tk) : Te.cells (ts ++ [t]) = Te.cells ts ++ Rm.five t (.slice none 0 0) := by
  unfold Te.cells
  rw [List.flatMap_append]
  simp
theorem Te.cells_at : ∀ (ts : List Tk) (i : Nat) (t : Tk) (r : Nat), r < 5 → ts[i]? = some t → (Te.cells ts)[i * 5 + r]? = (Rm.five t (.slice none 0 0))[r]?
  | [], i, t, r, _, h => by simp at h
  | u :: ts, 0, t, r, hr, h => by
    have : u = t := by simpa using h
    subst this
    show (Rm.five u _ ++ Te.cells ts)[0 * 5 + r]? = _
    rw [Nat.zero_mul, Nat.zero_add, List.getElem?_append_left (by show r < 5; exact hr)]
  | u :: ts, i + 1, t, r, hr, h => by
    have h : ts[i]? = some t := by simpa using h
    show (Rm.five u _ ++ Te.cells ts)[(i + 1) * 5 + r]? = _
    rw [List.getElem?_append_right (by show 5 ≤ _; omega), show (i + 1) * 5 + r - (Rm.five u (.slice none 0 0)).length = i * 5 + r by show _ - 5 = _; omega]
    exact Te.cells_at ts i t r hr h
theorem Te.toks {base : Nat} {ts : List Tk} {w : World} {v : Value} (h : w.ownsRow base 41 5 v ts.length (Te.cells ts)) (ha : ∀ t ∈ ts, t.attrs = []) : Rm.Toks base ts w v none := by
  refine ⟨_, h, fun i t hi => ⟨.slice none 0 0, ?_, ?_, ?_, ?_, ?_, ?_⟩⟩
  · exact Te.cells_at ts i t 0 (by decide) hi
  · exact Te.cells_at ts i t 1 (by decide) hi
  · exact Te.cells_at ts i t 2 (by decide) hi
  · exact Te.cells_at ts i t 3 (by decide) hi
  · exact Te.cells_at ts i t 4 (by decide) hi
  · rw [ha t (List.mem_of_getElem? hi)]; exact Ak.Lies.nil _ _
structure Te.Mem (base : Nat) (w : World) (tv ov av : Value) (ts : List Tk) (op wa : List Nat) : Prop where
  t : w.ownsRow base 41 5 tv ts.length (Te.cells ts)
  o : w.ownsRow base 3 1 ov op.length (Um.ints op)
  a : w.ownsRow base 3 1 av wa.length (Um.ints wa)
  tO : ∀ k, tv.ownBlock = some k → ov.ownBlock ≠ some k
  tA : ∀ k, tv.ownBlock = some k → av.ownBlock ≠ some k
  oA : ∀ k, ov.ownBlock = some k → av.ownBlock ≠ some k
theorem Te.Mem.nil (base : Nat) (w : World) : Te.Mem base w (.slice none 0 0) (.slice none 0 0) (.slice none 0 0) [] [] [] :=
  ⟨World.ownsRow_nil _ _ _ _, World.ownsRow_nil _ _ _ _, World.ownsRow_nil _ _ _ _, (fun _ h => nomatch h), (fun _ h => nomatch h), (fun _ h => nomatch h)⟩
theorem Te.Mem.on {base : Nat} {w w' : World} {tv ov av : Value} {ts : List Tk} {op wa : List Nat} (h : Te.Mem base w tv ov av ts op wa) (hq : Below w.heap.size w w') : Te.Mem base w' tv ov av ts op wa :=
  ⟨Rm.own_on h.t fun k hk => hq.block k (h.t.lt k hk).2, Rm.own_on h.o fun k hk => hq.block k (h.o.lt k hk).2, Rm.own_on h.a fun k hk => hq.block k (h.a.lt k hk).2, h.tO, h.tA, h.oA⟩
/-- one row has grown: what lies elsewhere -/
theorem Te.hold {w w1 w4 : World} {v v' : Value} {r : Option Nat} (hq : Below w.heap.size w w1) (hr : r = v.ownBlock ∨ ∃ k, r = some k ∧ w.heap.size ≤ k) (hg : w1.grownBy w4 r) (hf : v'.ownBlock = v.ownBlock ∨ ∃ k, v'.ownBlock = some k ∧ w.heap.size ≤ k) :
    ∀ k, k < w.heap.size → v.ownBlock ≠ some k → v'.ownBlock ≠ some k ∧ w4.heap[k]? = w.heap[k]? := fun k hk hv => ⟨(fun e => by
    rcases hf with q | ⟨k', q, hk'⟩
    · rw [q] at e; exact hv e
    · rw [q] at e; have := Option.some.inj e; omega), (hg.block k (Nat.lt_of_lt_of_le hk hq.size) (fun e => by
      rcases hr with q | ⟨k', q, hk'⟩
      · rw [q] at e; exact hv e.symm
      · rw [q] at e; have := Option.some.inj e; omega)).trans (hq.block k hk)⟩
theorem Te.Mem.pushT {base : Nat} {w w1 w4 : World} {tv tv' ov av : Value} {ts ts' : List Tk} {op wa : List Nat} (h : Te.Mem base w tv ov av ts op wa) {r : Option Nat} (hq : Below w.heap.size w w1) (hr : r = tv.ownBlock ∨ ∃ k, r = some k ∧ w.heap.size ≤ k) (hg : w1.grownBy w4 r) (hf : tv'.ownBlock = tv.ownBlock ∨ ∃ k, tv'.ownBlock = some k ∧ w.heap.size ≤ k)
    (R : w4.ownsRow base 41 5 tv' ts'.length (Te.cells ts')) : Te.Mem base w4 tv' ov av ts' op wa := by
  have ho := fun k (hk : ov.ownBlock = some k) => Te.hold hq hr hg hf k (h.o.lt k hk).2 (fun e => h.tO k e hk)
  have ha := fun k (hk : av.ownBlock = some k) => Te.hold hq hr hg hf k (h.a.lt k hk).2 (fun e => h.tA k e hk)
  exact ⟨R, Rm.own_on h.o fun k hk => (ho k hk).2, Rm.own_on h.a fun k hk => (ha k hk).2, fun k h1 h2 => (ho k h2).1 h1, fun k h1 h2 => (ha k h2).1 h1, h.oA⟩
theorem Te.Mem.pushO {base : Nat} {w w1 w4 : World} {tv ov ov' av : Value} {ts : List Tk} {op op' wa : List Nat} (h : Te.Mem base w tv ov av ts op wa) {r : Option Nat} (hq : Below w.heap.size w w1) (hr : r = ov.ownBlock ∨ ∃ k, r = some k ∧ w.heap.size ≤ k) (hg : w1.grownBy w4 r) (hf : ov'.ownBlock = ov.ownBlock ∨ ∃ k, ov'.ownBlock = some k ∧ w.heap.size ≤ k)
    (R : w4.ownsRow base 3 1 ov' op'.length (Um.ints op')) : Te.Mem base w4 tv ov' av ts op' wa := by
  have ht := fun k (hk : tv.ownBlock = some k) => Te.hold hq hr hg hf k (h.t.lt k hk).2 (fun e => h.tO k hk e)
  have ha := fun k (hk : av.ownBlock = some k) => Te.hold hq hr hg hf k (h.a.lt k hk).2 (fun e => h.oA k e hk)
  exact ⟨Rm.own_on h.t fun k hk => (ht k hk).2, R, Rm.own_on h.a fun k hk => (ha k hk).2, fun k h1 h2 => (ht k h1).1 h2, h.tA, fun k h1 h2 => (ha k h2).1 h1⟩
theorem Te.Mem.pushA {base : Nat} {w w1 w4 : World} {tv ov av av' : Value} {ts : List Tk} {op wa wa' : List Nat} (h : Te.Mem base w tv ov av ts op wa) {r : Option Nat} (hq : Below w.heap.size w w1) (hr : r = av.ownBlock ∨ ∃ k, r = some k ∧ w.heap.size ≤ k) (hg : w1.grownBy w4 r) (hf : av'.ownBlock = av.ownBlock ∨ ∃ k, av'.ownBlock = some k ∧ w.heap.size ≤ k)
    (R : w4.ownsRow base 3 1 av' wa'.length (Um.ints wa')) : Te.Mem base w4 tv ov av' ts op wa' := by
  have ht := fun k (hk : tv.ownBlock = some k) => Te.hold hq hr hg hf k (h.t.lt k hk).2 (fun e => h.tA k hk e)
  have ho := fun k (hk : ov.ownBlock = some k) => Te.hold hq hr hg hf k (h.o.lt k hk).2 (fun e => h.oA k hk e)
  exact ⟨Rm.own_on h.t fun k hk => (ht k hk).2, Rm.own_on h.o fun k hk => (ho k hk).2, R, h.tO, fun k h1 h2 => (ht k h1).1 h2, fun k h1 h2 => (ho k h1).1 h2⟩
/-- a number of a row, by its cell -/
theorem Te.int {base : Nat} {w : World} {l : List Nat} {a : Option Addr} {d : Nat} (h : w.ownsRow base 3 1 (.slice a l.length d) l.length (Um.ints l)) {j k : Nat} (hj : l[j]? = some k) : ∃ b, a = some ⟨b, 0, none⟩ ∧ w.cell? ⟨b, j, none⟩ = some (.int .i64 (k : Int)) ∧ l.length ≤ d := by
  have hl := (List.getElem?_eq_some_iff.1 hj).1
  obtain ⟨g, d', e, h1, h2⟩ := Um.form1 h (by omega)
  injection e with e1 e2 e3
  subst e1
  subst e3
  have := h.cells (g := g) rfl j _ (Um.ints_get hj)
  refine ⟨g, rfl, ?_, h1⟩
  by_cases q : j = 0
  · subst q; simpa [Addr.add] using this
  · simpa [Addr.add, q] using this
end Go.Proofs.Ythfobjkdcncoiaa

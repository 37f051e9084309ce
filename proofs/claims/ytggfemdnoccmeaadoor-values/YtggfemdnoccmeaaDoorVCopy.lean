/-
  THE WALK of the program's value.copied: a tree of its own.
-/
import Derived.Test.YtggfemdnoccmeaaDoorVOwn
import Derived.BigCall
import Derived.Deep.RegionWith
namespace Go.Proofs.YtggfemdnoccmeaaDoor
open Go.RowKit

theorem Vc.infoS : (Tryd.prog.info? 9).map (fun i => (i.zero, i.size, i.bytes)) = some (some (.string ⟨#[]⟩), 1, 16) := by kernel_rfl
theorem Vc.infoV : (Tryd.prog.info? 26).map (fun i => (i.zero, i.size, i.bytes)) = some (some (.agg #[.int .i64 0, .int .i64 0, .int .u64 0, .string ⟨#[]⟩, .slice none 0 0, .slice none 0 0]), 6, 88) := by kernel_rfl

theorem Vc.add (b o j : Nat) : (⟨b, o, none⟩ : Addr).add j = ⟨b, o + j, none⟩ := by unfold Addr.add; split <;> simp_all
theorem Vm.Box.frozen {w : World} {g : Nat} {v0 v1 v2 v3 v4 v5 : Value} (h : Vm.Box w g v0 v1 v2 v3 v4 v5) (i : Nat) : w.frozen? ⟨g, i, none⟩ = false := by
  unfold World.frozen?
  rw [h.all]
  simp
theorem Vm.Box.set4 {w : World} {g : Nat} {v0 v1 v2 v3 v4 v5 : Value} (h : Vm.Box w g v0 v1 v2 v3 v4 v5) (v : Value) : Vm.Box (w.setCell ⟨g, 4, none⟩ v) g v0 v1 v2 v3 v v5 := by
  refine ⟨?_⟩
  show (w.heap.modify g _)[g]? = _
  rw [Array.getElem?_modify, if_pos rfl, h.all]
  rfl
theorem Vm.Box.set5 {w : World} {g : Nat} {v0 v1 v2 v3 v4 v5 : Value} (h : Vm.Box w g v0 v1 v2 v3 v4 v5) (v : Value) : Vm.Box (w.setCell ⟨g, 5, none⟩ v) g v0 v1 v2 v3 v4 v := by
  refine ⟨?_⟩
  show (w.heap.modify g _)[g]? = _
  rw [Array.getElem?_modify, if_pos rfl, h.all]
  rfl
/-- nothing has turned but what block g holds -/
structure Vm.Wrote (g : Nat) (w w' : World) : Prop where
  os : w'.os = w.os
  tape : w'.tape = w.tape
  output : w'.output = w.output
  size : w'.heap.size = w.heap.size
  block : ∀ k, k ≠ g → w'.heap[k]? = w.heap[k]?
theorem Vm.Wrote.cell {g : Nat} {w w' : World} (h : Vm.Wrote g w w') (o : Nat) (v : Value) : Vm.Wrote g w (w'.setCell ⟨g, o, none⟩ v) :=
  ⟨h.os, h.tape, h.output, by rw [← h.size]; simp, fun k hk => by rw [Below.heap_setCell _ _ _ _ hk]; exact h.block k hk⟩
theorem Vm.Wrote.refl (g : Nat) (w : World) : Vm.Wrote g w w := ⟨rfl, rfl, rfl, rfl, fun _ _ => rfl⟩
theorem Vm.Wrote.below {g : Nat} {w w' : World} (h : Vm.Wrote g w w') {B : Nat} {a : World} (hb : Below B a w) (hg : B ≤ g) : Below B a w' :=
  ⟨h.os.trans hb.os, h.tape.trans hb.tape, h.output.trans hb.output, by rw [h.size]; exact hb.size, fun k hk => (h.block k (by omega)).trans (hb.block k hk)⟩
theorem Vm.set6 (w : World) (g o : Nat) (v0 v1 v2 v3 v4 v5 : Value) : Vm.Wrote g w ((((((w.setCell ⟨g, o, none⟩ v0).setCell ⟨g, o + 1, none⟩ v1).setCell ⟨g, o + 2, none⟩ v2).setCell ⟨g, o + 3, none⟩ v3).setCell ⟨g, o + 4, none⟩ v4).setCell ⟨g, o + 5, none⟩ v5) :=
  ((((((Vm.Wrote.refl g w).cell _ _).cell _ _).cell _ _).cell _ _).cell _ _).cell _ _
theorem Vm.setAt {w : World} {g : Nat} {cur : Array Value} {ty : TypeId} (h : w.heap[g]? = some (.cells cur ty)) (o : Nat) (v : Value) : (w.setCell ⟨g, o, none⟩ v).heap[g]? = some (.cells (cur.setIfInBounds o v) ty) := by
  show (w.heap.modify g _)[g]? = _
  rw [Array.getElem?_modify, if_pos rfl, h]
  rfl
theorem Vm.set6_row {w : World} {g : Nat} {cur : Array Value} {ty : TypeId} (h : w.heap[g]? = some (.cells cur ty)) (o : Nat) (v0 v1 v2 v3 v4 v5 : Value) :
    ((((((w.setCell ⟨g, o, none⟩ v0).setCell ⟨g, o + 1, none⟩ v1).setCell ⟨g, o + 2, none⟩ v2).setCell ⟨g, o + 3, none⟩ v3).setCell ⟨g, o + 4, none⟩ v4).setCell ⟨g, o + 5, none⟩ v5).heap[g]? = some (.cells ((((((cur.setIfInBounds o v0).setIfInBounds (o + 1) v1).setIfInBounds (o + 2) v2).setIfInBounds (o + 3) v3).setIfInBounds (o + 4) v4).setIfInBounds (o + 5) v5) ty) :=
  Vm.setAt (Vm.setAt (Vm.setAt (Vm.setAt (Vm.setAt (Vm.setAt h o v0) _ v1) _ v2) _ v3) _ v4) _ v5
/-- what a row of its own is -/
theorem Vc.row_form {w : World} {B : Nat} {e : TypeId} {size : Nat} {v : Value} {n : Nat} {xs : List Value} (h : w.ownsRow B e size v n xs) :
    ∃ a d, v = .slice a n d ∧ n ≤ d ∧ d ≤ maxLen ∧ (∀ g, a = some ⟨g, 0, none⟩ → B ≤ g) ∧ (0 < n → ∃ g cur, a = some ⟨g, 0, none⟩ ∧ B ≤ g ∧ g < w.heap.size ∧ w.heap[g]? = some (.cells cur e) ∧ cur.size = d * size ∧ ∀ (j : Nat) (u : Value), xs[j]? = some u → cur[j]? = some u) := by
  rcases h.2 with ⟨rfl, rfl⟩ | ⟨g, cap, cur, rfl, hg, hh, h1, h2, h3, h4⟩
  · exact ⟨none, 0, rfl, Nat.le_refl _, Nat.zero_le _, fun g e => (by cases e), fun h => absurd h (Nat.lt_irrefl _)⟩
  · refine ⟨some ⟨g, 0, none⟩, cap, rfl, h1, h2, fun g' e => (by cases e; exact hg), fun _ => ⟨g, cur, rfl, hg, ?_, hh, h3, fun j u hj => ?_⟩⟩
    · exact (Array.getElem?_eq_some_iff.1 hh).1
    · rw [← h4, List.getElem?_take] at hj
      split at hj
      · rw [← Array.getElem?_toList]; exact hj
      · cases hj
/-- no list of the tree is long -/
def Vt.tidy : Vt → Prop
  | .nil => True
  | .mk _ _ _ _ n it m _ => n ≤ 64 ∧ m ≤ 64 ∧ ∀ i, i < n → (it i).tidy

/-- the cells of a row of values -/
def Vc.news (w : World) (ai : Option Addr) (n : Nat) : List Value := (List.range (n * 6)).map fun j => ((ai.bind fun a => w.cell? (a.add j)).getD undef)

def Vc.texts (m : Nat) (ks : Nat → ByteArray) : List Value := (List.range m).map fun j => .string (ks j)
theorem Vc.texts_length (m : Nat) (ks : Nat → ByteArray) : (Vc.texts m ks).length = m * 1 := by simp [Vc.texts]
theorem Vc.texts_one (m : Nat) (ks : Nat → ByteArray) : ∀ u ∈ Vc.texts m ks, u.oneCell' = true := by
  intro u hu
  simp only [Vc.texts, List.mem_map] at hu
  obtain ⟨c, _, rfl⟩ := hu
  rfl
theorem Vc.texts_cell {w w' : World} {m : Nat} {ks : Nat → ByteArray} {ak : Option Addr} {d : Nat} (h : Vt.Keys w (· < w.heap.size) m ks ak d) (hw : Below w.heap.size w w') :
    ∀ j u, (Vc.texts m ks)[j]? = some u → ∃ ad, ak = some ad ∧ w'.cell? (ad.add j) = some u := by
  intro j u hj
  have hjm : j < m := by
    have := (List.getElem?_eq_some_iff.1 hj).1
    rw [Vc.texts_length] at this
    omega
  obtain ⟨g, o, e, hg, hc⟩ := h.cell j hjm
  refine ⟨_, e, ?_⟩
  rw [Vc.add]
  have : u = .string (ks j) := by
    simp [Vc.texts, hjm] at hj
    exact hj.symm
  rw [this]
  exact Vt.cell_on (hw.block g hg) hc

/-- n values lie behind ai -/
def Vc.Row (w : World) (R : Nat → Prop) (it : Nat → Vt) (n : Nat) (ai : Option Addr) : Prop :=
  ∀ i, i < n → ∃ bi oi v0 v1 v2 v3 v4 v5, ai = some ⟨bi, oi, none⟩ ∧ R bi ∧ w.cell? ⟨bi, oi + i * 6, none⟩ = some v0 ∧ w.cell? ⟨bi, oi + i * 6 + 1, none⟩ = some v1 ∧ w.cell? ⟨bi, oi + i * 6 + 2, none⟩ = some v2 ∧ w.cell? ⟨bi, oi + i * 6 + 3, none⟩ = some v3 ∧ w.cell? ⟨bi, oi + i * 6 + 4, none⟩ = some v4 ∧ w.cell? ⟨bi, oi + i * 6 + 5, none⟩ = some v5 ∧ (it i).Lies w R (.agg #[v0, v1, v2, v3, v4, v5])
theorem Vc.news_length (w : World) (ai : Option Addr) (n : Nat) : (Vc.news w ai n).length = n * 6 := by simp [Vc.news]
theorem Vc.news_at (w : World) (ai : Option Addr) (n j : Nat) (hj : j < n * 6) : (Vc.news w ai n)[j]? = some ((ai.bind fun a => w.cell? (a.add j)).getD undef) := by simp [Vc.news, hj]
/-- each cell of the row is a cell of one value, and of one cell -/
theorem Vc.Row.one {w : World} {R : Nat → Prop} {it : Nat → Vt} {n : Nat} {ai : Option Addr} (h : Vc.Row w R it n ai) (j : Nat) (hj : j < n * 6) :
    ∃ bi oi u, ai = some ⟨bi, oi, none⟩ ∧ R bi ∧ w.cell? ⟨bi, oi + j, none⟩ = some u ∧ u.oneCell' = true := by
  obtain ⟨bi, oi, v0, v1, v2, v3, v4, v5, e, r, c0, c1, c2, c3, c4, c5, hl⟩ := h (j / 6) (by omega)
  obtain ⟨k, x, b, s, ai', n', c, ak, m, d, rfl, rfl, rfl, rfl, rfl, rfl⟩ := hl.cells
  have hq : j % 6 = 0 ∨ j % 6 = 1 ∨ j % 6 = 2 ∨ j % 6 = 3 ∨ j % 6 = 4 ∨ j % 6 = 5 := by omega
  rcases hq with q | q | q | q | q | q
  · exact ⟨bi, oi, _, e, r, by rw [show oi + j = oi + j / 6 * 6 by omega]; exact c0, rfl⟩
  · exact ⟨bi, oi, _, e, r, by rw [show oi + j = oi + j / 6 * 6 + 1 by omega]; exact c1, rfl⟩
  · exact ⟨bi, oi, _, e, r, by rw [show oi + j = oi + j / 6 * 6 + 2 by omega]; exact c2, rfl⟩
  · exact ⟨bi, oi, _, e, r, by rw [show oi + j = oi + j / 6 * 6 + 3 by omega]; exact c3, rfl⟩
  · exact ⟨bi, oi, _, e, r, by rw [show oi + j = oi + j / 6 * 6 + 4 by omega]; exact c4, rfl⟩
  · exact ⟨bi, oi, _, e, r, by rw [show oi + j = oi + j / 6 * 6 + 5 by omega]; exact c5, rfl⟩
theorem Vc.news_one {w : World} {R : Nat → Prop} {it : Nat → Vt} {n : Nat} {ai : Option Addr} (h : Vc.Row w R it n ai) : ∀ u ∈ Vc.news w ai n, u.oneCell' = true := by
  intro u hu
  obtain ⟨j, hj, e⟩ := List.getElem_of_mem hu
  rw [Vc.news_length] at hj
  have := Vc.news_at w ai n j hj
  obtain ⟨bi, oi, u', e1, _, hc, ho⟩ := h.one j hj
  rw [List.getElem?_eq_getElem (by rw [Vc.news_length]; exact hj), e, e1] at this
  simp only [Option.bind_some, Vc.add, hc, Option.getD_some, Option.some.injEq] at this
  rw [this]
  exact ho
theorem Vc.news_cell {w w' : World} {it : Nat → Vt} {n : Nat} {ai : Option Addr} (h : Vc.Row w (· < w.heap.size) it n ai) (hw : Below w.heap.size w w') :
    ∀ j u, (Vc.news w ai n)[j]? = some u → ∃ ad, ai = some ad ∧ w'.cell? (ad.add j) = some u := by
  intro j u hj
  have hjm : j < n * 6 := by
    have := (List.getElem?_eq_some_iff.1 hj).1
    rwa [Vc.news_length] at this
  obtain ⟨bi, oi, u', e1, r, hc, _⟩ := h.one j hjm
  refine ⟨_, e1, ?_⟩
  rw [Vc.news_at w ai n j hjm, e1] at hj
  simp only [Option.bind_some, Vc.add, hc, Option.getD_some, Option.some.injEq] at hj
  rw [Vc.add, ← hj]
  exact Vt.cell_on (hw.block bi r) hc

theorem Vt.Lies.drew {w : World} {t : Vt} {v : Value} (h : t.Lies w (· < w.heap.size) v) : t.Lies w.drew (· < w.drew.heap.size) v := Vt.Lies.on (w := w) (w' := w.drew) (R := (· < w.heap.size)) (R' := (· < w.drew.heap.size)) (fun _ hg => ⟨hg, rfl⟩) h
theorem Vc.back {wr w3 : World} {X : Obj} (h : Below (wr.alloc X).drew.heap.size (wr.alloc X).drew w3) : ∀ q, q < wr.heap.size → w3.heap[q]? = wr.heap[q]? := by
  intro q hq
  have h1 := h.block q (by show q < (wr.alloc X).heap.size; simp; omega)
  have h2 : (wr.alloc X).drew.heap[q]? = (wr.alloc X).heap[q]? := rfl
  rw [h1, h2, Below.heap_alloc _ _ _ hq]
theorem Vt.Own.form {w : World} {lo hi : Nat} {t : Vt} {v : Value} (h : t.Own w lo hi v) : ∃ (k x : Int) (b : Nat) (s : ByteArray) (ai : Option Addr) (n c : Nat) (ak : Option Addr) (m d : Nat), v = .agg #[.int .i64 k, .int .i64 x, .int .u64 (b : Int), .string s, .slice ai n c, .slice ak m d] := by
  cases t with
  | nil => exact h.elim
  | mk k x b s n it m ks =>
    obtain ⟨ai, c, ak, d, mid, e, _⟩ := h
    exact ⟨k, x, b, s, ai, n, c, ak, m, d, e⟩
theorem Vc.row_frozen {w : World} {g : Nat} {cur : Array Value} {ty : TypeId} (h : w.heap[g]? = some (.cells cur ty)) (i : Nat) : w.frozen? ⟨g, i, none⟩ = false := by
  unfold World.frozen?
  rw [h]
  simp
/-- IN THE MIDST OF THE COPYING: j values of the row have become trees of their own; W: the world in which the loop began, w: the one in which the call did -/
structure Vc.Mid (w W wr : World) (a2 : Option Addr) (n : Nat) (it : Nat → Vt) (j : Nat) : Prop where
  os : wr.os = W.os
  tape : wr.tape = W.tape
  output : wr.output = W.output
  size : W.heap.size ≤ wr.heap.size
  block : ∀ g, g < W.heap.size → a2 ≠ some ⟨g, 0, none⟩ → wr.heap[g]? = W.heap[g]?
  row : 0 < n → ∃ g cur, ∃ A B : Nat → Nat, a2 = some ⟨g, 0, none⟩ ∧ w.heap.size ≤ g ∧ g < W.heap.size ∧ wr.heap[g]? = some (.cells cur 26) ∧
    (∀ i, j ≤ i → i < n → ∃ u0 u1 u2 u3 u4 u5, cur[i * 6]? = some u0 ∧ cur[i * 6 + 1]? = some u1 ∧ cur[i * 6 + 2]? = some u2 ∧ cur[i * 6 + 3]? = some u3 ∧ cur[i * 6 + 4]? = some u4 ∧ cur[i * 6 + 5]? = some u5 ∧ (it i).Lies w (· < w.heap.size) (.agg #[u0, u1, u2, u3, u4, u5])) ∧
    (∀ i, i < j → W.heap.size ≤ A i ∧ B i ≤ wr.heap.size ∧ ∃ u0 u1 u2 u3 u4 u5, cur[i * 6]? = some u0 ∧ cur[i * 6 + 1]? = some u1 ∧ cur[i * 6 + 2]? = some u2 ∧ cur[i * 6 + 3]? = some u3 ∧ cur[i * 6 + 4]? = some u4 ∧ cur[i * 6 + 5]? = some u5 ∧ (it i).Own wr (A i) (B i) (.agg #[u0, u1, u2, u3, u4, u5])) ∧
    ∀ i i', i < i' → i' < j → B i ≤ A i'

theorem Vc.Mid.below {w W wr : World} {a2 : Option Addr} {n : Nat} {it : Nat → Vt} {j : Nat} (h : Vc.Mid w W wr a2 n it j) (hW : Below w.heap.size w W) (ha : ∀ g, a2 = some ⟨g, 0, none⟩ → w.heap.size ≤ g) : Below w.heap.size w wr :=
  ⟨h.os.trans hW.os, h.tape.trans hW.tape, h.output.trans hW.output, Nat.le_trans hW.size h.size, fun g hg => (h.block g (Nat.lt_of_lt_of_le hg hW.size) (fun e => absurd (ha g e) (by omega))).trans (hW.block g hg)⟩


def Vc.six (cur : Array Value) (o : Nat) (v0 v1 v2 v3 v4 v5 : Value) : Array Value := (((((cur.setIfInBounds o v0).setIfInBounds (o + 1) v1).setIfInBounds (o + 2) v2).setIfInBounds (o + 3) v3).setIfInBounds (o + 4) v4).setIfInBounds (o + 5) v5
theorem Vc.six_out (cur : Array Value) (o : Nat) (v0 v1 v2 v3 v4 v5 : Value) (q : Nat) (h : q < o ∨ o + 6 ≤ q) : (Vc.six cur o v0 v1 v2 v3 v4 v5)[q]? = cur[q]? := by
  unfold Vc.six
  rw [Array.getElem?_setIfInBounds_ne (by omega), Array.getElem?_setIfInBounds_ne (by omega), Array.getElem?_setIfInBounds_ne (by omega), Array.getElem?_setIfInBounds_ne (by omega), Array.getElem?_setIfInBounds_ne (by omega), Array.getElem?_setIfInBounds_ne (by omega)]
theorem Vc.six_in (cur : Array Value) (o : Nat) (v0 v1 v2 v3 v4 v5 : Value) (h : o + 5 < cur.size) : (Vc.six cur o v0 v1 v2 v3 v4 v5)[o]? = some v0 ∧ (Vc.six cur o v0 v1 v2 v3 v4 v5)[o + 1]? = some v1 ∧ (Vc.six cur o v0 v1 v2 v3 v4 v5)[o + 2]? = some v2 ∧ (Vc.six cur o v0 v1 v2 v3 v4 v5)[o + 3]? = some v3 ∧ (Vc.six cur o v0 v1 v2 v3 v4 v5)[o + 4]? = some v4 ∧ (Vc.six cur o v0 v1 v2 v3 v4 v5)[o + 5]? = some v5 := by
  unfold Vc.six
  refine ⟨?_, ?_, ?_, ?_, ?_, ?_⟩
  · rw [Array.getElem?_setIfInBounds_ne (by omega), Array.getElem?_setIfInBounds_ne (by omega), Array.getElem?_setIfInBounds_ne (by omega), Array.getElem?_setIfInBounds_ne (by omega), Array.getElem?_setIfInBounds_ne (by omega), Array.getElem?_setIfInBounds_self_of_lt (by omega)]
  · rw [Array.getElem?_setIfInBounds_ne (by omega), Array.getElem?_setIfInBounds_ne (by omega), Array.getElem?_setIfInBounds_ne (by omega), Array.getElem?_setIfInBounds_ne (by omega), Array.getElem?_setIfInBounds_self_of_lt (by simp; omega)]
  · rw [Array.getElem?_setIfInBounds_ne (by omega), Array.getElem?_setIfInBounds_ne (by omega), Array.getElem?_setIfInBounds_ne (by omega), Array.getElem?_setIfInBounds_self_of_lt (by simp; omega)]
  · rw [Array.getElem?_setIfInBounds_ne (by omega), Array.getElem?_setIfInBounds_ne (by omega), Array.getElem?_setIfInBounds_self_of_lt (by simp; omega)]
  · rw [Array.getElem?_setIfInBounds_ne (by omega), Array.getElem?_setIfInBounds_self_of_lt (by simp; omega)]
  · rw [Array.getElem?_setIfInBounds_self_of_lt (by simp; omega)]

theorem Vc.Mid.step {w W wr w3 : World} {g n : Nat} {it : Nat → Vt} {j : Nat} {X : Obj} {v0 v1 v2 v3 v4 v5 : Value} (h : Vc.Mid w W wr (some ⟨g, 0, none⟩) n it j) (hj : j < n)
    (hown : (it j).Own w3 (wr.alloc X).drew.heap.size w3.heap.size (.agg #[v0, v1, v2, v3, v4, v5])) (hbw : Below (wr.alloc X).drew.heap.size (wr.alloc X).drew w3) :
    Vc.Mid w W ((((((w3.setCell ⟨g, j * 6, none⟩ v0).setCell ⟨g, j * 6 + 1, none⟩ v1).setCell ⟨g, j * 6 + 2, none⟩ v2).setCell ⟨g, j * 6 + 3, none⟩ v3).setCell ⟨g, j * 6 + 4, none⟩ v4).setCell ⟨g, j * 6 + 5, none⟩ v5) (some ⟨g, 0, none⟩) n it (j + 1) := by
  obtain ⟨g', cur, A, B, e, g1, g2, hg, htodo, hdone, hp⟩ := h.row (by omega)
  cases e
  have WR := Vm.set6 w3 g (j * 6) v0 v1 v2 v3 v4 v5
  have hback := Vc.back hbw
  have e2 : (wr.alloc X).drew.heap.size = wr.heap.size + 1 := by show (wr.alloc X).heap.size = _; simp
  have hs3 : wr.heap.size + 1 ≤ w3.heap.size := by have := hbw.size; omega
  have hsz := h.size
  have RR : _ = some (Obj.cells (Vc.six cur (j * 6) v0 v1 v2 v3 v4 v5) 26) := Vm.set6_row ((hback g (by omega)).trans hg) (j * 6) v0 v1 v2 v3 v4 v5
  generalize ((((((w3.setCell ⟨g, j * 6, none⟩ v0).setCell ⟨g, j * 6 + 1, none⟩ v1).setCell ⟨g, j * 6 + 2, none⟩ v2).setCell ⟨g, j * 6 + 3, none⟩ v3).setCell ⟨g, j * 6 + 4, none⟩ v4).setCell ⟨g, j * 6 + 5, none⟩ v5) = WF at *
  have hin : j * 6 + 5 < cur.size := by
    obtain ⟨u0, u1, u2, u3, u4, u5, _, _, _, _, _, y5, _⟩ := htodo j (Nat.le_refl _) hj
    exact (Array.getElem?_eq_some_iff.1 y5).1
  refine ⟨WR.os.trans (hbw.os.trans h.os), WR.tape.trans (hbw.tape.trans h.tape), WR.output.trans (hbw.output.trans h.output), by rw [WR.size]; omega, fun q hq hne => ?_, fun _ => ?_⟩
  · rw [WR.block q (fun e => hne (by rw [e])), hback q (by omega)]
    exact h.block q hq hne
  · refine ⟨g, Vc.six cur (j * 6) v0 v1 v2 v3 v4 v5, fun i => if i = j then wr.heap.size + 1 else A i, fun i => if i = j then w3.heap.size else B i, rfl, g1, g2, RR, fun i hi hin' => ?_, fun i hi => ?_, fun i i' hii hi' => ?_⟩
    · obtain ⟨u0, u1, u2, u3, u4, u5, y0, y1, y2, y3, y4, y5, hl⟩ := htodo i (by omega) hin'
      refine ⟨u0, u1, u2, u3, u4, u5, ?_, ?_, ?_, ?_, ?_, ?_, hl⟩
      all_goals rw [Vc.six_out _ _ _ _ _ _ _ _ _ (by omega)]
      all_goals assumption
    · by_cases hij : i = j
      · subst hij
        obtain ⟨q0, q1, q2, q3, q4, q5⟩ := Vc.six_in cur (i * 6) v0 v1 v2 v3 v4 v5 hin
        refine ⟨by dsimp only; rw [if_pos rfl]; omega, by dsimp only; rw [if_pos rfl, WR.size]; exact Nat.le_refl _, v0, v1, v2, v3, v4, v5, q0, q1, q2, q3, q4, q5, ?_⟩
        dsimp only
        rw [if_pos rfl, if_pos rfl, ← e2]
        exact hown.on fun q l1 l2 => WR.block q (by omega)
      · obtain ⟨a1, b1, u0, u1, u2, u3, u4, u5, y0, y1, y2, y3, y4, y5, ho⟩ := hdone i (by omega)
        refine ⟨by dsimp only; rw [if_neg hij]; exact a1, by dsimp only; rw [if_neg hij, WR.size]; omega, u0, u1, u2, u3, u4, u5, ?_, ?_, ?_, ?_, ?_, ?_, ?_⟩
        case refine_7 =>
          dsimp only
          rw [if_neg hij, if_neg hij]
          exact ho.on fun q l1 l2 => (WR.block q (by omega)).trans (hback q (by omega))
        all_goals rw [Vc.six_out _ _ _ _ _ _ _ _ _ (by omega)]
        all_goals assumption
    · dsimp only
      rw [if_neg (show ¬ i = j by omega)]
      by_cases hij : i' = j
      · rw [if_pos hij]
        obtain ⟨_, b1, _⟩ := hdone i (by omega)
        omega
      · rw [if_neg hij]
        exact hp i i' hii (by omega)

set_option maxRecDepth 100000 in
set_option maxHeartbeats 4000000 in
theorem Vc.copied : ∀ (t : Vt), t.tidy → ∀ (v : Value) (w : World), t.Lies w (· < w.heap.size) v → Calls Tryd.prog 32 #[v] w fun e w' => ∃ v', e = .returned v' ∧ t.Own w' w.heap.size w'.heap.size v' ∧ Below w.heap.size w w' := by
  intro t
  induction t with
  | nil => intro _ v w h; exact h.elim
  | mk k x b s n it m ks ih =>
    intro ht v w h
    have H := Lib.hid h
    obtain ⟨ai, c, ak, d, rfl, hb, hn, hc, hk, hi⟩ := h
    obtain ⟨ht1, ht2, ht3⟩ := ht
    have HI : Hid (∀ i, (it i).tidy → ∀ (v : Value) (w : World), (it i).Lies w (· < w.heap.size) v → Calls Tryd.prog 32 #[v] w fun e w' => ∃ v', e = .returned v' ∧ (it i).Own w' w.heap.size w'.heap.size v' ∧ Below w.heap.size w w') := ih
    have HK := Lib.hid hk
    have HT3 := Lib.hid ht3
    clear ih hk hi ht3
    obtain ⟨iS, hiS, hzS, hsS, hbS⟩ := info_parts Vc.infoS
    obtain ⟨iV, hiV, hzV, hsV, hbV⟩ := info_parts Vc.infoV
    have hmk : ∀ o o', Hid (∀ j u, (Vc.texts m ks)[j]? = some u → ∃ ad, ak = some ad ∧ ((w.alloc o).alloc o').cell? (ad.add j) = some u) := fun o o' => Vc.texts_cell HK.out (((Below.refl _ _).alloc (Nat.le_refl _) o).alloc (by simp) o')
    go_enter Tryd.func32, Tryd.ntmps32
    go_wp2_with (at_builtin; refine Vc.append rfl _ _ 24 rfl (w.heap.size + 2) 9 iS _ 1 16 Tryd.underlying24 hiS hzS hsS hbS rfl (by decide) rfl ak m d (Vc.texts m ks) rfl (Vc.texts_length m ks) (hmk _ _).out (Vc.texts_one m ks) (by unfold maxLen; omega) (by omega) (by simp) ?_)
    intro v1 w1 hown1 hgr1
    obtain ⟨a1, d1, rfl, hd1, hd1', _, hrow1⟩ := Vc.row_form hown1
    have hb1 : Below w.heap.size w w1 := Vm.behind2 ((Below.refl _ _).grown hgr1 (Nat.le_refl _) (fun k hk => by cases hk))
    have X1 := (Below.refl _ _).grown hgr1 (Nat.le_refl _) (fun k hk => by cases hk)
    have B1 := Vm.box (Vm.behind X1)
    have R1 : w1.heap[w.heap.size + 1]? = some (.cells #[.int .i64 0, .int .i64 0, .int .u64 0, .string ⟨#[]⟩, .slice none 0 0, .slice none 0 0] 26) := by
      have := Vm.boxed X1
      simpa using this
    have hs1 : w.heap.size + 2 ≤ w1.heap.size := by have := hgr1.size; simp at this; omega
    obtain ⟨c0, c1, c2, c3, c4, c5⟩ := B1.cells
    have f5 := B1.frozen 5
    have HR1 := Lib.hid hrow1
    have HB1 := Lib.hid B1
    clear hown1 hgr1 X1 B1 hrow1 hmk
    have hmv : Hid (∀ j u, (Vc.news w ai n)[j]? = some u → ∃ ad, ai = some ad ∧ (w1.setCell ⟨w.heap.size, 5, none⟩ (.slice a1 m d1)).cell? (ad.add j) = some u) := Vc.news_cell (H.out.keys).2.2 (hb1.setCell (by simp) _)
    go_wp2_with (at_builtin; refine Vc.append rfl _ _ 23 rfl w1.heap.size 26 iV _ 6 88 Tryd.underlying23 hiV hzV hsV hbV rfl (by decide) rfl ai n c (Vc.news w ai n) rfl (Vc.news_length w ai n) hmv.out (Vc.news_one (H.out.keys).2.2) (by unfold maxLen; omega) (by omega) (by simp) ?_)
    intro v2 w2 hown2 hgr2
    obtain ⟨a2, d2, rfl, hd2, hd2', hA2, hrow2⟩ := Vc.row_form hown2
    have X2 : Below w1.heap.size (w1.setCell ⟨w.heap.size, 5, none⟩ (.slice a1 m d1)) w2 := by
      have := (Below.refl w1.heap.size (w1.setCell ⟨w.heap.size, 5, none⟩ (.slice a1 m d1))).grown hgr2 (by simp) (fun k hk => by cases hk)
      exact this
    have B2 : Vm.Box w2 w.heap.size (.int .i64 k) (.int .i64 x) (.int .u64 (b : Int)) (.string s) (.slice ai n c) (.slice a1 m d1) := ⟨(X2.block _ (by omega)).trans (HB1.out.set5 _).all⟩
    have R2 : w2.heap[w.heap.size + 1]? = some (.cells #[.int .i64 0, .int .i64 0, .int .u64 0, .string ⟨#[]⟩, .slice none 0 0, .slice none 0 0] 26) := by
      rw [X2.block _ (by omega), Below.heap_setCell _ _ _ _ (by simp)]
      exact R1
    have hs2 : w1.heap.size ≤ w2.heap.size := by have := X2.size; simpa using this
    have hb2 : Below w.heap.size w w2 := (hb1.setCell (p := ⟨w.heap.size, 5, none⟩) (by simp) _).trans (X2.mono (by omega))
    clear c0 c1 c2 c3 c4 c5
    obtain ⟨c0, c1, c2, c3, c4, c5⟩ := B2.cells
    have f4 := B2.frozen 4
    have HR2 := Lib.hid hrow2
    have HB2 := Lib.hid B2
    have HX2 := Lib.hid X2
    have HRV := Lib.hid R2
    have HA2 := Lib.hid hA2
    clear hown2 hgr2 X2 B2 hrow2 hmv R1 R2 hA2
    go_wp2_with fail
    have BW := HB2.out.set4 (.slice a2 n d2)
    have RW : (w2.setCell ⟨w.heap.size, 4, none⟩ (.slice a2 n d2)).heap[w.heap.size + 1]? = some (.cells #[.int .i64 0, .int .i64 0, .int .u64 0, .string ⟨#[]⟩, .slice none 0 0, .slice none 0 0] 26) := by
      rw [Below.heap_setCell _ _ _ _ (by simp)]
      exact HRV.out
    have hbW : Below w.heap.size w (w2.setCell ⟨w.heap.size, 4, none⟩ (.slice a2 n d2)) := hb2.setCell (by simp) _
    have hsW : (w2.setCell ⟨w.heap.size, 4, none⟩ (.slice a2 n d2)).heap.size = w2.heap.size := by simp
    have KW : 0 < m → ∃ g cur, a1 = some ⟨g, 0, none⟩ ∧ w.heap.size + 2 ≤ g ∧ g < w1.heap.size ∧ (w2.setCell ⟨w.heap.size, 4, none⟩ (.slice a2 n d2)).heap[g]? = some (.cells cur 9) ∧ ∀ j, j < m → cur[j]? = some (.string (ks j)) := by
      intro hm
      obtain ⟨g, cur, e, g1, g2, hg, _, hj⟩ := HR1.out hm
      refine ⟨g, cur, e, g1, g2, ?_, fun j hjm => hj j _ (by simp [Vc.texts, hjm])⟩
      rw [Below.heap_setCell _ _ _ _ (by simp; omega), HX2.out.block g g2, Below.heap_setCell _ _ _ _ (by simp; omega)]
      exact hg
    have M0 : Vc.Mid w (w2.setCell ⟨w.heap.size, 4, none⟩ (.slice a2 n d2)) (w2.setCell ⟨w.heap.size, 4, none⟩ (.slice a2 n d2)) a2 n it 0 := by
      refine ⟨rfl, rfl, rfl, Nat.le_refl _, fun _ _ _ => rfl, fun hn0 => ?_⟩
      obtain ⟨g, cur, e, g1, g2, hg, _, hj⟩ := HR2.out hn0
      refine ⟨g, cur, fun _ => 0, fun _ => 0, e, by omega, by rw [hsW]; exact g2, ?_, fun i _ hin => ?_, fun i hi0 => absurd hi0 (by omega), fun i i' _ hi0 => absurd hi0 (by omega)⟩
      · rw [Below.heap_setCell _ _ _ _ (by simp; omega)]
        exact hg
      · obtain ⟨bi, oi, v0, v1, v2, v3, v4, v5, e2, r, q0, q1, q2, q3, q4, q5, hl⟩ := (H.out.keys).2.2 i hin
        have key : ∀ q u, q < n * 6 → w.cell? ⟨bi, oi + q, none⟩ = some u → cur[q]? = some u := by
          intro q u hq hc
          refine hj q u ?_
          rw [Vc.news_at w ai n q hq, e2]
          simp [Vc.add, hc]
        exact ⟨v0, v1, v2, v3, v4, v5, key _ _ (by omega) (by rw [← q0]), key _ _ (by omega) (by rw [← q1]; rfl), key _ _ (by omega) (by rw [← q2]; rfl), key _ _ (by omega) (by rw [← q3]; rfl), key _ _ (by omega) (by rw [← q4]; rfl), key _ _ (by omega) (by rw [← q5]; rfl), hl⟩
    clear c0 c1 c2 c3 c4 c5 f4 f5
    clear HR1 HR2 HB1 HB2 HX2 HRV hb2 hb1
    generalize w2.setCell ⟨w.heap.size, 4, none⟩ (.slice a2 n d2) = W at *
    obtain ⟨c0, c1, c2, c3, c4, c5⟩ := BW.cells
    have HKW := Lib.hid KW
    have HBW := Lib.hid BW
    have HRW := Lib.hid RW
    clear KW BW RW
    go_loopw [16] (fun ix wr => ∃ j : Nat, j ≤ n ∧ ix = .int .i64 j ∧ Vc.Mid w W wr a2 n it j) (fun ix _ => n - (intOf ix).toNat)
    case atStart => exact ⟨0, Nat.zero_le _, by go_num, M0⟩
    case round =>
      obtain ⟨j, hjn, rfl, hM⟩ := hrel
      clear M0 c0 c1 c2 c3 c4 c5
      have hbr : Below w.heap.size w wr := hM.below hbW (fun g e => by have := HA2.out g e; omega)
      have BR : Vm.Box wr w.heap.size (.int .i64 k) (.int .i64 x) (.int .u64 (b : Int)) (.string s) (.slice a2 n d2) (.slice a1 m d1) := ⟨(hM.block _ (by omega) (fun e => by have := HA2.out _ e; omega)).trans HBW.out.all⟩
      have RR : Vm.Box wr (w.heap.size + 1) (.int .i64 0) (.int .i64 0) (.int .u64 0) (.string ⟨#[]⟩) (.slice none 0 0) (.slice none 0 0) := ⟨(hM.block _ (by omega) (fun e => by have := HA2.out _ e; omega)).trans HRW.out⟩
      obtain ⟨c0, c1, c2, c3, c4, c5⟩ := BR.cells
      by_cases hlt : j < n
      · obtain ⟨g, cur, A, B, rfl, g1, g2, hg, htodo, hdone, hp⟩ := hM.row (by omega)
        obtain ⟨v0, v1, v2, v3, v4, v5, y0, y1, y2, y3, y4, y5, hli⟩ := htodo j (Nat.le_refl _) hlt
        obtain ⟨k', x', b', s', ai', n', c', ak', m', d', rfl, rfl, rfl, rfl, rfl, rfl⟩ := hli.cells
        have hgw := HA2.out g rfl
        have hgl : g < wr.heap.size := by have := hM.size; omega
        have hjd : j < d2 := by omega
        have z0 := Vm.boxCell hg _ y0
        have z1 := Vm.boxCell hg _ y1
        have z2 := Vm.boxCell hg _ y2
        have z3 := Vm.boxCell hg _ y3
        have z4 := Vm.boxCell hg _ y4
        have z5 := Vm.boxCell hg _ y5
        have HY : Hid (cur[j * 6]? = some (.int .i64 k') ∧ cur[j * 6 + 1]? = some (.int .i64 x') ∧ cur[j * 6 + 2]? = some (.int .u64 (b' : Int)) ∧ cur[j * 6 + 3]? = some (.string s') ∧ cur[j * 6 + 4]? = some (.slice ai' n' c') ∧ cur[j * 6 + 5]? = some (.slice ak' m' d')) := ⟨y0, y1, y2, y3, y4, y5⟩
        have HLI := Lib.hid (hli.on' hbr)
        have HTJ := Lib.hid (HT3.out j hlt)
        have HG := Lib.hid hg
        have HTO := Lib.hid htodo
        have HDO := Lib.hid hdone
        have HP := Lib.hid hp
        have HBR := Lib.hid BR
        have HM := Lib.hid hM
        clear y0 y1 y2 y3 y4 y5 hli hg htodo hdone hp BR RR hM
        go_wp2_with fail
        clear z0 z1 z2 z3 z4 z5
        have c4' := Vt.cell_alloc c4
        have HLX : ∀ o, Hid ((it j).Lies (wr.alloc o).drew (· < (wr.alloc o).drew.heap.size) (.agg #[.int .i64 k', .int .i64 x', .int .u64 (b' : Int), .string s', .slice ai' n' c', .slice ak' m' d'])) := fun o => Lib.hid (HLI.out.alloc o).drew
        clear c0 c1 c2 c3 c5
        go_region_with (go_at_call 32; refine (HI.out j HTJ.out _ _ ?_).mono ?_; exact (HLX _).out; rintro e w3 ⟨v', rfl, hown, hbw⟩; obtain ⟨k3, x3, b3, s3, ai3, n3, e3, ak3, m3, d3, rfl⟩ := hown.form; have hsame := Vc.back hbw; have hgr : w3.heap[g]? = some (.cells cur 26) := (hsame g hgl).trans HG.out; have z0 := Vm.boxCell hgr _ HY.out.1; have z1 := Vm.boxCell hgr _ HY.out.2.1; have z2 := Vm.boxCell hgr _ HY.out.2.2.1; have z3 := Vm.boxCell hgr _ HY.out.2.2.2.1; have z4 := Vm.boxCell hgr _ HY.out.2.2.2.2.1; have z5 := Vm.boxCell hgr _ HY.out.2.2.2.2.2; have zf := Vc.row_frozen hgr; have c4'' := Vt.cell_on (hsame w.heap.size (Vt.cell_lt c4)) c4; have HSM := Lib.hid hsame; have HOWN := Lib.hid hown; have HBW := Lib.hid hbw; have HGR := Lib.hid hgr; clear hsame hown hbw hgr)
        all_goals go_wp2
        all_goals refine ⟨⟨j + 1, hlt, by go_num, HM.out.step hlt HOWN.out HBW.out⟩, ?_⟩
        all_goals simp [intOf]
        all_goals omega
      · have e : j = n := by omega
        subst e
        obtain ⟨r0, r1, r2, r3, r4, r5⟩ := RR.cells
        have f0 := RR.frozen
        have HRR := Lib.hid RR
        clear BR RR
        go_wp2
        have WR := Vm.set6 wr (w.heap.size + 1) 0 (.int .i64 k) (.int .i64 x) (.int .u64 (b : Int)) (.string s) (.slice a2 j d2) (.slice a1 m d1)
        have BX : Vm.Box _ (w.heap.size + 1) (.int .i64 k) (.int .i64 x) (.int .u64 (b : Int)) (.string s) (.slice a2 j d2) (.slice a1 m d1) := ⟨Vm.set6_row HRR.out.all 0 (.int .i64 k) (.int .i64 x) (.int .u64 (b : Int)) (.string s) (.slice a2 j d2) (.slice a1 m d1)⟩
        simp only [Nat.zero_add] at WR BX
        generalize ((((((wr.setCell ⟨w.heap.size + 1, 0, none⟩ (.int .i64 k)).setCell ⟨w.heap.size + 1, 1, none⟩ (.int .i64 x)).setCell ⟨w.heap.size + 1, 2, none⟩ (.int .u64 (b : Int))).setCell ⟨w.heap.size + 1, 3, none⟩ (.string s)).setCell ⟨w.heap.size + 1, 4, none⟩ (.slice a2 j d2)).setCell ⟨w.heap.size + 1, 5, none⟩ (.slice a1 m d1)) = WF at *
        obtain ⟨q0, q1, q2, q3, q4, q5⟩ := BX.cells
        refine bodyPost_ret (v := .agg #[.int .i64 k, .int .i64 x, .int .u64 (b : Int), .string s, .slice a2 j d2, .slice a1 m d1]) (by simp [results, Tryd.results32, go_sem, q0, q1, q2, q3, q4, q5]) rfl ?_
        refine ⟨_, rfl, ?_, WR.below hbr (by omega)⟩
        refine ⟨a2, d2, a1, d1, w1.heap.size, rfl, hb, ⟨hd1, hd1'⟩, ⟨hd2, hd2'⟩, by omega, by have := WR.size; have := hM.size; omega, fun hm => ?_, fun hn0 => ?_⟩
        · obtain ⟨g, cur, e, g1, g2, hg, hj⟩ := HKW.out hm
          refine ⟨g, cur, e, by omega, g2, ?_, hj⟩
          rw [WR.block g (by omega), hM.block g (by omega) (fun e' => by have := HA2.out g e'; omega)]
          exact hg
        · obtain ⟨g, cur, A, B, e, g1, g2, hg, _, hdone, hp⟩ := hM.row hn0
          have := HA2.out g e
          refine ⟨g, cur, A, B, e, by omega, by have := WR.size; have := hM.size; omega, (WR.block g (by omega)).trans hg, fun i hin => ?_, hp⟩
          obtain ⟨a1', b1', u0, u1, u2, u3, u4, u5, y0, y1, y2, y3, y4, y5, ho⟩ := hdone i hin
          refine ⟨by omega, by rw [WR.size]; exact b1', u0, u1, u2, u3, u4, u5, y0, y1, y2, y3, y4, y5, ho.on fun g' l1 l2 => WR.block g' (by omega)⟩
end Go.Proofs.YtggfemdnoccmeaaDoor

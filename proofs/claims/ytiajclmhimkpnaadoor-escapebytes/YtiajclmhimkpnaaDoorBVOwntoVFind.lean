/-
  A TREE IN MEMORY OF ITS OWN, and the law of 'append(nil, xs...)'.
-/
import Derived.Test.YtiajclmhimkpnaaDoorBVLesstoVAlike
import Derived.Laws.AppendOwn
import Derived.BigCall
import Derived.Deep.RegionWith
namespace Go.Proofs.YtiajclmhimkpnaaDoor
open Go.RowKit

/-- the tree lies in blocks from lo on, below hi, each part in blocks of its own -/
def Vt.Own (w : World) : Vt → Nat → Nat → Value → Prop
  | .nil, _, _, _ => False
  | .mk k x b s n it m ks, lo, hi, v => ∃ ai c ak d mid, v = .agg #[.int .i64 k, .int .i64 x, .int .u64 (b : Int), .string s, .slice ai n c, .slice ak m d] ∧ b < 18446744073709551616 ∧ (m ≤ d ∧ d ≤ maxLen) ∧ (n ≤ c ∧ c ≤ maxLen) ∧ lo ≤ mid ∧ mid ≤ hi ∧
    (0 < m → ∃ g cur, ak = some ⟨g, 0, none⟩ ∧ lo ≤ g ∧ g < mid ∧ w.heap[g]? = some (.cells cur 9) ∧ ∀ j, j < m → cur[j]? = some (.string (ks j))) ∧
    (0 < n → ∃ g cur, ∃ A B : Nat → Nat, ai = some ⟨g, 0, none⟩ ∧ mid ≤ g ∧ g < hi ∧ w.heap[g]? = some (.cells cur 29) ∧
      (∀ i, i < n → g < A i ∧ B i ≤ hi ∧ ∃ u0 u1 u2 u3 u4 u5, cur[i * 6]? = some u0 ∧ cur[i * 6 + 1]? = some u1 ∧ cur[i * 6 + 2]? = some u2 ∧ cur[i * 6 + 3]? = some u3 ∧ cur[i * 6 + 4]? = some u4 ∧ cur[i * 6 + 5]? = some u5 ∧ (it i).Own w (A i) (B i) (.agg #[u0, u1, u2, u3, u4, u5])) ∧
      ∀ i i', i < i' → i' < n → B i ≤ A i')

theorem Vt.Own.on {w w' : World} : ∀ {t : Vt} {lo hi : Nat} {v : Value}, (∀ g, lo ≤ g → g < hi → w'.heap[g]? = w.heap[g]?) → t.Own w lo hi v → t.Own w' lo hi v := by
  intro t
  induction t with
  | nil => intro lo hi v _ h; exact h.elim
  | mk k x b s n it m ks ih =>
    rintro lo hi v hw ⟨ai, c, ak, d, mid, rfl, hb, hd, hc, h1, h2, hk, hi'⟩
    refine ⟨ai, c, ak, d, mid, rfl, hb, hd, hc, h1, h2, fun hm => ?_, fun hn => ?_⟩
    · obtain ⟨g, cur, e, g1, g2, hg, hj⟩ := hk hm
      exact ⟨g, cur, e, g1, g2, (hw g g1 (by omega)).trans hg, hj⟩
    · obtain ⟨g, cur, A, B, e, g1, g2, hg, hj, hp⟩ := hi' hn
      refine ⟨g, cur, A, B, e, g1, g2, (hw g (by omega) g2).trans hg, fun i hin => ?_, hp⟩
      obtain ⟨a1, a2, u0, u1, u2, u3, u4, u5, q0, q1, q2, q3, q4, q5, ho⟩ := hj i hin
      exact ⟨a1, a2, u0, u1, u2, u3, u4, u5, q0, q1, q2, q3, q4, q5, ih i (fun g' l1 l2 => hw g' (by omega) (by omega)) ho⟩
theorem Vt.Own.lies {w : World} : ∀ {t : Vt} {lo hi : Nat} {v : Value}, t.Own w lo hi v → t.Lies w (fun g => lo ≤ g ∧ g < hi) v := by
  intro t
  induction t with
  | nil => intro lo hi v h; exact h.elim
  | mk k x b s n it m ks ih =>
    rintro lo hi v ⟨ai, c, ak, d, mid, rfl, hb, hd, hc, h1, h2, hk, hi'⟩
    refine ⟨ai, c, ak, d, rfl, hb, hc.1, hc.2, ⟨hd.1, hd.2, fun j hj => ?_⟩, fun i hin => ?_⟩
    · obtain ⟨g, cur, e, g1, g2, hg, hj'⟩ := hk (by omega)
      refine ⟨g, 0, e, ⟨g1, by omega⟩, ?_⟩
      rw [Nat.zero_add]
      exact Vm.boxCell hg j (hj' j hj)
    · obtain ⟨g, cur, A, B, e, g1, g2, hg, hj, hp⟩ := hi' (by omega)
      obtain ⟨a1, a2, u0, u1, u2, u3, u4, u5, q0, q1, q2, q3, q4, q5, ho⟩ := hj i hin
      refine ⟨g, 0, u0, u1, u2, u3, u4, u5, e, ⟨by omega, g2⟩, ?_, ?_, ?_, ?_, ?_, ?_, (ih i ho).on fun g' hg' => ⟨⟨by omega, by omega⟩, rfl⟩⟩
      all_goals rw [Nat.zero_add]
      · exact Vm.boxCell hg _ q0
      · exact Vm.boxCell hg _ q1
      · exact Vm.boxCell hg _ q2
      · exact Vm.boxCell hg _ q3
      · exact Vm.boxCell hg _ q4
      · exact Vm.boxCell hg _ q5

theorem Vc.run0 (P : Program) (w : World) (t ty e : TypeId) (i : TypeInfo) (ht : P.underlying t = some (.slice e)) (hi : P.info? e = some i) (ak : Option Addr) (d : Nat) :
    (Builtin.append_ #[t, t] ty #[.slice none 0 0, .slice ak 0 d]).run P w = .ok (.slice none 0 0) w := by
  cases ak with
  | none => simp [Builtin.append_, run_underlying ht, sizeOf, typeInfo, hi, Builtin.lenOf, Builtin.firstCells]
  | some a => simp [Builtin.append_, run_underlying ht, sizeOf, typeInfo, hi, Builtin.lenOf, Builtin.firstCells, loadCells, loadCellsFrom]

/-- 'append(nil, xs...)': the elements of xs, in a row of its own -/
theorem Vc.append {P : Program} {w : World} {ops : Array Oper} {rest : List Oper} {o : Oper} {a : Act} {Q : Exit → Act → World → Prop} (hgd : o.guard = none) (s x : Operand) (t : TypeId)
    (ho : o.op = .call { callee := .builtin .append, args := #[s, x], argTypes := #[t, t] })
    (base : Nat) (e : TypeId) (i : TypeInfo) (z : Value) (size bytes : Nat) (ht : P.underlying t = some (.slice e)) (hi : P.info? e = some i) (hz : i.zero = some z)
    (hsize : i.size = size) (hby : i.bytes = bytes) (hzs : z.cells.size = size) (hsz : 0 < size) (hs : a.eval s = .slice none 0 0)
    (ak : Option Addr) (m d : Nat) (news : List Value) (hx : a.eval x = .slice ak m d) (hl : news.length = m * size) (hnews : ∀ j u, news[j]? = some u → ∃ ad, ak = some ad ∧ w.cell? (ad.add j) = some u) (h1 : ∀ u ∈ news, u.oneCell' = true)
    (h63 : m ≤ maxLen) (hbytes : m * bytes ≤ 140737488355328) (hbase : base ≤ w.heap.size)
    (h : ∀ v' w', w'.ownsRow base e size v' m news → w.grownBy w' none → wpList P ops Q rest (a.put o.dst v') w') : wpList P ops Q (o :: rest) a w := by
  by_cases hm : m = 0
  · subst hm
    refine wpList_plain hgd fun K hK => ?_
    have hrun := Vc.run0 P w t o.type e i ht hi ak d
    have hn : news = [] := List.eq_nil_of_length_eq_zero (by rw [hl]; simp)
    subst hn
    have h2 := h (.slice none 0 0) w (World.ownsRow_nil _ _ _ _) ?_
    · unfold Oper.wp
      simp [execOp, ho, resolve, invoke, builtin, hs, hx, hrun, Result.andThen]
      exact hK _ _ h2
    · exact ⟨rfl, rfl, rfl, Nat.le_refl _, fun _ _ _ => rfl⟩
  · have hp : 0 < news.length := by rw [hl]; exact Nat.mul_pos (by omega) hsz
    obtain ⟨ad, rfl, _⟩ := hnews 0 _ (List.getElem?_eq_getElem hp)
    refine wpList_append_own _ hgd s x t ho base e i z size bytes ht hi hz hsize hby hzs hsz (.slice none 0 0) 0 [] hs (World.ownsRow_nil _ _ _ _) ad m d news hx hl (fun j u hj => ?_) h1 (by omega) (by rw [Nat.zero_add]; exact hbytes) hbase (fun v' w' r g _ => ?_)
    · obtain ⟨ad', e', hc⟩ := hnews j u hj
      cases e'
      exact hc
    · rw [Nat.zero_add, List.nil_append] at r
      exact h v' w' r g
end Go.Proofs.YtiajclmhimkpnaaDoor
/-
  THE WALK of the program's value.copied: a tree of its own.
-/
namespace Go.Proofs.YtiajclmhimkpnaaDoor
open Go.RowKit

theorem Vc.infoS : (Tryd.prog.info? 9).map (fun i => (i.zero, i.size, i.bytes)) = some (some (.string ⟨#[]⟩), 1, 16) := by kernel_rfl
theorem Vc.infoV : (Tryd.prog.info? 29).map (fun i => (i.zero, i.size, i.bytes)) = some (some (.agg #[.int .i64 0, .int .i64 0, .int .u64 0, .string ⟨#[]⟩, .slice none 0 0, .slice none 0 0]), 6, 88) := by kernel_rfl

theorem Vc.add (b o j : Nat) : (⟨b, o, none⟩ : Addr).add j = ⟨b, o + j, none⟩ := by unfold Addr.add; split <;> simp_all
theorem Vm.Box.frozen {w : World} {g : Nat} {v0 v1 v2 v3 v4 v5 : Value} (h : Vm.Box w g v0 v1 v2 v3 v4 v5) (i : Nat) : w.frozen? ⟨g, i, none⟩ = false := by
  unfold World.frozen?
  rw [h.all]
  simp
theorem Vm.Box.set4 {w : World} {g : Nat} {v0 v1 v2 v3 v4 v5 : Value} (h : Vm.Box w g v0 v1 v2 v3 v4 v5) (v : Value) : Vm.Box (w.setCell ⟨g, 4, none⟩ v) g v0 v1 v2 v3 v v5 := by
  refine ⟨?_⟩
  show (w.heap.modify g _)[g]? = _
  rw [Array.getElem?_modify, if_pos rfl, h.all]
  rfl
theorem Vm.Box.set5 {w : World} {g : Nat} {v0 v1 v2 v3 v4 v5 : Value} (h : Vm.Box w g v0 v1 v2 v3 v4 v5) (v : Value) : Vm.Box (w.setCell ⟨g, 5, none⟩ v) g v0 v1 v2 v3 v4 v := by
  refine ⟨?_⟩
  show (w.heap.modify g _)[g]? = _
  rw [Array.getElem?_modify, if_pos rfl, h.all]
  rfl
/-- nothing has turned but what block g holds -/
structure Vm.Wrote (g : Nat) (w w' : World) : Prop where
  os : w'.os = w.os
  tape : w'.tape = w.tape
  output : w'.output = w.output
  size : w'.heap.size = w.heap.size
  block : ∀ k, k ≠ g → w'.heap[k]? = w.heap[k]?
theorem Vm.Wrote.cell {g : Nat} {w w' : World} (h : Vm.Wrote g w w') (o : Nat) (v : Value) : Vm.Wrote g w (w'.setCell ⟨g, o, none⟩ v) :=
  ⟨h.os, h.tape, h.output, by rw [← h.size]; simp, fun k hk => by rw [Below.heap_setCell _ _ _ _ hk]; exact h.block k hk⟩
theorem Vm.Wrote.refl (g : Nat) (w : World) : Vm.Wrote g w w := ⟨rfl, rfl, rfl, rfl, fun _ _ => rfl⟩
theorem Vm.Wrote.below {g : Nat} {w w' : World} (h : Vm.Wrote g w w') {B : Nat} {a : World} (hb : Below B a w) (hg : B ≤ g) : Below B a w' :=
  ⟨h.os.trans hb.os, h.tape.trans hb.tape, h.output.trans hb.output, by rw [h.size]; exact hb.size, fun k hk => (h.block k (by omega)).trans (hb.block k hk)⟩
theorem Vm.set6 (w : World) (g o : Nat) (v0 v1 v2 v3 v4 v5 : Value) : Vm.Wrote g w ((((((w.setCell ⟨g, o, none⟩ v0).setCell ⟨g, o + 1, none⟩ v1).setCell ⟨g, o + 2, none⟩ v2).setCell ⟨g, o + 3, none⟩ v3).setCell ⟨g, o + 4, none⟩ v4).setCell ⟨g, o + 5, none⟩ v5) :=
  ((((((Vm.Wrote.refl g w).cell _ _).cell _ _).cell _ _).cell _ _).cell _ _).cell _ _
theorem Vm.setAt {w : World} {g : Nat} {cur : Array Value} {ty : TypeId} (h : w.heap[g]? = some (.cells cur ty)) (o : Nat) (v : Value) : (w.setCell ⟨g, o, none⟩ v).heap[g]? = some (.cells (cur.setIfInBounds o v) ty) := by
  show (w.heap.modify g _)[g]? = _
  rw [Array.getElem?_modify, if_pos rfl, h]
  rfl
theorem Vm.set6_row {w : World} {g : Nat} {cur : Array Value} {ty : TypeId} (h : w.heap[g]? = some (.cells cur ty)) (o : Nat) (v0 v1 v2 v3 v4 v5 : Value) :
    ((((((w.setCell ⟨g, o, none⟩ v0).setCell ⟨g, o + 1, none⟩ v1).setCell ⟨g, o + 2, none⟩ v2).setCell ⟨g, o + 3, none⟩ v3).setCell ⟨g, o + 4, none⟩ v4).setCell ⟨g, o + 5, none⟩ v5).heap[g]? = some (.cells ((((((cur.setIfInBounds o v0).setIfInBounds (o + 1) v1).setIfInBounds (o + 2) v2).setIfInBounds (o + 3) v3).setIfInBounds (o + 4) v4).setIfInBounds (o + 5) v5) ty) :=
  Vm.setAt (Vm.setAt (Vm.setAt (Vm.setAt (Vm.setAt (Vm.setAt h o v0) _ v1) _ v2) _ v3) _ v4) _ v5
/-- what a row of its own is -/
theorem Vc.row_form {w : World} {B : Nat} {e : TypeId} {size : Nat} {v : Value} {n : Nat} {xs : List Value} (h : w.ownsRow B e size v n xs) :
    ∃ a d, v = .slice a n d ∧ n ≤ d ∧ d ≤ maxLen ∧ (∀ g, a = some ⟨g, 0, none⟩ → B ≤ g) ∧ (0 < n → ∃ g cur, a = some ⟨g, 0, none⟩ ∧ B ≤ g ∧ g < w.heap.size ∧ w.heap[g]? = some (.cells cur e) ∧ cur.size = d * size ∧ ∀ (j : Nat) (u : Value), xs[j]? = some u → cur[j]? = some u) := by
  rcases h.2 with ⟨rfl, rfl⟩ | ⟨g, cap, cur, rfl, hg, hh, h1, h2, h3, h4⟩
  · exact ⟨none, 0, rfl, Nat.le_refl _, Nat.zero_le _, fun g e => (by cases e), fun h => absurd h (Nat.lt_irrefl _)⟩
  · refine ⟨some ⟨g, 0, none⟩, cap, rfl, h1, h2, fun g' e => (by cases e; exact hg), fun _ => ⟨g, cur, rfl, hg, ?_, hh, h3, fun j u hj => ?_⟩⟩
    · exact (Array.getElem?_eq_some_iff.1 hh).1
    · rw [← h4, List.getElem?_take] at hj
      split at hj
      · rw [← Array.getElem?_toList]; exact hj
      · cases hj
/-- no list of the tree is long -/
def Vt.tidy : Vt → Prop
  | .nil => True
  | .mk _ _ _ _ n it m _ => n ≤ 64 ∧ m ≤ 64 ∧ ∀ i, i < n → (it i).tidy

/-- the cells of a row of values -/
def Vc.news (w : World) (ai : Option Addr) (n : Nat) : List Value := (List.range (n * 6)).map fun j => ((ai.bind fun a => w.cell? (a.add j)).getD undef)

def Vc.texts (m : Nat) (ks : Nat → ByteArray) : List Value := (List.range m).map fun j => .string (ks j)
theorem Vc.texts_length (m : Nat) (ks : Nat → ByteArray) : (Vc.texts m ks).length = m * 1 := by simp [Vc.texts]
theorem Vc.texts_one (m : Nat) (ks : Nat → ByteArray) : ∀ u ∈ Vc.texts m ks, u.oneCell' = true := by
  intro u hu
  simp only [Vc.texts, List.mem_map] at hu
  obtain ⟨c, _, rfl⟩ := hu
  rfl
theorem Vc.texts_cell {w w' : World} {m : Nat} {ks : Nat → ByteArray} {ak : Option Addr} {d : Nat} (h : Vt.Keys w (· < w.heap.size) m ks ak d) (hw : Below w.heap.size w w') :
    ∀ j u, (Vc.texts m ks)[j]? = some u → ∃ ad, ak = some ad ∧ w'.cell? (ad.add j) = some u := by
  intro j u hj
  have hjm : j < m := by
    have := (List.getElem?_eq_some_iff.1 hj).1
    rw [Vc.texts_length] at this
    omega
  obtain ⟨g, o, e, hg, hc⟩ := h.cell j hjm
  refine ⟨_, e, ?_⟩
  rw [Vc.add]
  have : u = .string (ks j) := by
    simp [Vc.texts, hjm] at hj
    exact hj.symm
  rw [this]
  exact Vt.cell_on (hw.block g hg) hc

/-- n values lie behind ai -/
def Vc.Row (w : World) (R : Nat → Prop) (it : Nat → Vt) (n : Nat) (ai : Option Addr) : Prop :=
  ∀ i, i < n → ∃ bi oi v0 v1 v2 v3 v4 v5, ai = some ⟨bi, oi, none⟩ ∧ R bi ∧ w.cell? ⟨bi, oi + i * 6, none⟩ = some v0 ∧ w.cell? ⟨bi, oi + i * 6 + 1, none⟩ = some v1 ∧ w.cell? ⟨bi, oi + i * 6 + 2, none⟩ = some v2 ∧ w.cell? ⟨bi, oi + i * 6 + 3, none⟩ = some v3 ∧ w.cell? ⟨bi, oi + i * 6 + 4, none⟩ = some v4 ∧ w.cell? ⟨bi, oi + i * 6 + 5, none⟩ = some v5 ∧ (it i).Lies w R (.agg #[v0, v1, v2, v3, v4, v5])
theorem Vc.news_length (w : World) (ai : Option Addr) (n : Nat) : (Vc.news w ai n).length = n * 6 := by simp [Vc.news]
theorem Vc.news_at (w : World) (ai : Option Addr) (n j : Nat) (hj : j < n * 6) : (Vc.news w ai n)[j]? = some ((ai.bind fun a => w.cell? (a.add j)).getD undef) := by simp [Vc.news, hj]
/-- each cell of the row is a cell of one value, and of one cell -/
theorem Vc.Row.one {w : World} {R : Nat → Prop} {it : Nat → Vt} {n : Nat} {ai : Option Addr} (h : Vc.Row w R it n ai) (j : Nat) (hj : j < n * 6) :
    ∃ bi oi u, ai = some ⟨bi, oi, none⟩ ∧ R bi ∧ w.cell? ⟨bi, oi + j, none⟩ = some u ∧ u.oneCell' = true := by
  obtain ⟨bi, oi, v0, v1, v2, v3, v4, v5, e, r, c0, c1, c2, c3, c4, c5, hl⟩ := h (j / 6) (by omega)
  obtain ⟨k, x, b, s, ai', n', c, ak, m, d, rfl, rfl, rfl, rfl, rfl, rfl⟩ := hl.cells
  have hq : j % 6 = 0 ∨ j % 6 = 1 ∨ j % 6 = 2 ∨ j % 6 = 3 ∨ j % 6 = 4 ∨ j % 6 = 5 := by omega
  rcases hq with q | q | q | q | q | q
  · exact ⟨bi, oi, _, e, r, by rw [show oi + j = oi + j / 6 * 6 by omega]; exact c0, rfl⟩
  · exact ⟨bi, oi, _, e, r, by rw [show oi + j = oi + j / 6 * 6 + 1 by omega]; exact c1, rfl⟩
  · exact ⟨bi, oi, _, e, r, by rw [show oi + j = oi + j / 6 * 6 + 2 by omega]; exact c2, rfl⟩
  · exact ⟨bi, oi, _, e, r, by rw [show oi + j = oi + j / 6 * 6 + 3 by omega]; exact c3, rfl⟩
  · exact ⟨bi, oi, _, e, r, by rw [show oi + j = oi + j / 6 * 6 + 4 by omega]; exact c4, rfl⟩
  · exact ⟨bi, oi, _, e, r, by rw [show oi + j = oi + j / 6 * 6 + 5 by omega]; exact c5, rfl⟩
theorem Vc.news_one {w : World} {R : Nat → Prop} {it : Nat → Vt} {n : Nat} {ai : Option Addr} (h : Vc.Row w R it n ai) : ∀ u ∈ Vc.news w ai n, u.oneCell' = true := by
  intro u hu
  obtain ⟨j, hj, e⟩ := List.getElem_of_mem hu
  rw [Vc.news_length] at hj
  have := Vc.news_at w ai n j hj
  obtain ⟨bi, oi, u', e1, _, hc, ho⟩ := h.one j hj
  rw [List.getElem?_eq_getElem (by rw [Vc.news_length]; exact hj), e, e1] at this
  simp only [Option.bind_some, Vc.add, hc, Option.getD_some, Option.some.injEq] at this
  rw [this]
  exact ho
theorem Vc.news_cell {w w' : World} {it : Nat → Vt} {n : Nat} {ai : Option Addr} (h : Vc.Row w (· < w.heap.size) it n ai) (hw : Below w.heap.size w w') :
    ∀ j u, (Vc.news w ai n)[j]? = some u → ∃ ad, ai = some ad ∧ w'.cell? (ad.add j) = some u := by
  intro j u hj
  have hjm : j < n * 6 := by
    have := (List.getElem?_eq_some_iff.1 hj).1
    rwa [Vc.news_length] at this
  obtain ⟨bi, oi, u', e1, r, hc, _⟩ := h.one j hjm
  refine ⟨_, e1, ?_⟩
  rw [Vc.news_at w ai n j hjm, e1] at hj
  simp only [Option.bind_some, Vc.add, hc, Option.getD_some, Option.some.injEq] at hj
  rw [Vc.add, ← hj]
  exact Vt.cell_on (hw.block bi r) hc

theorem Vt.Lies.drew {w : World} {t : Vt} {v : Value} (h : t.Lies w (· < w.heap.size) v) : t.Lies w.drew (· < w.drew.heap.size) v := Vt.Lies.on (w := w) (w' := w.drew) (R := (· < w.heap.size)) (R' := (· < w.drew.heap.size)) (fun _ hg => ⟨hg, rfl⟩) h
theorem Vc.back {wr w3 : World} {X : Obj} (h : Below (wr.alloc X).drew.heap.size (wr.alloc X).drew w3) : ∀ q, q < wr.heap.size → w3.heap[q]? = wr.heap[q]? := by
  intro q hq
  have h1 := h.block q (by show q < (wr.alloc X).heap.size; simp; omega)
  have h2 : (wr.alloc X).drew.heap[q]? = (wr.alloc X).heap[q]? := rfl
  rw [h1, h2, Below.heap_alloc _ _ _ hq]
theorem Vt.Own.form {w : World} {lo hi : Nat} {t : Vt} {v : Value} (h : t.Own w lo hi v) : ∃ (k x : Int) (b : Nat) (s : ByteArray) (ai : Option Addr) (n c : Nat) (ak : Option Addr) (m d : Nat), v = .agg #[.int .i64 k, .int .i64 x, .int .u64 (b : Int), .string s, .slice ai n c, .slice ak m d] := by
  cases t with
  | nil => exact h.elim
  | mk k x b s n it m ks =>
    obtain ⟨ai, c, ak, d, mid, e, _⟩ := h
    exact ⟨k, x, b, s, ai, n, c, ak, m, d, e⟩
theorem Vc.row_frozen {w : World} {g : Nat} {cur : Array Value} {ty : TypeId} (h : w.heap[g]? = some (.cells cur ty)) (i : Nat) : w.frozen? ⟨g, i, none⟩ = false := by
  unfold World.frozen?
  rw [h]
  simp
/-- IN THE MIDST OF THE COPYING: j values of the row have become trees of their own; W: the world in which the loop began, w: the one in which the call did -/
structure Vc.Mid (w W wr : World) (a2 : Option Addr) (n : Nat) (it : Nat → Vt) (j : Nat) : Prop where
  os : wr.os = W.os
  tape : wr.tape = W.tape
  output : wr.output = W.output
  size : W.heap.size ≤ wr.heap.size
  block : ∀ g, g < W.heap.size → a2 ≠ some ⟨g, 0, none⟩ → wr.heap[g]? = W.heap[g]?
  row : 0 < n → ∃ g cur, ∃ A B : Nat → Nat, a2 = some ⟨g, 0, none⟩ ∧ w.heap.size ≤ g ∧ g < W.heap.size ∧ wr.heap[g]? = some (.cells cur 29) ∧
    (∀ i, j ≤ i → i < n → ∃ u0 u1 u2 u3 u4 u5, cur[i * 6]? = some u0 ∧ cur[i * 6 + 1]? = some u1 ∧ cur[i * 6 + 2]? = some u2 ∧ cur[i * 6 + 3]? = some u3 ∧ cur[i * 6 + 4]? = some u4 ∧ cur[i * 6 + 5]? = some u5 ∧ (it i).Lies w (· < w.heap.size) (.agg #[u0, u1, u2, u3, u4, u5])) ∧
    (∀ i, i < j → W.heap.size ≤ A i ∧ B i ≤ wr.heap.size ∧ ∃ u0 u1 u2 u3 u4 u5, cur[i * 6]? = some u0 ∧ cur[i * 6 + 1]? = some u1 ∧ cur[i * 6 + 2]? = some u2 ∧ cur[i * 6 + 3]? = some u3 ∧ cur[i * 6 + 4]? = some u4 ∧ cur[i * 6 + 5]? = some u5 ∧ (it i).Own wr (A i) (B i) (.agg #[u0, u1, u2, u3, u4, u5])) ∧
    ∀ i i', i < i' → i' < j → B i ≤ A i'

theorem Vc.Mid.below {w W wr : World} {a2 : Option Addr} {n : Nat} {it : Nat → Vt} {j : Nat} (h : Vc.Mid w W wr a2 n it j) (hW : Below w.heap.size w W) (ha : ∀ g, a2 = some ⟨g, 0, none⟩ → w.heap.size ≤ g) : Below w.heap.size w wr :=
  ⟨h.os.trans hW.os, h.tape.trans hW.tape, h.output.trans hW.output, Nat.le_trans hW.size h.size, fun g hg => (h.block g (Nat.lt_of_lt_of_le hg hW.size) (fun e => absurd (ha g e) (by omega))).trans (hW.block g hg)⟩


def Vc.six (cur : Array Value) (o : Nat) (v0 v1 v2 v3 v4 v5 : Value) : Array Value := (((((cur.setIfInBounds o v0).setIfInBounds (o + 1) v1).setIfInBounds (o + 2) v2).setIfInBounds (o + 3) v3).setIfInBounds (o + 4) v4).setIfInBounds (o + 5) v5
theorem Vc.six_out (cur : Array Value) (o : Nat) (v0 v1 v2 v3 v4 v5 : Value) (q : Nat) (h : q < o ∨ o + 6 ≤ q) : (Vc.six cur o v0 v1 v2 v3 v4 v5)[q]? = cur[q]? := by
  unfold Vc.six
  rw [Array.getElem?_setIfInBounds_ne (by omega), Array.getElem?_setIfInBounds_ne (by omega), Array.getElem?_setIfInBounds_ne (by omega), Array.getElem?_setIfInBounds_ne (by omega), Array.getElem?_setIfInBounds_ne (by omega), Array.getElem?_setIfInBounds_ne (by omega)]
theorem Vc.six_in (cur : Array Value) (o : Nat) (v0 v1 v2 v3 v4 v5 : Value) (h : o + 5 < cur.size) : (Vc.six cur o v0 v1 v2 v3 v4 v5)[o]? = some v0 ∧ (Vc.six cur o v0 v1 v2 v3 v4 v5)[o + 1]? = some v1 ∧ (Vc.six cur o v0 v1 v2 v3 v4 v5)[o + 2]? = some v2 ∧ (Vc.six cur o v0 v1 v2 v3 v4 v5)[o + 3]? = some v3 ∧ (Vc.six cur o v0 v1 v2 v3 v4 v5)[o + 4]? = some v4 ∧ (Vc.six cur o v0 v1 v2 v3 v4 v5)[o + 5]? = some v5 := by
  unfold Vc.six
  refine ⟨?_, ?_, ?_, ?_, ?_, ?_⟩
  · rw [Array.getElem?_setIfInBounds_ne (by omega), Array.getElem?_setIfInBounds_ne (by omega), Array.getElem?_setIfInBounds_ne (by omega), Array.getElem?_setIfInBounds_ne (by omega), Array.getElem?_setIfInBounds_ne (by omega), Array.getElem?_setIfInBounds_self_of_lt (by omega)]
  · rw [Array.getElem?_setIfInBounds_ne (by omega), Array.getElem?_setIfInBounds_ne (by omega), Array.getElem?_setIfInBounds_ne (by omega), Array.getElem?_setIfInBounds_ne (by omega), Array.getElem?_setIfInBounds_self_of_lt (by simp; omega)]
  · rw [Array.getElem?_setIfInBounds_ne (by omega), Array.getElem?_setIfInBounds_ne (by omega), Array.getElem?_setIfInBounds_ne (by omega), Array.getElem?_setIfInBounds_self_of_lt (by simp; omega)]
  · rw [Array.getElem?_setIfInBounds_ne (by omega), Array.getElem?_setIfInBounds_ne (by omega), Array.getElem?_setIfInBounds_self_of_lt (by simp; omega)]
  · rw [Array.getElem?_setIfInBounds_ne (by omega), Array.getElem?_setIfInBounds_self_of_lt (by simp; omega)]
  · rw [Array.getElem?_setIfInBounds_self_of_lt (by simp; omega)]

theorem Vc.Mid.step {w W wr w3 : World} {g n : Nat} {it : Nat → Vt} {j : Nat} {X : Obj} {v0 v1 v2 v3 v4 v5 : Value} (h : Vc.Mid w W wr (some ⟨g, 0, none⟩) n it j) (hj : j < n)
    (hown : (it j).Own w3 (wr.alloc X).drew.heap.size w3.heap.size (.agg #[v0, v1, v2, v3, v4, v5])) (hbw : Below (wr.alloc X).drew.heap.size (wr.alloc X).drew w3) :
    Vc.Mid w W ((((((w3.setCell ⟨g, j * 6, none⟩ v0).setCell ⟨g, j * 6 + 1, none⟩ v1).setCell ⟨g, j * 6 + 2, none⟩ v2).setCell ⟨g, j * 6 + 3, none⟩ v3).setCell ⟨g, j * 6 + 4, none⟩ v4).setCell ⟨g, j * 6 + 5, none⟩ v5) (some ⟨g, 0, none⟩) n it (j + 1) := by
  obtain ⟨g', cur, A, B, e, g1, g2, hg, htodo, hdone, hp⟩ := h.row (by omega)
  cases e
  have WR := Vm.set6 w3 g (j * 6) v0 v1 v2 v3 v4 v5
  have hback := Vc.back hbw
  have e2 : (wr.alloc X).drew.heap.size = wr.heap.size + 1 := by show (wr.alloc X).heap.size = _; simp
  have hs3 : wr.heap.size + 1 ≤ w3.heap.size := by have := hbw.size; omega
  have hsz := h.size
  have RR : _ = some (Obj.cells (Vc.six cur (j * 6) v0 v1 v2 v3 v4 v5) 29) := Vm.set6_row ((hback g (by omega)).trans hg) (j * 6) v0 v1 v2 v3 v4 v5
  generalize ((((((w3.setCell ⟨g, j * 6, none⟩ v0).setCell ⟨g, j * 6 + 1, none⟩ v1).setCell ⟨g, j * 6 + 2, none⟩ v2).setCell ⟨g, j * 6 + 3, none⟩ v3).setCell ⟨g, j * 6 + 4, none⟩ v4).setCell ⟨g, j * 6 + 5, none⟩ v5) = WF at *
  have hin : j * 6 + 5 < cur.size := by
    obtain ⟨u0, u1, u2, u3, u4, u5, _, _, _, _, _, y5, _⟩ := htodo j (Nat.le_refl _) hj
    exact (Array.getElem?_eq_some_iff.1 y5).1
  refine ⟨WR.os.trans (hbw.os.trans h.os), WR.tape.trans (hbw.tape.trans h.tape), WR.output.trans (hbw.output.trans h.output), by rw [WR.size]; omega, fun q hq hne => ?_, fun _ => ?_⟩
  · rw [WR.block q (fun e => hne (by rw [e])), hback q (by omega)]
    exact h.block q hq hne
  · refine ⟨g, Vc.six cur (j * 6) v0 v1 v2 v3 v4 v5, fun i => if i = j then wr.heap.size + 1 else A i, fun i => if i = j then w3.heap.size else B i, rfl, g1, g2, RR, fun i hi hin' => ?_, fun i hi => ?_, fun i i' hii hi' => ?_⟩
    · obtain ⟨u0, u1, u2, u3, u4, u5, y0, y1, y2, y3, y4, y5, hl⟩ := htodo i (by omega) hin'
      refine ⟨u0, u1, u2, u3, u4, u5, ?_, ?_, ?_, ?_, ?_, ?_, hl⟩
      all_goals rw [Vc.six_out _ _ _ _ _ _ _ _ _ (by omega)]
      all_goals assumption
    · by_cases hij : i = j
      · subst hij
        obtain ⟨q0, q1, q2, q3, q4, q5⟩ := Vc.six_in cur (i * 6) v0 v1 v2 v3 v4 v5 hin
        refine ⟨by dsimp only; rw [if_pos rfl]; omega, by dsimp only; rw [if_pos rfl, WR.size]; exact Nat.le_refl _, v0, v1, v2, v3, v4, v5, q0, q1, q2, q3, q4, q5, ?_⟩
        dsimp only
        rw [if_pos rfl, if_pos rfl, ← e2]
        exact hown.on fun q l1 l2 => WR.block q (by omega)
      · obtain ⟨a1, b1, u0, u1, u2, u3, u4, u5, y0, y1, y2, y3, y4, y5, ho⟩ := hdone i (by omega)
        refine ⟨by dsimp only; rw [if_neg hij]; exact a1, by dsimp only; rw [if_neg hij, WR.size]; omega, u0, u1, u2, u3, u4, u5, ?_, ?_, ?_, ?_, ?_, ?_, ?_⟩
        case refine_7 =>
          dsimp only
          rw [if_neg hij, if_neg hij]
          exact ho.on fun q l1 l2 => (WR.block q (by omega)).trans (hback q (by omega))
        all_goals rw [Vc.six_out _ _ _ _ _ _ _ _ _ (by omega)]
        all_goals assumption
    · dsimp only
      rw [if_neg (show ¬ i = j by omega)]
      by_cases hij : i' = j
      · rw [if_pos hij]
        obtain ⟨_, b1, _⟩ := hdone i (by omega)
        omega
      · rw [if_neg hij]
        exact hp i i' hii (by omega)

end Go.Proofs.YtiajclmhimkpnaaDoor
/-
  TEXTS IN THEIR ORDER, and the walk of slices.BinarySearch over keys that rise.
-/
namespace Go.Proofs.YtiajclmhimkpnaaDoor
open Go.RowKit

theorem Vo.irr : ∀ l : List UInt8, Op.bytesLess l l = false
  | [] => rfl
  | a :: l => by
    simp only [Op.bytesLess, Vo.irr l, Bool.and_false, Bool.or_false, decide_eq_false_iff_not]
    exact UInt8.lt_irrefl a
theorem Vo.trans : ∀ a b c : List UInt8, Op.bytesLess a b = true → Op.bytesLess b c = true → Op.bytesLess a c = true
  | _, [], _, h, _ => by cases ‹List UInt8› <;> simp [Op.bytesLess] at h
  | _, _ :: _, [], _, h => by simp [Op.bytesLess] at h
  | [], _ :: _, _ :: _, _, _ => rfl
  | x :: a, y :: b, z :: c, h, g => by
    simp only [Op.bytesLess, Bool.or_eq_true, decide_eq_true_eq, Bool.and_eq_true, beq_iff_eq] at h g ⊢
    rcases h with h | ⟨rfl, h⟩
    · rcases g with g | ⟨rfl, g⟩
      · exact .inl (UInt8.lt_trans h g)
      · exact .inl h
    · rcases g with g | ⟨rfl, g⟩
      · exact .inl g
      · exact .inr ⟨rfl, Vo.trans a b c h g⟩
theorem Vo.tot : ∀ a b : List UInt8, Op.bytesLess a b = false → a ≠ b → Op.bytesLess b a = true
  | [], [], _, h => absurd rfl h
  | [], _ :: _, h, _ => by simp [Op.bytesLess] at h
  | _ :: _, [], _, _ => rfl
  | x :: a, y :: b, h, g => by
    simp only [Op.bytesLess, Bool.or_eq_false_iff, decide_eq_false_iff_not, Bool.and_eq_false_iff, beq_eq_false_iff_ne] at h
    simp only [Op.bytesLess, Bool.or_eq_true, decide_eq_true_eq, Bool.and_eq_true, beq_iff_eq]
    by_cases e : x = y
    · subst e
      rcases h.2 with h2 | h2
      · exact absurd rfl h2
      · exact .inr ⟨rfl, Vo.tot a b h2 (fun e => g (by rw [e]))⟩
    · refine .inl ?_
      have h1 := h.1
      rw [UInt8.lt_iff_toNat_lt] at h1 ⊢
      have : x.toNat ≠ y.toNat := fun e' => e (UInt8.toNat_inj.1 e')
      omega
theorem Vo.ne {a b : List UInt8} (h : Op.bytesLess a b = true) : a ≠ b := fun e => by rw [e, Vo.irr] at h; cases h
/-- keys that may be rise -/
theorem Vo.step {ks : Nat → ByteArray} {m j : Nat} (h : Vt.keysOk ks m = true) (hj : j + 1 < m) : Op.bytesLess (ks j).toList (ks (j + 1)).toList = true := by
  have := Vt.keysOk_of h hj
  unfold Vt.key at this
  simp only [Vt.prev, Bool.and_eq_true, Bool.not_eq_true', Bool.or_eq_false_iff, beq_eq_false_iff_ne] at this
  exact Vo.tot _ _ this.1.1 this.1.2
theorem Vo.rise {ks : Nat → ByteArray} {m : Nat} (h : Vt.keysOk ks m = true) {i j : Nat} (hij : i < j) (hj : j < m) : Op.bytesLess (ks i).toList (ks j).toList = true := by
  induction j with
  | zero => omega
  | succ j ih =>
    by_cases e : i = j
    · subst e; exact Vo.step h hj
    · exact Vo.trans _ _ _ (ih (by omega) (by omega)) (Vo.step h hj)

end Go.Proofs.YtiajclmhimkpnaaDoor

/-
  THE WALKS of stoleref5.NodesMay, stoleref5.Texts and stolelaw0.SameTexts.
-/
import Derived.Test.YtblpkjlodncpeaaGreatDoorANMay
import Derived.Test.YtblpkjlodncpeaaGreatDoorATMemtoUNd
import Derived.Test.YtblpkjlodncpeaaGreatDoorAPlaintoUShape
import Derived.Lib.AppendStr
import Derived.Lib.UnsafeStr
import Derived.Test.YtblpkjlodncpeaaGreatDoorATPretoRDig
import Derived.KernelRfl
import Derived.Lib.ItoaNum
namespace Go.Proofs.YtblpkjlodncpeaaGreatDoor
open Go.RowKit
/-- texts lie in blocks of R -/
def St.Lies (w : World) (R : Nat → Prop) (ss : List ByteArray) (v : Value) : Prop :=
  ∃ a d, v = .slice a ss.length d ∧ ss.length ≤ d ∧ d ≤ maxLen ∧ ∀ i s, ss[i]? = some s → ∃ b o, a = some ⟨b, o, none⟩ ∧ R b ∧ w.cell? ⟨b, o + i, none⟩ = some (.string s)
theorem St.Lies.on {w w' : World} {R R' : Nat → Prop} {ss : List ByteArray} {v : Value} (h : St.Lies w R ss v) (hR : ∀ k, R k → R' k ∧ w'.heap[k]? = w.heap[k]?) : St.Lies w' R' ss v := by
  obtain ⟨a, d, e, h1, h2, hx⟩ := h
  refine ⟨a, d, e, h1, h2, fun i s hi => ?_⟩
  obtain ⟨b, o, ea, hb, c⟩ := hx i s hi
  exact ⟨b, o, ea, (hR b hb).1, (World.cell?_of_block (a := ⟨b, o + i, none⟩) (hR b hb).2).trans c⟩
def St.cells (ss : List ByteArray) : List Value := ss.map fun s => Value.string s
theorem St.own {w : World} {base : Nat} {ss : List ByteArray} {v : Value} (h : w.ownsRow base 9 1 v ss.length (St.cells ss)) : St.Lies w (fun k => base ≤ k ∧ k < w.heap.size) ss v := by
  have hlt := h.lt
  have hc := fun g hg => h.cells (g := g) hg
  rcases h.2 with ⟨rfl, hn⟩ | ⟨g, cap, cur, rfl, hbg, hg, hnc, hcm, hcs, htake⟩
  · have : ss = [] := List.eq_nil_of_length_eq_zero hn
    subst this
    exact ⟨none, 0, rfl, Nat.le_refl _, Nat.zero_le _, fun j x h => by simp at h⟩
  · refine ⟨some ⟨g, 0, none⟩, cap, rfl, hnc, hcm, fun i s hi => ⟨g, 0, rfl, hlt g rfl, ?_⟩⟩
    have := hc g rfl i (.string s) (by unfold St.cells; rw [List.getElem?_map, hi]; rfl)
    rw [Ro.add] at this
    exact this
theorem St.info : (Tryz.prog.info? 9).map (fun i => (i.zero, i.size, i.bytes)) = some (some (.string ⟨#[]⟩), 1, 16) := by kernel_rfl
theorem St.one_str (W : World) (s : ByteArray) (g1 : Nat) (h : g1 = W.heap.size) : ∀ j u, [Value.string s][j]? = some u → (W.alloc (.cells #[.string s] 9)).cell? ⟨g1, j, none⟩ = some u := by
  subst h
  intro j u hj
  unfold World.cell?
  rw [show (W.alloc (.cells #[.string s] 9)).heap[W.heap.size]? = some _ from heap_alloc_new W _]
  simpa using hj
theorem Sk.texts_take (ns : List Nd) (i : Nat) (x : Nd) (hi : ns[i]? = some x) : Sk.texts (ns.take (i + 1)) = Sk.texts (ns.take i) ++ (if x.kind = 2 then [x.text] else []) := by
  have hl := (List.getElem?_eq_some_iff.1 hi).1
  have hx : ns[i] = x := (List.getElem?_eq_some_iff.1 hi).2
  unfold Sk.texts
  rw [List.take_succ_eq_append_getElem hl, List.filterMap_append, hx]
  congr 1
  by_cases c : x.kind = 2
  · simp [c]
  · simp [c]
theorem Sk.texts_len (ns : List Nd) : (Sk.texts ns).length ≤ ns.length := by
  unfold Sk.texts
  exact List.length_filterMap_le _ _
end Go.Proofs.YtblpkjlodncpeaaGreatDoor
/-
  PLAIN: the program's own way to make the tree: the last text's bytes are gathered beside the nodes, and given to it when another node is made.
-/
namespace Go.Proofs.YtblpkjlodncpeaaGreatDoor
/-- the last node is given the bytes that were gathered -/
def Pb.flush (m : Bt) (bs : ByteArray) : Bt := if bs.size = 0 then m else { m with out := m.out.set m.last { m.nth m.last with text := bs } }
/-- what a token does -/
def Pb.take (m : Bt) (bs : ByteArray) (t : Tk) : Bt × ByteArray :=
  if t.kind = 0 then
    if t.text = Ts.e then (m, bs)
    else if (m.nth m.last).kind = 2 ∧ (m.nth m.last).parent = (m.top : Int) then (m, bs ++ t.text)
    else ((Pb.flush m bs).node ⟨2, Ts.e, Ts.e, [], 0⟩, Ts.e ++ t.text)
  else if t.kind = 3 then ((Pb.flush m bs).node ⟨3, Ts.e, t.text, [], 0⟩, Ts.e)
  else if t.kind = 1 then
    if Ts.kind t.name ≠ 1 ∧ m.opn.length ≤ 32 then ({ (Pb.flush m bs).node ⟨1, t.name, Ts.e, t.attrs, 0⟩ with opn := m.opn ++ [m.out.length] }, Ts.e)
    else ((Pb.flush m bs).node ⟨1, t.name, Ts.e, t.attrs, 0⟩, Ts.e)
  else if t.kind = 2 then
    if m.find t.name m.opn.length = 0 then (m, bs) else ({ m with opn := m.opn.take (m.find t.name m.opn.length) }, bs)
  else (m, bs)
theorem Pb.flush_len (m : Bt) (bs : ByteArray) : (Pb.flush m bs).out.length = m.out.length := by
  unfold Pb.flush
  split
  · rfl
  · exact List.length_set
theorem Pb.flush_opn (m : Bt) (bs : ByteArray) : (Pb.flush m bs).opn = m.opn := by
  unfold Pb.flush
  split <;> rfl
theorem Pb.flush_top (m : Bt) (bs : ByteArray) : (Pb.flush m bs).top = m.top := by unfold Bt.top; rw [Pb.flush_opn]
theorem Pb.flush_last (m : Bt) (bs : ByteArray) : (Pb.flush m bs).last = m.last := by unfold Bt.last; rw [Pb.flush_len]
theorem Pb.flush_none (m : Bt) : Pb.flush m Ts.e = m := if_pos rfl
theorem Pb.size_ne {s : ByteArray} (h : ¬ s = Ts.e) : ¬ s.size = 0 := fun e => h (by
  apply ByteArray.ext
  exact Array.eq_empty_of_size_eq_zero e)
theorem Pb.e_append (s : ByteArray) : Ts.e ++ s = s := by
  apply ByteArray.ext
  simp [ByteArray.data_append, Ts.e]
theorem Pb.nth_last {m : Bt} (h : 0 < m.out.length) : m.out[m.last]? = some (m.nth m.last) := by
  unfold Bt.nth Bt.last
  rw [List.getElem?_eq_getElem (by omega)]
  rfl
/-- a node behind the flush, at any place -/
theorem Pb.flush_nth (m : Bt) (bs : ByteArray) (h : 0 < m.out.length) (i : Nat) : (Pb.flush m bs).nth i = if i = m.last ∧ ¬ bs.size = 0 then { m.nth m.last with text := bs } else m.nth i := by
  unfold Pb.flush
  split
  · next q => rw [if_neg (fun r => r.2 q)]
  · next q =>
    unfold Bt.nth
    show ((m.out.set m.last _)[i]?).getD Nd.zero = _
    by_cases e : i = m.last
    · subst e
      rw [if_pos ⟨rfl, q⟩, List.getElem?_set_self (by unfold Bt.last; omega)]
      rfl
    · rw [if_neg (fun r => e r.1), List.getElem?_set_ne (fun r => e r.symm)]
theorem Pb.flush_name (m : Bt) (bs : ByteArray) (h : 0 < m.out.length) (i : Nat) : ((Pb.flush m bs).nth i).name = (m.nth i).name ∧ ((Pb.flush m bs).nth i).kind = (m.nth i).kind ∧ ((Pb.flush m bs).nth i).parent = (m.nth i).parent := by
  rw [Pb.flush_nth m bs h]
  split
  · next q => rw [q.1]; exact ⟨rfl, rfl, rfl⟩
  · exact ⟨rfl, rfl, rfl⟩
theorem Pb.flush_find (m : Bt) (bs : ByteArray) (h : 0 < m.out.length) (n : ByteArray) : ∀ k, (Pb.flush m bs).find n k = m.find n k
  | 0 => rfl
  | k + 1 => by
    unfold Bt.find
    rw [Pb.flush_opn, (Pb.flush_name m bs h _).1, Pb.flush_find m bs h n k]
/-- what the document's way has, and what lies there -/
structure Pb.Sim (m r : Bt) (bs : ByteArray) : Prop where
  eq : Pb.flush r bs = m
  ok : Bt.Ok r
  held : (r.nth r.last).kind = 2 → ¬ bs = Ts.e
theorem Pb.Sim.len {m r : Bt} {bs : ByteArray} (h : Pb.Sim m r bs) : m.out.length = r.out.length := by rw [← h.eq, Pb.flush_len]
theorem Pb.Sim.start : Pb.Sim Bt.start Bt.start Ts.e := ⟨Pb.flush_none _, Bt.Ok.start, fun h => absurd h (by decide)⟩
theorem Pb.Ok.flush {m : Bt} (h : Bt.Ok m) (bs : ByteArray) : Bt.Ok (Pb.flush m bs) := ⟨by rw [Pb.flush_len]; exact h.some, by rw [Pb.flush_opn]; exact h.opn, by rw [Pb.flush_opn, Pb.flush_len]; exact h.lt, by rw [Pb.flush_opn]; exact h.few⟩
theorem Pb.node_last (m : Bt) (x : Nd) : (m.node x).last = m.out.length ∧ (m.node x).nth (m.node x).last = { x with parent := (m.top : Int) } := by
  have e : (m.node x).last = m.out.length := by
    show (m.out ++ [_]).length - 1 = _
    rw [List.length_append]
    simp
  refine ⟨e, ?_⟩
  rw [e]
  unfold Bt.nth Bt.node
  show ((m.out ++ [_])[m.out.length]?).getD Nd.zero = _
  rw [List.getElem?_append_right (Nat.le_refl _), Nat.sub_self]
  rfl
theorem Pb.set_last (l : List Nd) (x y : Nd) : (l ++ [x]).set l.length y = l ++ [y] := by
  rw [List.set_append_right _ _ (Nat.le_refl _), Nat.sub_self]
  rfl
theorem Pb.node_flush (m : Bt) (x : Nd) {s : ByteArray} (h : ¬ s.size = 0) : Pb.flush (m.node x) s = m.node { x with text := s } := by
  unfold Pb.flush
  rw [if_neg h, (Pb.node_last m x).2, (Pb.node_last m x).1]
  unfold Bt.node
  show ({ out := (m.out ++ [_]).set m.out.length _, opn := m.opn } : Bt) = _
  rw [Pb.set_last]
theorem Pb.Sim.take {m r : Bt} {bs : ByteArray} (h : Pb.Sim m r bs) (t : Tk) : Pb.Sim (m.token t) (Pb.take r bs t).1 (Pb.take r bs t).2 := by
  obtain ⟨rfl, hok, hheld⟩ := h
  have hl := hok.some
  have hn := Pb.flush_name r bs hl
  have hN : ∀ x : Nd, ¬ x.kind = 2 → Pb.Sim ((Pb.flush r bs).node x) ((Pb.flush r bs).node x) Ts.e := fun x hx => ⟨Pb.flush_none _, (Pb.Ok.flush hok bs).node x, fun e => absurd (by rw [(Pb.node_last _ x).2] at e; exact e) hx⟩
  unfold Bt.token Pb.take
  by_cases k0 : t.kind = 0
  · rw [if_pos k0, if_pos k0]
    by_cases hx : t.text = Ts.e
    · rw [if_pos hx, if_pos hx]
      exact ⟨rfl, hok, hheld⟩
    · rw [if_neg hx, if_neg hx, Pb.flush_last, (hn r.last).2.1, (hn r.last).2.2, Pb.flush_top]
      by_cases hq : (r.nth r.last).kind = 2 ∧ (r.nth r.last).parent = (r.top : Int)
      · rw [if_pos hq, if_pos hq]
        have hb := hheld hq.1
        refine ⟨?_, hok, fun _ e => hx ?_⟩
        · show Pb.flush r (bs ++ t.text) = (Pb.flush r bs).put t.text
          unfold Bt.put
          rw [Pb.flush_last, Pb.flush_nth r bs hl, if_pos ⟨rfl, Pb.size_ne hb⟩]
          unfold Pb.flush
          rw [if_neg (Pb.size_ne hb), if_neg (by rw [ByteArray.size_append]; have := Pb.size_ne hb; omega)]
          show _ = ({ out := (r.out.set _ _).set _ _, opn := _ } : Bt)
          rw [List.set_set]
        · have e2 : (bs ++ t.text).size = 0 := by rw [show bs ++ t.text = Ts.e from e]; rfl
          rw [ByteArray.size_append] at e2
          exact absurd (show bs.size = 0 by omega) (Pb.size_ne hb)
      · rw [if_neg hq, if_neg hq]
        refine ⟨?_, (Pb.Ok.flush hok bs).node _, fun _ e => hx (by rw [← Pb.e_append t.text]; exact e)⟩
        show Pb.flush ((Pb.flush r bs).node _) (Ts.e ++ t.text) = _
        rw [Pb.e_append, Pb.node_flush _ _ (Pb.size_ne hx)]
  rw [if_neg k0, if_neg k0]
  by_cases k3 : t.kind = 3
  · rw [if_pos k3, if_pos k3]
    exact hN _ (show ¬ (3 : Int) = 2 by decide)
  rw [if_neg k3, if_neg k3]
  by_cases k1 : t.kind = 1
  · rw [if_pos k1, if_pos k1, Pb.flush_opn, Pb.flush_len]
    by_cases hq : Ts.kind t.name ≠ 1 ∧ r.opn.length ≤ 32
    · rw [if_pos hq, if_pos hq]
      refine ⟨Pb.flush_none _, ?_, fun e => absurd (by
        have e2 := (Pb.node_last (Pb.flush r bs) ⟨1, t.name, Ts.e, t.attrs, 0⟩).2
        have e3 : (((Pb.flush r bs).node ⟨1, t.name, Ts.e, t.attrs, 0⟩).nth ((Pb.flush r bs).node ⟨1, t.name, Ts.e, t.attrs, 0⟩).last).kind = 2 := e
        rw [e2] at e3
        exact e3) (by decide : ¬ ((1 : Int) = 2))⟩
      have := (Pb.Ok.flush hok bs).token t
      unfold Bt.token at this
      rw [if_neg k0, if_neg k3, if_pos k1, Pb.flush_opn, Pb.flush_len, if_pos hq] at this
      exact this
    · rw [if_neg hq, if_neg hq]
      exact hN _ (show ¬ (1 : Int) = 2 by decide)
  rw [if_neg k1, if_neg k1]
  by_cases k2 : t.kind = 2
  · rw [if_pos k2, if_pos k2, Pb.flush_opn, Pb.flush_find r bs hl]
    by_cases hf : r.find t.name r.opn.length = 0
    · rw [if_pos hf, if_pos hf]
      exact ⟨rfl, hok, hheld⟩
    · rw [if_neg hf, if_neg hf]
      refine ⟨?_, ?_, hheld⟩
      · unfold Pb.flush
        split
        · rfl
        · rfl
      · have := hok.token t
        unfold Bt.token at this
        rw [if_neg k0, if_neg k3, if_neg k1, if_pos k2, if_neg hf] at this
        exact this
  · rw [if_neg k2, if_neg k2]
    exact ⟨rfl, hok, hheld⟩
/-- how many bytes are gathered -/
theorem Pb.take_bulk (r : Bt) (bs : ByteArray) (t : Tk) : (Pb.take r bs t).2.size ≤ bs.size + t.text.size := by
  unfold Pb.take
  repeat' split
  all_goals first | exact Nat.le_add_right _ _ | (rw [ByteArray.size_append]; exact Nat.le_refl _) | (rw [Pb.e_append]; exact Nat.le_add_left _ _) | exact Nat.zero_le _
end Go.Proofs.YtblpkjlodncpeaaGreatDoor
/-
  'append([]T{}, xs...)': the elements of xs, in a row of one's own.
-/
namespace Go.Proofs.YtblpkjlodncpeaaGreatDoor
open Go.RowKit
theorem Um.run0 (P : Program) (w : World) (t ty e : TypeId) (i : TypeInfo) (ht : P.underlying t = some (.slice e)) (hi : P.info? e = some i) (g : Nat) (ak : Option Addr) (d : Nat) :
    (Builtin.append_ #[t, t] ty #[.slice (some ⟨g, 0, none⟩) 0 0, .slice ak 0 d]).run P w = .ok (.slice (some ⟨g, 0, none⟩) 0 0) w := by
  cases ak with
  | none => simp [Builtin.append_, run_underlying ht, sizeOf, typeInfo, hi, Builtin.lenOf, Builtin.firstCells, storeCells]
  | some a => simp [Builtin.append_, run_underlying ht, sizeOf, typeInfo, hi, Builtin.lenOf, Builtin.firstCells, loadCells, loadCellsFrom, storeCells]
theorem Um.wp_copy {w : World} {o : Oper} {a : Act} {K : Act → World → Prop} {Z : Exit → Act → World → Prop} (s x : Operand) (t e : TypeId) (size bytes : Nat) (z : Value)
    (ho : o.op = .call { callee := .builtin .append, args := #[s, x], argTypes := #[t, t] })
    (ht : Tryz.prog.underlying t = some (.slice e)) (hi : (Tryz.prog.info? e).map (fun i => (i.zero, i.size, i.bytes)) = some (some z, size, bytes)) (hzs : z.cells.size = size) (hsz : 0 < size)
    {base : Nat} (g1 : Nat) (hs : a.eval s = .slice (some ⟨g1, 0, none⟩) 0 0) (hown : w.ownsRow base e size (.slice (some ⟨g1, 0, none⟩) 0 0) 0 []) (n : Nat) (news : List Value) (aa : Option Addr) (ad : Nat)
    (hx : a.eval x = .slice aa n ad) (hk : ∀ j u, news[j]? = some u → ∃ b, aa = some b ∧ w.cell? (b.add j) = some u) (hl : news.length = n * size) (hone : ∀ u ∈ news, u.oneCell' = true)
    (hn1 : n ≤ maxLen) (hn : n * bytes ≤ 140737488355328) (hbase : base ≤ w.heap.size)
    (h : ∀ v' w', w'.ownsRow base e size v' n news → w.grownBy w' (some g1) → (v'.ownBlock = some g1 ∨ v'.ownBlock = some w.heap.size) → K (a.put o.dst v') w') : o.wp Tryz.prog a w K Z := by
  obtain ⟨iV, hiV, hzV, hsV, hbV⟩ := info_parts hi
  by_cases h0 : n = 0
  · subst h0
    have hrun := Um.run0 Tryz.prog w t o.type e iV ht hiV g1 aa ad
    have hnil : news = [] := List.eq_nil_of_length_eq_zero (by rw [hl]; simp)
    subst hnil
    have h2 := h (.slice (some ⟨g1, 0, none⟩) 0 0) w hown ⟨rfl, rfl, rfl, Nat.le_refl _, fun _ _ _ => rfl⟩ (.inl rfl)
    unfold Oper.wp execOp
    simp only [ho, resolve, invoke, builtin, Sem.run_bind, Sem.run_pure, Result.andThen_ok, List.map_toArray, List.map_cons, List.map_nil, hs, hx, hrun]
    exact h2
  · have hp : 0 < news.length := by rw [hl]; exact Nat.mul_pos (by omega) hsz
    obtain ⟨b, rfl, _⟩ := hk 0 _ (List.getElem?_eq_getElem hp)
    have hnews : ∀ j u, news[j]? = some u → w.cell? (b.add j) = some u := fun j u hj => by
      obtain ⟨b', e', hc⟩ := hk j u hj
      cases e'
      exact hc
    obtain ⟨v', w', hr, h2, h3, h4⟩ := run_append_own (P := Tryz.prog) w base t o.type e iV _ size bytes ht hiV hzV hsV hbV hzs hsz (.slice (some ⟨g1, 0, none⟩) 0 0) 0 [] hown b n ad news hl hnews hone (by omega) (by rw [Nat.zero_add]; exact hn) hbase
    have hf := Ro.fresh (P := Tryz.prog) base t o.type e iV _ size bytes ht hiV hzV hsV hbV hsz (.slice (some ⟨g1, 0, none⟩) 0 0) 0 [] hown b n ad (by omega) news hl hnews hone (by omega) (by rw [Nat.zero_add]; exact hn) v' w' hr
    unfold Oper.wp execOp
    simp only [ho, resolve, invoke, builtin, Sem.run_bind, Sem.run_pure, Result.andThen_ok, List.map_toArray, List.map_cons, List.map_nil, hs, hx, hr]
    rw [Nat.zero_add, List.nil_append] at h2
    exact h v' w' h2 h3 hf
/-- at a list of operations -/
theorem Um.copy {w : World} {ops : Array Oper} {rest : List Oper} {o : Oper} {a : Act} {Z : Exit → Act → World → Prop} (hgd : o.guard = none) (s x : Operand) (t e : TypeId) (size bytes : Nat) (z : Value)
    (ho : o.op = .call { callee := .builtin .append, args := #[s, x], argTypes := #[t, t] })
    (ht : Tryz.prog.underlying t = some (.slice e)) (hi : (Tryz.prog.info? e).map (fun i => (i.zero, i.size, i.bytes)) = some (some z, size, bytes)) (hzs : z.cells.size = size) (hsz : 0 < size)
    {base : Nat} (g1 : Nat) (hs : a.eval s = .slice (some ⟨g1, 0, none⟩) 0 0) (hown : w.ownsRow base e size (.slice (some ⟨g1, 0, none⟩) 0 0) 0 []) (n : Nat) (news : List Value) (aa : Option Addr) (ad : Nat)
    (hx : a.eval x = .slice aa n ad) (hk : ∀ j u, news[j]? = some u → ∃ b, aa = some b ∧ w.cell? (b.add j) = some u) (hl : news.length = n * size) (hone : ∀ u ∈ news, u.oneCell' = true)
    (hn1 : n ≤ maxLen) (hn : n * bytes ≤ 140737488355328) (hbase : base ≤ w.heap.size)
    (h : ∀ v' w', w'.ownsRow base e size v' n news → w.grownBy w' (some g1) → (v'.ownBlock = some g1 ∨ v'.ownBlock = some w.heap.size) → wpList Tryz.prog ops Z rest (a.put o.dst v') w') : wpList Tryz.prog ops Z (o :: rest) a w :=
  wpList_plain hgd fun _ hK => Um.wp_copy s x t e size bytes z ho ht hi hzs hsz g1 hs hown n news aa ad hx hk hl hone hn1 hn hbase fun v' w' h2 h3 h4 => hK _ _ (h v' w' h2 h3 h4)
/-- the attributes' cells, wherever they lie -/
theorem Um.attr_cells {w : World} {R : Nat → Prop} {al : List (ByteArray × ByteArray)} {aa : Option Addr} {an ad : Nat} (h : Ak.Lies w R al (.slice aa an ad)) : an = al.length ∧ ∀ j u, (Ak.cells al)[j]? = some u → ∃ b, aa = some b ∧ w.cell? (b.add j) = some u := by
  obtain ⟨a', d', e, h1, h2, hx⟩ := h
  injection e with e1 e2 e3
  subst e1
  refine ⟨e2, fun j u hj => ?_⟩
  have hjl : j < al.length * 2 := by rw [← Ak.cells_length]; exact (List.getElem?_eq_some_iff.1 hj).1
  have hi : j / 2 < al.length := by omega
  obtain ⟨b, o, ea, hR, c1, c2⟩ := hx (j / 2) al[j / 2] (List.getElem?_eq_getElem hi)
  obtain ⟨g1, g2⟩ := Ak.cells_get al (j / 2) al[j / 2] (List.getElem?_eq_getElem hi)
  refine ⟨⟨b, o, none⟩, ea, ?_⟩
  rw [Ro.add]
  rcases Nat.mod_two_eq_zero_or_one j with q | q
  · have e : j = j / 2 * 2 := by omega
    rw [e] at hj ⊢
    rw [g1] at hj
    rw [c1]
    exact hj
  · have e : j = j / 2 * 2 + 1 := by omega
    rw [e] at hj ⊢
    rw [g2] at hj
    rw [← Nat.add_assoc, c2]
    exact hj
theorem Um.ownAttrs {w : World} {base n : Nat} {al : List (ByteArray × ByteArray)} {v : Value} (h : w.ownsRow base 50 2 v n (Ak.cells al)) (hn : n = al.length) : Ak.Lies w (fun k => v.ownBlock = some k) al v := by
  subst hn
  exact Ak.Lies.own h
theorem Um.one_int (W : World) (k : Int) (g1 : Nat) (h : g1 = W.heap.size) : ∀ j u, [Value.int .i64 k][j]? = some u → (W.alloc (.cells #[.int .i64 k] 3)).cell? ⟨g1, j, none⟩ = some u := by
  subst h
  intro j u hj
  unfold World.cell?
  rw [show (W.alloc (.cells #[.int .i64 k] 3)).heap[W.heap.size]? = some _ from heap_alloc_new W _]
  simpa using hj
theorem Um.noInts (w : World) (base : Nat) (hb : base ≤ w.heap.size) : (w.alloc (.cells #[] 3)).ownsRow base 3 1 (.slice (some ⟨w.heap.size, 0, none⟩) 0 0) 0 [] :=
  World.ownsRow_made w #[] 0 hb (by decide) rfl
end Go.Proofs.YtblpkjlodncpeaaGreatDoor
/-
  THE PROGRAM's BUILDER IN MEMORY: its block g of three cells, the row of nodes, the row of numbers, the row of bytes.
-/
namespace Go.Proofs.YtblpkjlodncpeaaGreatDoor
open Go.RowKit
def Pm.No (g : Nat) (pv tv : Value) (k : Nat) : Prop := k = g ∨ pv.ownBlock = some k ∨ tv.ownBlock = some k
def Pm.Mine (g : Nat) (ov pv tv : Value) (k : Nat) : Prop := k = g ∨ ov.ownBlock = some k ∨ pv.ownBlock = some k ∨ tv.ownBlock = some k
structure Pm.At (base : Nat) (w : World) (g : Nat) (m : Bt) (bs : ByteArray) (ov pv tv : Value) : Prop where
  ge : base ≤ g
  c0 : w.cell? ⟨g, 0, none⟩ = some ov
  c1 : w.cell? ⟨g, 1, none⟩ = some pv
  c2 : w.cell? ⟨g, 2, none⟩ = some tv
  fz : ∀ i, w.frozen? ⟨g, i, none⟩ = false
  out : Um.Row base m.out w ov (Pm.No g pv tv)
  opn : w.ownsRow base 3 1 pv m.opn.length (Um.ints m.opn)
  txt : w.ownsRow base 5 1 tv bs.size (Lib.strCells bs)
  og : ov.ownBlock ≠ some g
  pg : pv.ownBlock ≠ some g
  tg : tv.ownBlock ≠ some g
  op : ∀ k, ov.ownBlock = some k → pv.ownBlock ≠ some k
  ot : ∀ k, ov.ownBlock = some k → tv.ownBlock ≠ some k
  pt : ∀ k, pv.ownBlock = some k → tv.ownBlock ≠ some k
section
variable {base : Nat} {w : World} {g : Nat} {m : Bt} {bs : ByteArray} {ov pv tv : Value}
theorem Pm.At.lt (h : Pm.At base w g m bs ov pv tv) : g < w.heap.size := World.block_lt_of_cell? _ _ h.c0
theorem Pm.At.lo (h : Pm.At base w g m bs ov pv tv) : base ≤ w.heap.size := Nat.le_trans h.ge (Nat.le_of_lt h.lt)
theorem Pm.At.ovLt (h : Pm.At base w g m bs ov pv tv) {k : Nat} (hk : ov.ownBlock = some k) : base ≤ k ∧ k < w.heap.size := by
  obtain ⟨xs, ho, _⟩ := h.out
  exact ho.lt k hk
theorem Pm.At.pvLt (h : Pm.At base w g m bs ov pv tv) {k : Nat} (hk : pv.ownBlock = some k) : base ≤ k ∧ k < w.heap.size := h.opn.lt k hk
theorem Pm.At.tvLt (h : Pm.At base w g m bs ov pv tv) {k : Nat} (hk : tv.ownBlock = some k) : base ≤ k ∧ k < w.heap.size := h.txt.lt k hk
theorem Pm.At.mine (h : Pm.At base w g m bs ov pv tv) {k : Nat} (hk : Pm.Mine g ov pv tv k) : base ≤ k ∧ k < w.heap.size := by
  rcases hk with rfl | q | q | q
  · exact ⟨h.ge, h.lt⟩
  · exact h.ovLt q
  · exact h.pvLt q
  · exact h.tvLt q
theorem Pm.At.on {w' : World} (h : Pm.At base w g m bs ov pv tv) (hb : Below w.heap.size w w') : Pm.At base w' g m bs ov pv tv :=
  ⟨h.ge, Tp.keep hb h.c0, Tp.keep hb h.c1, Tp.keep hb h.c2, Tp.keepF hb h.lt h.fz, h.out.on hb.size (fun k hk => hb.block k (h.ovLt hk).2) (fun k _ h2 _ h4 => ⟨h4, hb.block k h2⟩), Rm.own_on h.opn (fun k hk => hb.block k (h.pvLt hk).2), Rm.own_on h.txt (fun k hk => hb.block k (h.tvLt hk).2), h.og, h.pg, h.tg, h.op, h.ot, h.pt⟩
end
/-- all that was none of A's stands as it stood, and is none of B's -/
structure Pm.Kept (w w' : World) (A B : Nat → Prop) : Prop where
  os : w'.os = w.os
  tape : w'.tape = w.tape
  output : w'.output = w.output
  size : w.heap.size ≤ w'.heap.size
  block : ∀ k, k < w.heap.size → ¬ A k → w'.heap[k]? = w.heap[k]? ∧ ¬ B k
theorem Pm.Kept.refl (w : World) (A : Nat → Prop) : Pm.Kept w w A A := ⟨rfl, rfl, rfl, Nat.le_refl _, fun _ _ h => ⟨rfl, h⟩⟩
theorem Pm.Kept.trans {w w1 w2 : World} {A B C : Nat → Prop} (h : Pm.Kept w w1 A B) (h2 : Pm.Kept w1 w2 B C) : Pm.Kept w w2 A C :=
  ⟨h2.os.trans h.os, h2.tape.trans h.tape, h2.output.trans h.output, Nat.le_trans h.size h2.size, fun k hk hf => by
    obtain ⟨a1, a2⟩ := h.block k hk hf
    obtain ⟨b1, b2⟩ := h2.block k (Nat.lt_of_lt_of_le hk h.size) a2
    exact ⟨b1.trans a1, b2⟩⟩
theorem Pm.Kept.of {w w1 : World} (A : Nat → Prop) (hb : Below w.heap.size w w1) : Pm.Kept w w1 A A := ⟨hb.os, hb.tape, hb.output, hb.size, fun k hk hf => ⟨hb.block k hk, hf⟩⟩
theorem Pm.Kept.cell {w w' : World} {A B : Nat → Prop} (h : Pm.Kept w w' A B) {b o : Nat} {v : Value} (hf : ¬ A b) (hc : w.cell? ⟨b, o, none⟩ = some v) : w'.cell? ⟨b, o, none⟩ = some v :=
  (World.cell?_of_block (a := ⟨b, o, none⟩) (h.block b (World.block_lt_of_cell? _ _ hc) hf).1).trans hc
theorem Pm.Kept.low {base lo : Nat} {w wr w' : World} {g : Nat} {m : Bt} {bs : ByteArray} {ov pv tv : Value} {B : Nat → Prop} (hK : Pm.Kept wr w' (Pm.Mine g ov pv tv) B) (hA : Pm.At base wr g m bs ov pv tv) (hb : Below lo w wr) (hlo : lo ≤ base) (hs : lo ≤ w.heap.size) : Below lo w w' :=
  ⟨hK.os.trans hb.os, hK.tape.trans hb.tape, hK.output.trans hb.output, Nat.le_trans hb.size hK.size, fun k hk => (hK.block k (by have := hb.size; omega) (fun q => by have := (hA.mine q).1; omega)).1.trans (hb.block k hk)⟩
/-- attributes that lie apart of the builder's own blocks lie there still -/
def Pm.Off (base : Nat) (w : World) (A : Nat → Prop) (k : Nat) : Prop := base ≤ k ∧ k < w.heap.size ∧ ¬ A k ∧ Rm.Ub w k
theorem Pm.Kept.attrs {base : Nat} {w w' : World} {A B : Nat → Prop} (h : Pm.Kept w w' A B) {al : List (ByteArray × ByteArray)} {v : Value} (hl : Ak.Lies w (Pm.Off base w A) al v) : Ak.Lies w' (Pm.Off base w' B) al v :=
  hl.on fun k hk => by
    obtain ⟨q1, q2⟩ := h.block k hk.2.1 hk.2.2.1
    exact ⟨⟨hk.1, Nat.lt_of_lt_of_le hk.2.1 h.size, q2, hk.2.2.2.on q1⟩, q1⟩
theorem Pm.held {w w1 w4 : World} {xv xv' : Value} {r : Option Nat} (hq : Below w.heap.size w w1) (hr : r = xv.ownBlock ∨ ∃ k, r = some k ∧ w.heap.size ≤ k) (hg : w1.grownBy w4 r) (hf : xv'.ownBlock = xv.ownBlock ∨ ∃ k, xv'.ownBlock = some k ∧ w.heap.size ≤ k) (k : Nat) (hk : k < w.heap.size) (hv : xv.ownBlock ≠ some k) : xv'.ownBlock ≠ some k ∧ w4.heap[k]? = w.heap[k]? :=
  ⟨(fun e => by
    rcases hf with q | ⟨k', q, hk'⟩
    · rw [q] at e; exact hv e
    · rw [q] at e; have := Option.some.inj e; omega), (hg.block k (Nat.lt_of_lt_of_le hk hq.size) (fun e => by
      rcases hr with q | ⟨k', q, hk'⟩
      · rw [q] at e; exact hv e.symm
      · rw [q] at e; have := Option.some.inj e; omega)).trans (hq.block k hk)⟩
/-- another row in one of the builder's cells: what is kept -/
theorem Pm.setKept {w w1 w4 : World} {g j : Nat} {A B : Nat → Prop} {x' : Value} (hgA : A g) (hq : Below w.heap.size w w1) {r : Option Nat} (hg : w1.grownBy w4 r) (hb : ∀ k, k < w.heap.size → ¬ A k → w4.heap[k]? = w.heap[k]? ∧ ¬ B k) : Pm.Kept w (w4.setCell ⟨g, j, none⟩ x') A B :=
  ⟨hg.os.trans hq.os, hg.tape.trans hq.tape, hg.output.trans hq.output, by simpa using Nat.le_trans hq.size hg.size, fun k hk hfr => ⟨(Below.heap_setCell _ _ _ _ (fun e => hfr (by rw [e]; exact hgA))).trans (hb k hk hfr).1, (hb k hk hfr).2⟩⟩
theorem Pm.frozenOn {w w' : World} {g : Nat} (hb : w'.heap[g]? = w.heap[g]?) (h : ∀ i, w.frozen? ⟨g, i, none⟩ = false) (i : Nat) : w'.frozen? ⟨g, i, none⟩ = false := by
  have := h i
  unfold World.frozen? at this ⊢
  rw [hb]
  exact this
/-- a node more, laid down -/
theorem Pm.At.push {base : Nat} {w w1 w4 : World} {g : Nat} {m : Bt} {bs : ByteArray} {ov pv tv ov' av : Value} {x : Nd} (h : Pm.At base w g m bs ov pv tv) (hq : Below w.heap.size w w1) (xs : List Value)
    (hx : w.ownsRow base 48 5 ov m.out.length xs ∧ ∀ i x, m.out[i]? = some x → ∃ av, Nd.Has xs i x av ∧ Ak.Lies w (fun k => base ≤ k ∧ k < w.heap.size ∧ ov.ownBlock ≠ some k ∧ ¬ (Pm.No g pv tv) k ∧ Rm.Ub w k) x.attrs av)
    (hat : Ak.Lies w (Pm.Off base w (Pm.Mine g ov pv tv)) x.attrs av)
    (R4 : w4.ownsRow base 48 5 ov' (m.out.length + 1) (xs ++ Nd.five x av)) (hg : w1.grownBy w4 ov.ownBlock) (hf : ov'.ownBlock = ov.ownBlock ∨ ov'.ownBlock = some w1.heap.size) :
    Pm.At base (w4.setCell ⟨g, 0, none⟩ ov') g { m with out := m.out ++ [x] } bs ov' pv tv ∧ Pm.Kept w (w4.setCell ⟨g, 0, none⟩ ov') (Pm.Mine g ov pv tv) (Pm.Mine g ov' pv tv) := by
  have hlt := h.lt
  have hold := Pm.held (xv := ov) (xv' := ov') hq (.inl rfl) hg (hf.imp id fun e => ⟨_, e, hq.size⟩)
  have hne : ∀ k, k ≠ g → (w4.setCell ⟨g, 0, none⟩ ov').heap[k]? = w4.heap[k]? := fun k hk => Below.heap_setCell _ _ _ _ hk
  have hsz : w.heap.size ≤ w4.heap.size := Nat.le_trans hq.size hg.size
  have hpv : ∀ k, pv.ownBlock = some k → k < w.heap.size ∧ ov.ownBlock ≠ some k := fun k hk => ⟨(h.pvLt hk).2, fun e => h.op k e hk⟩
  have htv : ∀ k, tv.ownBlock = some k → k < w.heap.size ∧ ov.ownBlock ≠ some k := fun k hk => ⟨(h.tvLt hk).2, fun e => h.ot k e hk⟩
  obtain ⟨hg1, hg2⟩ := hold g hlt h.og
  have hT : Um.Row base (m.out ++ [x]) w4 ov' (Pm.No g pv tv) := by
    refine Um.Row.push xs hx.1 hx.2 hsz R4 (hat.on fun k hk => ?_) (fun k _ h2 h3 h4 => ⟨⟨(hold k h2 h3).1, h4⟩, (hold k h2 h3).2⟩)
    have h3 : ov.ownBlock ≠ some k := fun e => hk.2.2.1 (.inr (.inl e))
    obtain ⟨q1, q2⟩ := hold k hk.2.1 h3
    refine ⟨⟨hk.1, Nat.lt_of_lt_of_le hk.2.1 hsz, q1, fun q => hk.2.2.1 ?_, hk.2.2.2.on q2⟩, q2⟩
    rcases q with q | q | q
    · exact .inl q
    · exact .inr (.inr (.inl q))
    · exact .inr (.inr (.inr q))
  have hc0 : w4.cell? ⟨g, 0, none⟩ = some ov := (World.cell?_of_block (a := ⟨g, 0, none⟩) hg2).trans h.c0
  have hc1 : w4.cell? ⟨g, 1, none⟩ = some pv := (World.cell?_of_block (a := ⟨g, 1, none⟩) hg2).trans h.c1
  have hc2 : w4.cell? ⟨g, 2, none⟩ = some tv := (World.cell?_of_block (a := ⟨g, 2, none⟩) hg2).trans h.c2
  refine ⟨⟨h.ge, by simp [go_sem, hc0], ?_, ?_, fun i => ?_, ?_, ?_, ?_, hg1, h.pg, h.tg, fun k hk hk2 => (hold k (hpv k hk2).1 (hpv k hk2).2).1 hk, fun k hk hk2 => (hold k (htv k hk2).1 (htv k hk2).2).1 hk, h.pt⟩, Pm.setKept (.inl rfl) hq hg fun k hk hfr => ?_⟩
  · rw [World.cell?_setCell_other _ _ _ _ (fun e => by injection e with e1 e2; cases e2)]
    exact hc1
  · rw [World.cell?_setCell_other _ _ _ _ (fun e => by injection e with e1 e2; cases e2)]
    exact hc2
  · rw [World.frozen?_setCell]
    exact Pm.frozenOn hg2 h.fz i
  · exact hT.on (by simp) (fun k hk => hne k (fun e => hg1 (by rw [← e]; exact hk))) (fun k _ _ _ h4 => ⟨h4, hne k (fun e => h4 (.inl e))⟩)
  · exact Rm.own_on h.opn (fun k hk => (hne k (fun e => h.pg (by rw [← e]; exact hk))).trans (hold k (hpv k hk).1 (hpv k hk).2).2)
  · exact Rm.own_on h.txt (fun k hk => (hne k (fun e => h.tg (by rw [← e]; exact hk))).trans (hold k (htv k hk).1 (htv k hk).2).2)
  · have h3 : ov.ownBlock ≠ some k := fun e => hfr (.inr (.inl e))
    refine ⟨(hold k hk h3).2, fun q => ?_⟩
    rcases q with q | q | q
    · exact hfr (.inl q)
    · exact (hold k hk h3).1 q
    · exact hfr (.inr (.inr q))
/-- another text in a node -/
theorem Pm.At.put {base : Nat} {w : World} {g : Nat} {m : Bt} {bs : ByteArray} {og od : Nat} {pv tv : Value} (h : Pm.At base w g m bs (.slice (some ⟨og, 0, none⟩) m.out.length od) pv tv) {i : Nat} {x : Nd} (hi : m.out[i]? = some x) (y : ByteArray) :
    Pm.At base (w.setCell ⟨og, i * 5 + 2, none⟩ (.string y)) g { m with out := m.out.set i { x with text := y } } bs (.slice (some ⟨og, 0, none⟩) m.out.length od) pv tv ∧ Pm.Kept w (w.setCell ⟨og, i * 5 + 2, none⟩ (.string y)) (Pm.Mine g (.slice (some ⟨og, 0, none⟩) m.out.length od) pv tv) (Pm.Mine g (.slice (some ⟨og, 0, none⟩) m.out.length od) pv tv) := by
  have hg : g ≠ og := fun e => h.og (by rw [e]; rfl)
  have hne : ∀ k, k ≠ og → (w.setCell ⟨og, i * 5 + 2, none⟩ (.string y)).heap[k]? = w.heap[k]? := fun k hk => Below.heap_setCell _ _ _ _ hk
  have hb := hne g hg
  refine ⟨⟨h.ge, (World.cell?_of_block (a := ⟨g, 0, none⟩) hb).trans h.c0, (World.cell?_of_block (a := ⟨g, 1, none⟩) hb).trans h.c1, (World.cell?_of_block (a := ⟨g, 2, none⟩) hb).trans h.c2, fun j => by rw [World.frozen?_setCell]; exact h.fz j, ?_, ?_, ?_, h.og, h.pg, h.tg, h.op, h.ot, h.pt⟩, ⟨rfl, rfl, rfl, by simp, fun k _ hf => ⟨hne k (fun e => hf (.inr (.inl (by rw [e]; rfl)))), hf⟩⟩⟩
  · have := Um.Row.put h.out hi y
    exact this
  · exact Rm.own_on h.opn (fun k hk => hne k (fun e => h.op og rfl (by rw [← e]; exact hk)))
  · exact Rm.own_on h.txt (fun k hk => hne k (fun e => h.ot og rfl (by rw [← e]; exact hk)))
/-- another row of numbers -/
theorem Pm.At.open {base : Nat} {w w1 w4 : World} {g : Nat} {m : Bt} {bs : ByteArray} {ov pv tv pv' : Value} {l : List Nat} (h : Pm.At base w g m bs ov pv tv) (hq : Below w.heap.size w w1) {r : Option Nat} (hr : r = pv.ownBlock ∨ ∃ k, r = some k ∧ w.heap.size ≤ k)
    (R4 : w4.ownsRow base 3 1 pv' l.length (Um.ints l)) (hg : w1.grownBy w4 r) (hf : pv'.ownBlock = pv.ownBlock ∨ ∃ k, pv'.ownBlock = some k ∧ w.heap.size ≤ k) :
    Pm.At base (w4.setCell ⟨g, 1, none⟩ pv') g { m with opn := l } bs ov pv' tv ∧ Pm.Kept w (w4.setCell ⟨g, 1, none⟩ pv') (Pm.Mine g ov pv tv) (Pm.Mine g ov pv' tv) := by
  have hlt := h.lt
  have hold := Pm.held (xv := pv) (xv' := pv') hq hr hg hf
  have hne : ∀ k, k ≠ g → (w4.setCell ⟨g, 1, none⟩ pv').heap[k]? = w4.heap[k]? := fun k hk => Below.heap_setCell _ _ _ _ hk
  have hsz : w.heap.size ≤ w4.heap.size := Nat.le_trans hq.size hg.size
  obtain ⟨hg1, hg2⟩ := hold g hlt h.pg
  have hov : ∀ k, ov.ownBlock = some k → k < w.heap.size ∧ pv.ownBlock ≠ some k := fun k hk => ⟨(h.ovLt hk).2, h.op k hk⟩
  have htv : ∀ k, tv.ownBlock = some k → k < w.heap.size ∧ pv.ownBlock ≠ some k := fun k hk => ⟨(h.tvLt hk).2, fun e => h.pt k e hk⟩
  have hc0 : w4.cell? ⟨g, 0, none⟩ = some ov := (World.cell?_of_block (a := ⟨g, 0, none⟩) hg2).trans h.c0
  have hc1 : w4.cell? ⟨g, 1, none⟩ = some pv := (World.cell?_of_block (a := ⟨g, 1, none⟩) hg2).trans h.c1
  have hc2 : w4.cell? ⟨g, 2, none⟩ = some tv := (World.cell?_of_block (a := ⟨g, 2, none⟩) hg2).trans h.c2
  refine ⟨⟨h.ge, ?_, by simp [go_sem, hc1], ?_, fun i => ?_, ?_, ?_, ?_, h.og, hg1, h.tg, fun k hk => (hold k (hov k hk).1 (hov k hk).2).1, h.ot, fun k hk hk2 => (hold k (htv k hk2).1 (htv k hk2).2).1 hk⟩, Pm.setKept (.inl rfl) hq hg fun k hk hfr => ?_⟩
  · rw [World.cell?_setCell_other _ _ _ _ (fun e => by injection e with e1 e2; cases e2)]
    exact hc0
  · rw [World.cell?_setCell_other _ _ _ _ (fun e => by injection e with e1 e2; cases e2)]
    exact hc2
  · rw [World.frozen?_setCell]
    exact Pm.frozenOn hg2 h.fz i
  · refine h.out.on (by simpa using hsz) (fun k hk => (hne k (fun e => h.og (by rw [← e]; exact hk))).trans (hold k (hov k hk).1 (hov k hk).2).2) (fun k _ h2 _ h4 => ?_)
    have h5 : pv.ownBlock ≠ some k := fun e => h4 (.inr (.inl e))
    refine ⟨fun q => ?_, (hne k (fun e => h4 (.inl e))).trans (hold k h2 h5).2⟩
    rcases q with q | q | q
    · exact h4 (.inl q)
    · exact (hold k h2 h5).1 q
    · exact h4 (.inr (.inr q))
  · exact Rm.own_on R4 (fun k hk => hne k (fun e => hg1 (by rw [← e]; exact hk)))
  · exact Rm.own_on h.txt (fun k hk => (hne k (fun e => h.tg (by rw [← e]; exact hk))).trans (hold k (htv k hk).1 (htv k hk).2).2)
  · have h3 : pv.ownBlock ≠ some k := fun e => hfr (.inr (.inr (.inl e)))
    refine ⟨(hold k hk h3).2, fun q => ?_⟩
    rcases q with q | q | q | q
    · exact hfr (.inl q)
    · exact hfr (.inr (.inl q))
    · exact (hold k hk h3).1 q
    · exact hfr (.inr (.inr (.inr q)))
/-- another row of bytes -/
theorem Pm.At.text {base : Nat} {w w1 w4 : World} {g : Nat} {m : Bt} {bs bs' : ByteArray} {ov pv tv tv' : Value} (h : Pm.At base w g m bs ov pv tv) (hq : Below w.heap.size w w1) {r : Option Nat} (hr : r = tv.ownBlock ∨ ∃ k, r = some k ∧ w.heap.size ≤ k)
    (R4 : w4.ownsRow base 5 1 tv' bs'.size (Lib.strCells bs')) (hg : w1.grownBy w4 r) (hf : tv'.ownBlock = tv.ownBlock ∨ ∃ k, tv'.ownBlock = some k ∧ w.heap.size ≤ k) :
    Pm.At base (w4.setCell ⟨g, 2, none⟩ tv') g m bs' ov pv tv' ∧ Pm.Kept w (w4.setCell ⟨g, 2, none⟩ tv') (Pm.Mine g ov pv tv) (Pm.Mine g ov pv tv') := by
  have hlt := h.lt
  have hold := Pm.held (xv := tv) (xv' := tv') hq hr hg hf
  have hne : ∀ k, k ≠ g → (w4.setCell ⟨g, 2, none⟩ tv').heap[k]? = w4.heap[k]? := fun k hk => Below.heap_setCell _ _ _ _ hk
  have hsz : w.heap.size ≤ w4.heap.size := Nat.le_trans hq.size hg.size
  obtain ⟨hg1, hg2⟩ := hold g hlt h.tg
  have hov : ∀ k, ov.ownBlock = some k → k < w.heap.size ∧ tv.ownBlock ≠ some k := fun k hk => ⟨(h.ovLt hk).2, h.ot k hk⟩
  have hpv : ∀ k, pv.ownBlock = some k → k < w.heap.size ∧ tv.ownBlock ≠ some k := fun k hk => ⟨(h.pvLt hk).2, h.pt k hk⟩
  have hc0 : w4.cell? ⟨g, 0, none⟩ = some ov := (World.cell?_of_block (a := ⟨g, 0, none⟩) hg2).trans h.c0
  have hc1 : w4.cell? ⟨g, 1, none⟩ = some pv := (World.cell?_of_block (a := ⟨g, 1, none⟩) hg2).trans h.c1
  have hc2 : w4.cell? ⟨g, 2, none⟩ = some tv := (World.cell?_of_block (a := ⟨g, 2, none⟩) hg2).trans h.c2
  refine ⟨⟨h.ge, ?_, ?_, by simp [go_sem, hc2], fun i => ?_, ?_, ?_, ?_, h.og, h.pg, hg1, h.op, fun k hk => (hold k (hov k hk).1 (hov k hk).2).1, fun k hk => (hold k (hpv k hk).1 (hpv k hk).2).1⟩, Pm.setKept (.inl rfl) hq hg fun k hk hfr => ?_⟩
  · rw [World.cell?_setCell_other _ _ _ _ (fun e => by injection e with e1 e2; cases e2)]
    exact hc0
  · rw [World.cell?_setCell_other _ _ _ _ (fun e => by injection e with e1 e2; cases e2)]
    exact hc1
  · rw [World.frozen?_setCell]
    exact Pm.frozenOn hg2 h.fz i
  · refine h.out.on (by simpa using hsz) (fun k hk => (hne k (fun e => h.og (by rw [← e]; exact hk))).trans (hold k (hov k hk).1 (hov k hk).2).2) (fun k _ h2 _ h4 => ?_)
    have h5 : tv.ownBlock ≠ some k := fun e => h4 (.inr (.inr e))
    refine ⟨fun q => ?_, (hne k (fun e => h4 (.inl e))).trans (hold k h2 h5).2⟩
    rcases q with q | q | q
    · exact h4 (.inl q)
    · exact h4 (.inr (.inl q))
    · exact (hold k h2 h5).1 q
  · exact Rm.own_on h.opn (fun k hk => (hne k (fun e => h.pg (by rw [← e]; exact hk))).trans (hold k (hpv k hk).1 (hpv k hk).2).2)
  · exact Rm.own_on R4 (fun k hk => hne k (fun e => hg1 (by rw [← e]; exact hk)))
  · have h3 : tv.ownBlock ≠ some k := fun e => hfr (.inr (.inr (.inr e)))
    refine ⟨(hold k hk h3).2, fun q => ?_⟩
    rcases q with q | q | q | q
    · exact hfr (.inl q)
    · exact hfr (.inr (.inl q))
    · exact hfr (.inr (.inr (.inl q)))
    · exact (hold k hk h3).1 q
/-- a row of one's own, cut short -/
theorem Pm.short {w : World} {base : Nat} {e : TypeId} {n g d : Nat} {xs : List Value} (h : w.ownsRow base e 1 (.slice (some ⟨g, 0, none⟩) n d) n xs) (i : Nat) (hi : i ≤ n) : w.ownsRow base e 1 (.slice (some ⟨g, 0, none⟩) i d) i (xs.take i) := by
  have hl := h.1
  rcases h.2 with ⟨q, _⟩ | ⟨g', cap, cur, q, hb, hg, h1, h2, h3, h4⟩
  · cases q
  · injection q with q1 q2 q3
    subst q3
    injection q1 with q1
    injection q1 with q1
    subst q1
    refine ⟨by rw [List.length_take]; omega, .inr ⟨g, _, cur, rfl, hb, hg, by omega, h2, h3, ?_⟩⟩
    rw [← h4, List.take_take]
    congr 1
    omega
theorem Pm.bytes_append (a b : ByteArray) : Lib.strCells (a ++ b) = Lib.strCells a ++ Lib.strCells b := by simp [Lib.strCells, ByteArray.data_append]
/-- the bytes' row as a text -/
theorem Pm.conv {wr : World} {B : Nat} {v : Value} {s : ByteArray} (h : wr.ownsRow B 5 1 v s.size (Lib.strCells s)) :
    (convert 43 9 v).run Tryz.prog wr = .ok (.string s) wr := by
  obtain ⟨acc, rfl⟩ : ∃ acc : List UInt8, s = ⟨acc.toArray⟩ := ⟨s.data.toList, by apply ByteArray.ext; simp⟩
  have hz : (⟨acc.toArray⟩ : ByteArray).size = acc.length := by show acc.toArray.size = _; simp
  have hc : Lib.strCells ⟨acc.toArray⟩ = Lib.byteCells acc := by simp [Lib.strCells, Lib.byteCells]
  rw [hz, hc] at h
  rcases h.2 with ⟨rfl, h0⟩ | ⟨g, cap, cur, rfl, _⟩
  · have e : acc = [] := List.eq_nil_of_length_eq_zero h0
    subst e
    rw [run_convert_bytes_string wr 43 9 5 none 0 0 Tryz.underlying43 Tryz.underlying5 Tryz.underlying9]
    simp [Conv.bytesToString]
    rfl
  · refine run_convert_bytes_back (P := Tryz.prog) wr 43 9 5 ⟨g, 0, none⟩ cap acc Tryz.underlying43 Tryz.underlying5 Tryz.underlying9 (fun j hj => ?_)
    have e : (⟨g, 0, none⟩ : Addr).add j = ⟨g, j, none⟩ := by rw [Addr.add_lit, Nat.zero_add]
    rw [e, h.cellAt j (by omega)]
    simp [Lib.byteCells, hj]
end Go.Proofs.YtblpkjlodncpeaaGreatDoor
/-
  PLAIN: a tag that is written from its parts is told as these.
-/
namespace Go.Proofs.YtblpkjlodncpeaaGreatDoor
theorem Tg.len : ∀ (n u : Nat), u < 10 ^ (n + 1) → (Lib.decDigits u).length ≤ n + 1
  | 0, u, h => by
    rw [Lib.decDigits, dif_pos (by omega)]
    simp
  | n + 1, u, h => by
    rw [Lib.decDigits]
    split
    · simp
    · have := Tg.len n (u / 10) (by rw [Nat.pow_succ] at h; omega)
      simp
      omega
end Go.Proofs.YtblpkjlodncpeaaGreatDoor

/-
  PLAIN: the program's own way to make the tree: the last text's bytes are gathered beside the nodes, and given to it when another node is made.
-/
import Derived.Test.YthfobjkdcncoiaaUPlain
namespace Go.Proofs.Ythfobjkdcncoiaa
/-- the last node is given the bytes that were gathered -/
def Pb.flush (m : Bt) (bs : ByteArray) : Bt := if bs.size = 0 then m else { m with out := m.out.set m.last { m.nth m.last with text := bs } }
/-- what a token does -/
def Pb.take (m : Bt) (bs : ByteArray) (t : Tk) : Bt × ByteArray :=
  if t.kind = 0 then
    if t.text = Ts.e then (m, bs)
    else if (m.nth m.last).kind = 2 ∧ (m.nth m.last).parent = (m.top : Int) then (m, bs ++ t.text)
    else ((Pb.flush m bs).node ⟨2, Ts.e, Ts.e, [], 0⟩, Ts.e ++ t.text)
  else if t.kind = 3 then ((Pb.flush m bs).node ⟨3, Ts.e, t.text, [], 0⟩, Ts.e)
  else if t.kind = 1 then
    if Ts.kind t.name ≠ 1 ∧ m.opn.length ≤ 32 then ({ (Pb.flush m bs).node ⟨1, t.name, Ts.e, t.attrs, 0⟩ with opn := m.opn ++ [m.out.length] }, Ts.e)
    else ((Pb.flush m bs).node ⟨1, t.name, Ts.e, t.attrs, 0⟩, Ts.e)
  else if t.kind = 2 then
    if m.find t.name m.opn.length = 0 then (m, bs) else ({ m with opn := m.opn.take (m.find t.name m.opn.length) }, bs)
  else (m, bs)
theorem Pb.flush_len (m : Bt) (bs : ByteArray) : (Pb.flush m bs).out.length = m.out.length := by
  unfold Pb.flush
  split
  · rfl
  · exact List.length_set
theorem Pb.flush_opn (m : Bt) (bs : ByteArray) : (Pb.flush m bs).opn = m.opn := by
  unfold Pb.flush
  split <;> rfl
theorem Pb.flush_top (m : Bt) (bs : ByteArray) : (Pb.flush m bs).top = m.top := by unfold Bt.top; rw [Pb.flush_opn]
theorem Pb.flush_last (m : Bt) (bs : ByteArray) : (Pb.flush m bs).last = m.last := by unfold Bt.last; rw [Pb.flush_len]
theorem Pb.flush_none (m : Bt) : Pb.flush m Ts.e = m := if_pos rfl
theorem Pb.size_ne {s : ByteArray} (h : ¬ s = Ts.e) : ¬ s.size = 0 := fun e => h (by
  apply ByteArray.ext
  exact Array.eq_empty_of_size_eq_zero e)
theorem Pb.e_append (s : ByteArray) : Ts.e ++ s = s := by
  apply ByteArray.ext
  simp [ByteArray.data_append, Ts.e]
theorem Pb.nth_last {m : Bt} (h : 0 < m.out.length) : m.out[m.last]? = some (m.nth m.last) := by
  unfold Bt.nth Bt.last
  rw [List.getElem?_eq_getElem (by omega)]
  rfl
/-- a node behind the flush, at any place -/
theorem Pb.flush_nth (m : Bt) (bs : ByteArray) (h : 0 < m.out.length) (i : Nat) : (Pb.flush m bs).nth i = if i = m.last ∧ ¬ bs.size = 0 then { m.nth m.last with text := bs } else m.nth i := by
  unfold Pb.flush
  split
  · next q => rw [if_neg (fun r => r.2 q)]
  · next q =>
    unfold Bt.nth
    show ((m.out.set m.last _)[i]?).getD Nd.zero = _
    by_cases e : i = m.last
    · subst e
      rw [if_pos ⟨rfl, q⟩, List.getElem?_set_self (by unfold Bt.last; omega)]
      rfl
    · rw [if_neg (fun r => e r.1), List.getElem?_set_ne (fun r => e r.symm)]
theorem Pb.flush_name (m : Bt) (bs : ByteArray) (h : 0 < m.out.length) (i : Nat) : ((Pb.flush m bs).nth i).name = (m.nth i).name ∧ ((Pb.flush m bs).nth i).kind = (m.nth i).kind ∧ ((Pb.flush m bs).nth i).parent = (m.nth i).parent := by
  rw [Pb.flush_nth m bs h]
  split
  · next q => rw [q.1]; exact ⟨rfl, rfl, rfl⟩
  · exact ⟨rfl, rfl, rfl⟩
theorem Pb.flush_find (m : Bt) (bs : ByteArray) (h : 0 < m.out.length) (n : ByteArray) : ∀ k, (Pb.flush m bs).find n k = m.find n k
  | 0 => rfl
  | k + 1 => by
    unfold Bt.find
    rw [Pb.flush_opn, (Pb.flush_name m bs h _).1, Pb.flush_find m bs h n k]
/-- what the document's way has, and what lies there -/
structure Pb.Sim (m r : Bt) (bs : ByteArray) : Prop where
  eq : Pb.flush r bs = m
  ok : Bt.Ok r
  held : (r.nth r.last).kind = 2 → ¬ bs = Ts.e
theorem Pb.Sim.len {m r : Bt} {bs : ByteArray} (h : Pb.Sim m r bs) : m.out.length = r.out.length := by rw [← h.eq, Pb.flush_len]
theorem Pb.Sim.start : Pb.Sim Bt.start Bt.start Ts.e := ⟨Pb.flush_none _, Bt.Ok.start, fun h => absurd h (by decide)⟩
theorem Pb.Ok.flush {m : Bt} (h : Bt.Ok m) (bs : ByteArray) : Bt.Ok (Pb.flush m bs) := ⟨by rw [Pb.flush_len]; exact h.some, by rw [Pb.flush_opn]; exact h.opn, by rw [Pb.flush_opn, Pb.flush_len]; exact h.lt, by rw [Pb.flush_opn]; exact h.few⟩
theorem Pb.node_last (m : Bt) (x : Nd) : (m.node x).last = m.out.length ∧ (m.node x).nth (m.node x).last = { x with parent := (m.top : Int) } := by
  have e : (m.node x).last = m.out.length := by
    show (m.out ++ [_]).length - 1 = _
    rw [List.length_append]
    simp
  refine ⟨e, ?_⟩
  rw [e]
  unfold Bt.nth Bt.node
  show ((m.out ++ [_])[m.out.length]?).getD Nd.zero = _
  rw [List.getElem?_append_right (Nat.le_refl _), Nat.sub_self]
  rfl
theorem Pb.set_last (l : List Nd) (x y : Nd) : (l ++ [x]).set l.length y = l ++ [y] := by
  rw [List.set_append_right _ _ (Nat.le_refl _), Nat.sub_self]
  rfl
theorem Pb.node_flush (m : Bt) (x : Nd) {s : ByteArray} (h : ¬ s.size = 0) : Pb.flush (m.node x) s = m.node { x with text := s } := by
  unfold Pb.flush
  rw [if_neg h, (Pb.node_last m x).2, (Pb.node_last m x).1]
  unfold Bt.node
  show ({ out := (m.out ++ [_]).set m.out.length _, opn := m.opn } : Bt) = _
  rw [Pb.set_last]
theorem Pb.Sim.take {m r : Bt} {bs : ByteArray} (h : Pb.Sim m r bs) (t : Tk) : Pb.Sim (m.token t) (Pb.take r bs t).1 (Pb.take r bs t).2 := by
  obtain ⟨rfl, hok, hheld⟩ := h
  have hl := hok.some
  have hn := Pb.flush_name r bs hl
  have hN : ∀ x : Nd, ¬ x.kind = 2 → Pb.Sim ((Pb.flush r bs).node x) ((Pb.flush r bs).node x) Ts.e := fun x hx => ⟨Pb.flush_none _, (Pb.Ok.flush hok bs).node x, fun e => absurd (by rw [(Pb.node_last _ x).2] at e; exact e) hx⟩
  unfold Bt.token Pb.take
  by_cases k0 : t.kind = 0
  · rw [if_pos k0, if_pos k0]
    by_cases hx : t.text = Ts.e
    · rw [if_pos hx, if_pos hx]
      exact ⟨rfl, hok, hheld⟩
    · rw [if_neg hx, if_neg hx, Pb.flush_last, (hn r.last).2.1, (hn r.last).2.2, Pb.flush_top]
      by_cases hq : (r.nth r.last).kind = 2 ∧ (r.nth r.last).parent = (r.top : Int)
      · rw [if_pos hq, if_pos hq]
        have hb := hheld hq.1
        refine ⟨?_, hok, fun _ e => hx ?_⟩
        · show Pb.flush r (bs ++ t.text) = (Pb.flush r bs).put t.text
          unfold Bt.put
          rw [Pb.flush_last, Pb.flush_nth r bs hl, if_pos ⟨rfl, Pb.size_ne hb⟩]
          unfold Pb.flush
          rw [if_neg (Pb.size_ne hb), if_neg (by rw [ByteArray.size_append]; have := Pb.size_ne hb; omega)]
          show _ = ({ out := (r.out.set _ _).set _ _, opn := _ } : Bt)
          rw [List.set_set]
        · have e2 : (bs ++ t.text).size = 0 := by rw [show bs ++ t.text = Ts.e from e]; rfl
          rw [ByteArray.size_append] at e2
          exact absurd (show bs.size = 0 by omega) (Pb.size_ne hb)
      · rw [if_neg hq, if_neg hq]
        refine ⟨?_, (Pb.Ok.flush hok bs).node _, fun _ e => hx (by rw [← Pb.e_append t.text]; exact e)⟩
        show Pb.flush ((Pb.flush r bs).node _) (Ts.e ++ t.text) = _
        rw [Pb.e_append, Pb.node_flush _ _ (Pb.size_ne hx)]
  rw [if_neg k0, if_neg k0]
  by_cases k3 : t.kind = 3
  · rw [if_pos k3, if_pos k3]
    exact hN _ (show ¬ (3 : Int) = 2 by decide)
  rw [if_neg k3, if_neg k3]
  by_cases k1 : t.kind = 1
  · rw [if_pos k1, if_pos k1, Pb.flush_opn, Pb.flush_len]
    by_cases hq : Ts.kind t.name ≠ 1 ∧ r.opn.length ≤ 32
    · rw [if_pos hq, if_pos hq]
      refine ⟨Pb.flush_none _, ?_, fun e => absurd (by
        have e2 := (Pb.node_last (Pb.flush r bs) ⟨1, t.name, Ts.e, t.attrs, 0⟩).2
        have e3 : (((Pb.flush r bs).node ⟨1, t.name, Ts.e, t.attrs, 0⟩).nth ((Pb.flush r bs).node ⟨1, t.name, Ts.e, t.attrs, 0⟩).last).kind = 2 := e
        rw [e2] at e3
        exact e3) (by decide : ¬ ((1 : Int) = 2))⟩
      have := (Pb.Ok.flush hok bs).token t
      unfold Bt.token at this
      rw [if_neg k0, if_neg k3, if_pos k1, Pb.flush_opn, Pb.flush_len, if_pos hq] at this
      exact this
    · rw [if_neg hq, if_neg hq]
      exact hN _ (show ¬ (1 : Int) = 2 by decide)
  rw [if_neg k1, if_neg k1]
  by_cases k2 : t.kind = 2
  · rw [if_pos k2, if_pos k2, Pb.flush_opn, Pb.flush_find r bs hl]
    by_cases hf : r.find t.name r.opn.length = 0
    · rw [if_pos hf, if_pos hf]
      exact ⟨rfl, hok, hheld⟩
    · rw [if_neg hf, if_neg hf]
      refine ⟨?_, ?_, hheld⟩
      · unfold Pb.flush
        split
        · rfl
        · rfl
      · have := hok.token t
        unfold Bt.token at this
        rw [if_neg k0, if_neg k3, if_neg k1, if_pos k2, if_neg hf] at this
        exact this
  · rw [if_neg k2, if_neg k2]
    exact ⟨rfl, hok, hheld⟩
/-- how many bytes are gathered -/
theorem Pb.take_bulk (r : Bt) (bs : ByteArray) (t : Tk) : (Pb.take r bs t).2.size ≤ bs.size + t.text.size := by
  unfold Pb.take
  repeat' split
  all_goals first | exact Nat.le_add_right _ _ | (rw [ByteArray.size_append]; exact Nat.le_refl _) | (rw [Pb.e_append]; exact Nat.le_add_left _ _) | exact Nat.zero_le _
end Go.Proofs.Ythfobjkdcncoiaa

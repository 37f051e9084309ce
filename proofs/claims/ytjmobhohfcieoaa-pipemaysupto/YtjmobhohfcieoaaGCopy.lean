/-
  'append([]T{}, xs...)': the elements of xs, in a row of one's own; texts copied.
-/
import Derived.Test.YtjmobhohfcieoaaGData
namespace Go.Proofs.Ytjmobhohfcieoaa
open Go.RowKit
theorem Gc.run0 (P : Program) (w : World) (t ty e : TypeId) (i : TypeInfo) (ht : P.underlying t = some (.slice e)) (hi : P.info? e = some i) (g : Nat) (ak : Option Addr) (d : Nat) :
    (Builtin.append_ #[t, t] ty #[.slice (some ⟨g, 0, none⟩) 0 0, .slice ak 0 d]).run P w = .ok (.slice (some ⟨g, 0, none⟩) 0 0) w := by
  cases ak with
  | none => simp [Builtin.append_, run_underlying ht, sizeOf, typeInfo, hi, Builtin.lenOf, Builtin.firstCells, storeCells]
  | some a => simp [Builtin.append_, run_underlying ht, sizeOf, typeInfo, hi, Builtin.lenOf, Builtin.firstCells, loadCells, loadCellsFrom, storeCells]
theorem Gc.wp_copy {w : World} {o : Oper} {a : Act} {K : Act → World → Prop} {Z : Exit → Act → World → Prop} (s x : Operand) (t e : TypeId) (size bytes : Nat) (z : Value)
    (ho : o.op = .call { callee := .builtin .append, args := #[s, x], argTypes := #[t, t] })
    (ht : Try.prog.underlying t = some (.slice e)) (hi : (Try.prog.info? e).map (fun i => (i.zero, i.size, i.bytes)) = some (some z, size, bytes)) (hzs : z.cells.size = size) (hsz : 0 < size)
    {base : Nat} (g1 : Nat) (hs : a.eval s = .slice (some ⟨g1, 0, none⟩) 0 0) (hown : w.ownsRow base e size (.slice (some ⟨g1, 0, none⟩) 0 0) 0 []) (n : Nat) (news : List Value) (aa : Option Addr) (ad : Nat)
    (hx : a.eval x = .slice aa n ad) (hk : ∀ j u, news[j]? = some u → ∃ b, aa = some b ∧ w.cell? (b.add j) = some u) (hl : news.length = n * size) (hone : ∀ u ∈ news, u.oneCell' = true)
    (hn1 : n ≤ maxLen) (hn : n * bytes ≤ 140737488355328) (hbase : base ≤ w.heap.size)
    (h : ∀ v' w', w'.ownsRow base e size v' n news → w.grownBy w' (some g1) → (v'.ownBlock = some g1 ∨ v'.ownBlock = some w.heap.size) → K (a.put o.dst v') w') : o.wp Try.prog a w K Z := by
  obtain ⟨iV, hiV, hzV, hsV, hbV⟩ := info_parts hi
  by_cases h0 : n = 0
  · subst h0
    have hrun := Gc.run0 Try.prog w t o.type e iV ht hiV g1 aa ad
    have hnil : news = [] := List.eq_nil_of_length_eq_zero (by rw [hl]; simp)
    subst hnil
    have h2 := h (.slice (some ⟨g1, 0, none⟩) 0 0) w hown ⟨rfl, rfl, rfl, Nat.le_refl _, fun _ _ _ => rfl⟩ (.inl rfl)
    unfold Oper.wp execOp
    simp only [ho, resolve, invoke, builtin, Sem.run_bind, Sem.run_pure, Result.andThen_ok, List.map_toArray, List.map_cons, List.map_nil, hs, hx, hrun]
    exact h2
  · have hp : 0 < news.length := by rw [hl]; exact Nat.mul_pos (by omega) hsz
    obtain ⟨b, rfl, _⟩ := hk 0 _ (List.getElem?_eq_getElem hp)
    have hnews : ∀ j u, news[j]? = some u → w.cell? (b.add j) = some u := fun j u hj => by
      obtain ⟨b', e', hc⟩ := hk j u hj
      cases e'
      exact hc
    obtain ⟨v', w', hr, h2, h3, h4⟩ := run_append_own (P := Try.prog) w base t o.type e iV _ size bytes ht hiV hzV hsV hbV hzs hsz (.slice (some ⟨g1, 0, none⟩) 0 0) 0 [] hown b n ad news hl hnews hone (by omega) (by rw [Nat.zero_add]; exact hn) hbase
    have hf := Ro.fresh (P := Try.prog) base t o.type e iV _ size bytes ht hiV hzV hsV hbV hsz (.slice (some ⟨g1, 0, none⟩) 0 0) 0 [] hown b n ad (by omega) news hl hnews hone (by omega) (by rw [Nat.zero_add]; exact hn) v' w' hr
    unfold Oper.wp execOp
    simp only [ho, resolve, invoke, builtin, Sem.run_bind, Sem.run_pure, Result.andThen_ok, List.map_toArray, List.map_cons, List.map_nil, hs, hx, hr]
    rw [Nat.zero_add, List.nil_append] at h2
    exact h v' w' h2 h3 hf
/-- at a step of a region that draws -/
theorem Gc.step_copy {w : World} {ops : Array Oper} {o : Oper} {a : Act} {K : Act → World → Prop} {E : Prop} {Z : Exit → Act → World → Prop} (hgd : o.guard = none) (s x : Operand) (t e : TypeId) (size bytes : Nat) (z : Value)
    (ho : o.op = .call { callee := .builtin .append, args := #[s, x], argTypes := #[t, t] })
    (ht : Try.prog.underlying t = some (.slice e)) (hi : (Try.prog.info? e).map (fun i => (i.zero, i.size, i.bytes)) = some (some z, size, bytes)) (hzs : z.cells.size = size) (hsz : 0 < size)
    {base : Nat} (g1 : Nat) (hs : a.eval s = .slice (some ⟨g1, 0, none⟩) 0 0) (hown : w.ownsRow base e size (.slice (some ⟨g1, 0, none⟩) 0 0) 0 []) (n : Nat) (news : List Value) (aa : Option Addr) (ad : Nat)
    (hx : a.eval x = .slice aa n ad) (hk : ∀ j u, news[j]? = some u → ∃ b, aa = some b ∧ w.cell? (b.add j) = some u) (hl : news.length = n * size) (hone : ∀ u ∈ news, u.oneCell' = true)
    (hn1 : n ≤ maxLen) (hn : n * bytes ≤ 140737488355328) (hbase : base ≤ w.heap.size)
    (h : ∀ v' w', w'.ownsRow base e size v' n news → w.grownBy w' (some g1) → (v'.ownBlock = some g1 ∨ v'.ownBlock = some w.heap.size) → K (a.put o.dst v') w') :
    if Region.wanted o (yielded ops a.tmps) = true then Oper.wp Try.prog o a w K Z else E := by
  have hw : Region.wanted o (yielded ops a.tmps) = true := by simp [Region.wanted, hgd]
  rw [if_pos hw]
  exact Gc.wp_copy s x t e size bytes z ho ht hi hzs hsz g1 hs hown n news aa ad hx hk hl hone hn1 hn hbase h
/-- at a list of operations -/
theorem Gc.copy {w : World} {ops : Array Oper} {rest : List Oper} {o : Oper} {a : Act} {Z : Exit → Act → World → Prop} (hgd : o.guard = none) (s x : Operand) (t e : TypeId) (size bytes : Nat) (z : Value)
    (ho : o.op = .call { callee := .builtin .append, args := #[s, x], argTypes := #[t, t] })
    (ht : Try.prog.underlying t = some (.slice e)) (hi : (Try.prog.info? e).map (fun i => (i.zero, i.size, i.bytes)) = some (some z, size, bytes)) (hzs : z.cells.size = size) (hsz : 0 < size)
    {base : Nat} (g1 : Nat) (hs : a.eval s = .slice (some ⟨g1, 0, none⟩) 0 0) (hown : w.ownsRow base e size (.slice (some ⟨g1, 0, none⟩) 0 0) 0 []) (n : Nat) (news : List Value) (aa : Option Addr) (ad : Nat)
    (hx : a.eval x = .slice aa n ad) (hk : ∀ j u, news[j]? = some u → ∃ b, aa = some b ∧ w.cell? (b.add j) = some u) (hl : news.length = n * size) (hone : ∀ u ∈ news, u.oneCell' = true)
    (hn1 : n ≤ maxLen) (hn : n * bytes ≤ 140737488355328) (hbase : base ≤ w.heap.size)
    (h : ∀ v' w', w'.ownsRow base e size v' n news → w.grownBy w' (some g1) → (v'.ownBlock = some g1 ∨ v'.ownBlock = some w.heap.size) → wpList Try.prog ops Z rest (a.put o.dst v') w') : wpList Try.prog ops Z (o :: rest) a w :=
  wpList_plain hgd fun _ hK => Gc.wp_copy s x t e size bytes z ho ht hi hzs hsz g1 hs hown n news aa ad hx hk hl hone hn1 hn hbase fun v' w' h2 h3 h4 => hK _ _ (h v' w' h2 h3 h4)
/-- texts' cells, wherever they lie -/
theorem Gc.text_cells {w : World} {R : Nat → Prop} {ts : List (List UInt8)} {a : Option Addr} {n d : Nat} (h : St.Lies w R ts (.slice a n d)) : n = ts.length ∧ ∀ j u, (St.cells ts)[j]? = some u → ∃ b, a = some b ∧ w.cell? (b.add j) = some u := by
  obtain ⟨a', d', e, h1, h2, hx⟩ := h
  injection e with e1 e2 e3
  subst e1
  refine ⟨e2, fun j u hj => ?_⟩
  unfold St.cells at hj
  rw [List.getElem?_map] at hj
  cases ht : ts[j]? with
  | none => rw [ht] at hj; cases hj
  | some t =>
    rw [ht] at hj
    have hj := Option.some.inj hj
    subst hj
    obtain ⟨b, o, ea, _, c⟩ := hx j t ht
    exact ⟨⟨b, o, none⟩, ea, by rw [Ro.add]; exact c⟩
theorem Gc.ones (ts : List (List UInt8)) : ∀ u ∈ St.cells ts, u.oneCell' = true := by
  intro u hu
  obtain ⟨t, _, rfl⟩ := List.mem_map.1 hu
  rfl
theorem Gc.cells_len (ts : List (List UInt8)) : (St.cells ts).length = ts.length * 1 := by unfold St.cells; rw [List.length_map, Nat.mul_one]
/-- the row that is begun with -/
theorem Gc.none (w : World) (base : Nat) (ty : TypeId) (k : Nat) (hb : base ≤ w.heap.size) : (w.alloc (.cells #[] ty)).ownsRow base ty k (.slice (some ⟨w.heap.size, 0, none⟩) 0 0) 0 [] :=
  World.ownsRow_made w #[] 0 hb (Nat.zero_le _) (by simp)
end Go.Proofs.Ytjmobhohfcieoaa

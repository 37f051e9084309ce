/-
  'append([]T{}, xs...)': the elements of xs, in a row of one's own.
-/
import Derived.Test.YthfobjkdcncoiaaUMk
namespace Go.Proofs.Ythfobjkdcncoiaa
open Go.RowKit
theorem Um.run0 (P : Program) (w : World) (t ty e : TypeId) (i : TypeInfo) (ht : P.underlying t = some (.slice e)) (hi : P.info? e = some i) (g : Nat) (ak : Option Addr) (d : Nat) :
    (Builtin.append_ #[t, t] ty #[.slice (some ⟨g, 0, none⟩) 0 0, .slice ak 0 d]).run P w = .ok (.slice (some ⟨g, 0, none⟩) 0 0) w := by
  cases ak with
  | none => simp [Builtin.append_, run_underlying ht, sizeOf, typeInfo, hi, Builtin.lenOf, Builtin.firstCells, storeCells]
  | some a => simp [Builtin.append_, run_underlying ht, sizeOf, typeInfo, hi, Builtin.lenOf, Builtin.firstCells, loadCells, loadCellsFrom, storeCells]
theorem Um.wp_copy {w : World} {o : Oper} {a : Act} {K : Act → World → Prop} {Z : Exit → Act → World → Prop} (s x : Operand) (t e : TypeId) (size bytes : Nat) (z : Value)
    (ho : o.op = .call { callee := .builtin .append, args := #[s, x], argTypes := #[t, t] })
    (ht : Try.prog.underlying t = some (.slice e)) (hi : (Try.prog.info? e).map (fun i => (i.zero, i.size, i.bytes)) = some (some z, size, bytes)) (hzs : z.cells.size = size) (hsz : 0 < size)
    {base : Nat} (g1 : Nat) (hs : a.eval s = .slice (some ⟨g1, 0, none⟩) 0 0) (hown : w.ownsRow base e size (.slice (some ⟨g1, 0, none⟩) 0 0) 0 []) (n : Nat) (news : List Value) (aa : Option Addr) (ad : Nat)
    (hx : a.eval x = .slice aa n ad) (hk : ∀ j u, news[j]? = some u → ∃ b, aa = some b ∧ w.cell? (b.add j) = some u) (hl : news.length = n * size) (hone : ∀ u ∈ news, u.oneCell' = true)
    (hn1 : n ≤ maxLen) (hn : n * bytes ≤ 140737488355328) (hbase : base ≤ w.heap.size)
    (h : ∀ v' w', w'.ownsRow base e size v' n news → w.grownBy w' (some g1) → (v'.ownBlock = some g1 ∨ v'.ownBlock = some w.heap.size) → K (a.put o.dst v') w') : o.wp Try.prog a w K Z := by
  obtain ⟨iV, hiV, hzV, hsV, hbV⟩ := info_parts hi
  by_cases h0 : n = 0
  · subst h0
    have hrun := Um.run0 Try.prog w t o.type e iV ht hiV g1 aa ad
    have hnil : news = [] := List.eq_nil_of_length_eq_zero (by rw [hl]; simp)
    subst hnil
    have h2 := h (.slice (some ⟨g1, 0, none⟩) 0 0) w hown ⟨rfl, rfl, rfl, Nat.le_refl _, fun _ _ _ => rfl⟩ (.inl rfl)
    unfold Oper.wp execOp
    simp only [ho, resolve, invoke, builtin, Sem.run_bind, Sem.run_pure, Result.andThen_ok, List.map_toArray, List.map_cons, List.map_nil, hs, hx, hrun]
    exact h2
  · have hp : 0 < news.length := by rw [hl]; exact Nat.mul_pos (by omega) hsz
    obtain ⟨b, rfl, _⟩ := hk 0 _ (List.getElem?_eq_getElem hp)
    have hnews : ∀ j u, news[j]? = some u → w.cell? (b.add j) = some u := fun j u hj => by
      obtain ⟨b', e', hc⟩ := hk j u hj
      cases e'
      exact hc
    obtain ⟨v', w', hr, h2, h3, h4⟩ := run_append_own (P := Try.prog) w base t o.type e iV _ size bytes ht hiV hzV hsV hbV hzs hsz (.slice (some ⟨g1, 0, none⟩) 0 0) 0 [] hown b n ad news hl hnews hone (by omega) (by rw [Nat.zero_add]; exact hn) hbase
    have hf := Ro.fresh (P := Try.prog) base t o.type e iV _ size bytes ht hiV hzV hsV hbV hsz (.slice (some ⟨g1, 0, none⟩) 0 0) 0 [] hown b n ad (by omega) news hl hnews hone (by omega) (by rw [Nat.zero_add]; exact hn) v' w' hr
    unfold Oper.wp execOp
    simp only [ho, resolve, invoke, builtin, Sem.run_bind, Sem.run_pure, Result.andThen_ok, List.map_toArray, List.map_cons, List.map_nil, hs, hx, hr]
    rw [Nat.zero_add, List.nil_append] at h2
    exact h v' w' h2 h3 hf
/-- at a step of a region that draws -/
theorem Um.step_copy {w : World} {ops : Array Oper} {o : Oper} {a : Act} {K : Act → World → Prop} {E : Prop} {Z : Exit → Act → World → Prop} (hgd : o.guard = none) (s x : Operand) (t e : TypeId) (size bytes : Nat) (z : Value)
    (ho : o.op = .call { callee := .builtin .append, args := #[s, x], argTypes := #[t, t] })
    (ht : Try.prog.underlying t = some (.slice e)) (hi : (Try.prog.info? e).map (fun i => (i.zero, i.size, i.bytes)) = some (some z, size, bytes)) (hzs : z.cells.size = size) (hsz : 0 < size)
    {base : Nat} (g1 : Nat) (hs : a.eval s = .slice (some ⟨g1, 0, none⟩) 0 0) (hown : w.ownsRow base e size (.slice (some ⟨g1, 0, none⟩) 0 0) 0 []) (n : Nat) (news : List Value) (aa : Option Addr) (ad : Nat)
    (hx : a.eval x = .slice aa n ad) (hk : ∀ j u, news[j]? = some u → ∃ b, aa = some b ∧ w.cell? (b.add j) = some u) (hl : news.length = n * size) (hone : ∀ u ∈ news, u.oneCell' = true)
    (hn1 : n ≤ maxLen) (hn : n * bytes ≤ 140737488355328) (hbase : base ≤ w.heap.size)
    (h : ∀ v' w', w'.ownsRow base e size v' n news → w.grownBy w' (some g1) → (v'.ownBlock = some g1 ∨ v'.ownBlock = some w.heap.size) → K (a.put o.dst v') w') :
    if Region.wanted o (yielded ops a.tmps) = true then Oper.wp Try.prog o a w K Z else E := by
  have hw : Region.wanted o (yielded ops a.tmps) = true := by simp [Region.wanted, hgd]
  rw [if_pos hw]
  exact Um.wp_copy s x t e size bytes z ho ht hi hzs hsz g1 hs hown n news aa ad hx hk hl hone hn1 hn hbase h
/-- at a list of operations -/
theorem Um.copy {w : World} {ops : Array Oper} {rest : List Oper} {o : Oper} {a : Act} {Z : Exit → Act → World → Prop} (hgd : o.guard = none) (s x : Operand) (t e : TypeId) (size bytes : Nat) (z : Value)
    (ho : o.op = .call { callee := .builtin .append, args := #[s, x], argTypes := #[t, t] })
    (ht : Try.prog.underlying t = some (.slice e)) (hi : (Try.prog.info? e).map (fun i => (i.zero, i.size, i.bytes)) = some (some z, size, bytes)) (hzs : z.cells.size = size) (hsz : 0 < size)
    {base : Nat} (g1 : Nat) (hs : a.eval s = .slice (some ⟨g1, 0, none⟩) 0 0) (hown : w.ownsRow base e size (.slice (some ⟨g1, 0, none⟩) 0 0) 0 []) (n : Nat) (news : List Value) (aa : Option Addr) (ad : Nat)
    (hx : a.eval x = .slice aa n ad) (hk : ∀ j u, news[j]? = some u → ∃ b, aa = some b ∧ w.cell? (b.add j) = some u) (hl : news.length = n * size) (hone : ∀ u ∈ news, u.oneCell' = true)
    (hn1 : n ≤ maxLen) (hn : n * bytes ≤ 140737488355328) (hbase : base ≤ w.heap.size)
    (h : ∀ v' w', w'.ownsRow base e size v' n news → w.grownBy w' (some g1) → (v'.ownBlock = some g1 ∨ v'.ownBlock = some w.heap.size) → wpList Try.prog ops Z rest (a.put o.dst v') w') : wpList Try.prog ops Z (o :: rest) a w :=
  wpList_plain hgd fun _ hK => Um.wp_copy s x t e size bytes z ho ht hi hzs hsz g1 hs hown n news aa ad hx hk hl hone hn1 hn hbase fun v' w' h2 h3 h4 => hK _ _ (h v' w' h2 h3 h4)
/-- the attributes' cells, wherever they lie -/
theorem Um.attr_cells {w : World} {R : Nat → Prop} {al : List (ByteArray × ByteArray)} {aa : Option Addr} {an ad : Nat} (h : Ak.Lies w R al (.slice aa an ad)) : an = al.length ∧ ∀ j u, (Ak.cells al)[j]? = some u → ∃ b, aa = some b ∧ w.cell? (b.add j) = some u := by
  obtain ⟨a', d', e, h1, h2, hx⟩ := h
  injection e with e1 e2 e3
  subst e1
  refine ⟨e2, fun j u hj => ?_⟩
  have hjl : j < al.length * 2 := by rw [← Ak.cells_length]; exact (List.getElem?_eq_some_iff.1 hj).1
  have hi : j / 2 < al.length := by omega
  obtain ⟨b, o, ea, hR, c1, c2⟩ := hx (j / 2) al[j / 2] (List.getElem?_eq_getElem hi)
  obtain ⟨g1, g2⟩ := Ak.cells_get al (j / 2) al[j / 2] (List.getElem?_eq_getElem hi)
  refine ⟨⟨b, o, none⟩, ea, ?_⟩
  rw [Ro.add]
  rcases Nat.mod_two_eq_zero_or_one j with q | q
  · have e : j = j / 2 * 2 := by omega
    rw [e] at hj ⊢
    rw [g1] at hj
    rw [c1]
    exact hj
  · have e : j = j / 2 * 2 + 1 := by omega
    rw [e] at hj ⊢
    rw [g2] at hj
    rw [← Nat.add_assoc, c2]
    exact hj
theorem Um.ownAttrs {w : World} {base n : Nat} {al : List (ByteArray × ByteArray)} {v : Value} (h : w.ownsRow base 48 2 v n (Ak.cells al)) (hn : n = al.length) : Ak.Lies w (fun k => v.ownBlock = some k) al v := by
  subst hn
  exact Ak.Lies.own h
/-- attributes copied into a new row: where they lie -/
theorem Um.copied {base an : Nat} {V U w4 : World} {g : Nat} {m : Bt} {ov pv v4 : Value} {al : List (ByteArray × ByteArray)} (hU : Below V.heap.size V U) (hg4 : U.grownBy w4 (some V.heap.size)) (R4 : w4.ownsRow V.heap.size 48 2 v4 an (Ak.cells al)) (han : an = al.length) (hA : Um.At base V g m ov pv) (hbs : base ≤ V.heap.size) :
    Below V.heap.size V w4 ∧ Ak.Lies w4 (fun k => base ≤ k ∧ k < w4.heap.size ∧ ov.ownBlock ≠ some k ∧ ¬ (k = g ∨ pv.ownBlock = some k) ∧ Rm.Ub w4 k) al v4 := by
  refine ⟨hU.grown hg4 hU.size (fun k hk => by cases hk; exact Nat.le_refl _), (Um.ownAttrs R4 han).on fun k hk => ⟨⟨?_, (R4.lt k hk).2, fun e => ?_, fun e => ?_, Rm.Ub.own R4 hk⟩, rfl⟩⟩
  · have := (R4.lt k hk).1; omega
  · have := (R4.lt k hk).1; have := (hA.ovLt e).2; omega
  · have h1 := (R4.lt k hk).1
    rcases e with e | e
    · have := hA.lt; omega
    · have := (hA.pvLt e).2; omega
theorem Um.one_int (W : World) (k : Int) (g1 : Nat) (h : g1 = W.heap.size) : ∀ j u, [Value.int .i64 k][j]? = some u → (W.alloc (.cells #[.int .i64 k] 3)).cell? ⟨g1, j, none⟩ = some u := by
  subst h
  intro j u hj
  unfold World.cell?
  rw [show (W.alloc (.cells #[.int .i64 k] 3)).heap[W.heap.size]? = some _ from heap_alloc_new W _]
  simpa using hj
theorem Um.noAttrs (w : World) (base : Nat) (hb : base ≤ w.heap.size) : (w.alloc (.cells #[] 48)).ownsRow base 48 2 (.slice (some ⟨w.heap.size, 0, none⟩) 0 0) 0 [] :=
  World.ownsRow_made w #[] 0 hb (by decide) rfl
theorem Um.noInts (w : World) (base : Nat) (hb : base ≤ w.heap.size) : (w.alloc (.cells #[] 3)).ownsRow base 3 1 (.slice (some ⟨w.heap.size, 0, none⟩) 0 0) 0 [] :=
  World.ownsRow_made w #[] 0 hb (by decide) rfl
end Go.Proofs.Ythfobjkdcncoiaa

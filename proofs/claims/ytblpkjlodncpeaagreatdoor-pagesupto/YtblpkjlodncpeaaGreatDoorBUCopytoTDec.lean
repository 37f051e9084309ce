/-
  'append([]T{}, xs...)': the elements of xs, in a row of one's own.
-/
import Derived.Test.YtblpkjlodncpeaaGreatDoorBTMemtoUMk
import Derived.Test.YtblpkjlodncpeaaGreatDoorBNMaytoWPlain
import Derived.Lib.AppendStr
import Derived.Lib.UnsafeStr
import Derived.Test.YtblpkjlodncpeaaGreatDoorBTInvtoTSc1
import Derived.KernelRfl
import Derived.Lib.ItoaNum
import Derived.Laws.AppendOwn
import Derived.OwnWalk
import Derived.Lib.Hide
import Derived.CellFam
namespace Go.Proofs.YtblpkjlodncpeaaGreatDoor
open Go.RowKit
theorem Um.run0 (P : Program) (w : World) (t ty e : TypeId) (i : TypeInfo) (ht : P.underlying t = some (.slice e)) (hi : P.info? e = some i) (g : Nat) (ak : Option Addr) (d : Nat) :
  (Builtin.append_ #[t, t] ty #[.slice (some ⟨g, 0, none⟩) 0 0, .slice ak 0 d]).run P w = .ok (.slice (some ⟨g, 0, none⟩) 0 0) w := by
 cases ak with
 | none => simp [Builtin.append_, run_underlying ht, sizeOf, typeInfo, hi, Builtin.lenOf, Builtin.firstCells, storeCells]
 | some a => simp [Builtin.append_, run_underlying ht, sizeOf, typeInfo, hi, Builtin.lenOf, Builtin.firstCells, loadCells, loadCellsFrom, storeCells]
theorem Um.wp_copy {w : World} {o : Oper} {a : Act} {K : Act → World → Prop} {Z : Exit → Act → World → Prop} (s x : Operand) (t e : TypeId) (size bytes : Nat) (z : Value)
  (ho : o.op = .call { callee := .builtin .append, args := #[s, x], argTypes := #[t, t] })
  (ht : Tryz.prog.underlying t = some (.slice e)) (hi : (Tryz.prog.info? e).map (fun i => (i.zero, i.size, i.bytes)) = some (some z, size, bytes)) (hzs : z.cells.size = size) (hsz : 0 < size)
  {base : Nat} (g1 : Nat) (hs : a.eval s = .slice (some ⟨g1, 0, none⟩) 0 0) (hown : w.ownsRow base e size (.slice (some ⟨g1, 0, none⟩) 0 0) 0 []) (n : Nat) (news : List Value) (aa : Option Addr) (ad : Nat)
  (hx : a.eval x = .slice aa n ad) (hk : ∀ j u, news[j]? = some u → ∃ b, aa = some b ∧ w.cell? (b.add j) = some u) (hl : news.length = n * size) (hone : ∀ u ∈ news, u.oneCell' = true)
  (hn1 : n ≤ maxLen) (hn : n * bytes ≤ 140737488355328) (hbase : base ≤ w.heap.size)
  (h : ∀ v' w', w'.ownsRow base e size v' n news → w.grownBy w' (some g1) → (v'.ownBlock = some g1 ∨ v'.ownBlock = some w.heap.size) → K (a.put o.dst v') w') : o.wp Tryz.prog a w K Z := by
 obtain ⟨iV, hiV, hzV, hsV, hbV⟩ := info_parts hi
 by_cases h0 : n = 0
 ·
  subst h0
  have hrun := Um.run0 Tryz.prog w t o.type e iV ht hiV g1 aa ad
  have hnil : news = [] := List.eq_nil_of_length_eq_zero (by rw [hl]; simp)
  subst hnil
  have h2 := h (.slice (some ⟨g1, 0, none⟩) 0 0) w hown ⟨rfl, rfl, rfl, Nat.le_refl _, fun _ _ _ => rfl⟩ (.inl rfl)
  unfold Oper.wp execOp
  simp only [ho, resolve, invoke, builtin, Sem.run_bind, Sem.run_pure, Result.andThen_ok, List.map_toArray, List.map_cons, List.map_nil, hs, hx, hrun]
  exact h2
 ·
  have hp : 0 < news.length := by rw [hl]; exact Nat.mul_pos (by omega) hsz
  obtain ⟨b, rfl, _⟩ := hk 0 _ (List.getElem?_eq_getElem hp)
  have hnews : ∀ j u, news[j]? = some u → w.cell? (b.add j) = some u := fun j u hj => by
   obtain ⟨b', e', hc⟩ := hk j u hj
   cases e'
   exact hc
  obtain ⟨v', w', hr, h2, h3, h4⟩ := run_append_own (P := Tryz.prog) w base t o.type e iV _ size bytes ht hiV hzV hsV hbV hzs hsz (.slice (some ⟨g1, 0, none⟩) 0 0) 0 [] hown b n ad news hl hnews hone (by omega) (by rw [Nat.zero_add]; exact hn) hbase
  have hf := Ro.fresh (P := Tryz.prog) base t o.type e iV _ size bytes ht hiV hzV hsV hbV hsz (.slice (some ⟨g1, 0, none⟩) 0 0) 0 [] hown b n ad (by omega) news hl hnews hone (by omega) (by rw [Nat.zero_add]; exact hn) v' w' hr
  unfold Oper.wp execOp
  simp only [ho, resolve, invoke, builtin, Sem.run_bind, Sem.run_pure, Result.andThen_ok, List.map_toArray, List.map_cons, List.map_nil, hs, hx, hr]
  rw [Nat.zero_add, List.nil_append] at h2
  exact h v' w' h2 h3 hf
theorem Um.step_copy {w : World} {ops : Array Oper} {o : Oper} {a : Act} {K : Act → World → Prop} {E : Prop} {Z : Exit → Act → World → Prop} (hgd : o.guard = none) (s x : Operand) (t e : TypeId) (size bytes : Nat) (z : Value)
  (ho : o.op = .call { callee := .builtin .append, args := #[s, x], argTypes := #[t, t] })
  (ht : Tryz.prog.underlying t = some (.slice e)) (hi : (Tryz.prog.info? e).map (fun i => (i.zero, i.size, i.bytes)) = some (some z, size, bytes)) (hzs : z.cells.size = size) (hsz : 0 < size)
  {base : Nat} (g1 : Nat) (hs : a.eval s = .slice (some ⟨g1, 0, none⟩) 0 0) (hown : w.ownsRow base e size (.slice (some ⟨g1, 0, none⟩) 0 0) 0 []) (n : Nat) (news : List Value) (aa : Option Addr) (ad : Nat)
  (hx : a.eval x = .slice aa n ad) (hk : ∀ j u, news[j]? = some u → ∃ b, aa = some b ∧ w.cell? (b.add j) = some u) (hl : news.length = n * size) (hone : ∀ u ∈ news, u.oneCell' = true)
  (hn1 : n ≤ maxLen) (hn : n * bytes ≤ 140737488355328) (hbase : base ≤ w.heap.size)
  (h : ∀ v' w', w'.ownsRow base e size v' n news → w.grownBy w' (some g1) → (v'.ownBlock = some g1 ∨ v'.ownBlock = some w.heap.size) → K (a.put o.dst v') w') :
  if Region.wanted o (yielded ops a.tmps) = true then Oper.wp Tryz.prog o a w K Z else E := by
 have hw : Region.wanted o (yielded ops a.tmps) = true := by simp [Region.wanted, hgd]
 rw [if_pos hw]
 exact Um.wp_copy s x t e size bytes z ho ht hi hzs hsz g1 hs hown n news aa ad hx hk hl hone hn1 hn hbase h
theorem Um.copy {w : World} {ops : Array Oper} {rest : List Oper} {o : Oper} {a : Act} {Z : Exit → Act → World → Prop} (hgd : o.guard = none) (s x : Operand) (t e : TypeId) (size bytes : Nat) (z : Value)
  (ho : o.op = .call { callee := .builtin .append, args := #[s, x], argTypes := #[t, t] })
  (ht : Tryz.prog.underlying t = some (.slice e)) (hi : (Tryz.prog.info? e).map (fun i => (i.zero, i.size, i.bytes)) = some (some z, size, bytes)) (hzs : z.cells.size = size) (hsz : 0 < size)
  {base : Nat} (g1 : Nat) (hs : a.eval s = .slice (some ⟨g1, 0, none⟩) 0 0) (hown : w.ownsRow base e size (.slice (some ⟨g1, 0, none⟩) 0 0) 0 []) (n : Nat) (news : List Value) (aa : Option Addr) (ad : Nat)
  (hx : a.eval x = .slice aa n ad) (hk : ∀ j u, news[j]? = some u → ∃ b, aa = some b ∧ w.cell? (b.add j) = some u) (hl : news.length = n * size) (hone : ∀ u ∈ news, u.oneCell' = true)
  (hn1 : n ≤ maxLen) (hn : n * bytes ≤ 140737488355328) (hbase : base ≤ w.heap.size)
  (h : ∀ v' w', w'.ownsRow base e size v' n news → w.grownBy w' (some g1) → (v'.ownBlock = some g1 ∨ v'.ownBlock = some w.heap.size) → wpList Tryz.prog ops Z rest (a.put o.dst v') w') : wpList Tryz.prog ops Z (o :: rest) a w :=
 wpList_plain hgd fun _ hK => Um.wp_copy s x t e size bytes z ho ht hi hzs hsz g1 hs hown n news aa ad hx hk hl hone hn1 hn hbase fun v' w' h2 h3 h4 => hK _ _ (h v' w' h2 h3 h4)
theorem Um.attr_cells {w : World} {R : Nat → Prop} {al : List (ByteArray × ByteArray)} {aa : Option Addr} {an ad : Nat} (h : Ak.Lies w R al (.slice aa an ad)) : an = al.length ∧ ∀ j u, (Ak.cells al)[j]? = some u → ∃ b, aa = some b ∧ w.cell? (b.add j) = some u := by
 obtain ⟨a', d', e, h1, h2, hx⟩ := h
 injection e with e1 e2 e3
 subst e1
 refine ⟨e2, fun j u hj => ?_⟩
 have hjl : j < al.length * 2 := by rw [← Ak.cells_length]; exact (List.getElem?_eq_some_iff.1 hj).1
 have hi : j / 2 < al.length := by omega
 obtain ⟨b, o, ea, hR, c1, c2⟩ := hx (j / 2) al[j / 2] (List.getElem?_eq_getElem hi)
 obtain ⟨g1, g2⟩ := Ak.cells_get al (j / 2) al[j / 2] (List.getElem?_eq_getElem hi)
 refine ⟨⟨b, o, none⟩, ea, ?_⟩
 rw [Ro.add]
 rcases Nat.mod_two_eq_zero_or_one j with q | q
 ·
  have e : j = j / 2 * 2 := by omega
  rw [e] at hj ⊢
  rw [g1] at hj
  rw [c1]
  exact hj
 ·
  have e : j = j / 2 * 2 + 1 := by omega
  rw [e] at hj ⊢
  rw [g2] at hj
  rw [← Nat.add_assoc, c2]
  exact hj
theorem Um.ownAttrs {w : World} {base n : Nat} {al : List (ByteArray × ByteArray)} {v : Value} (h : w.ownsRow base 50 2 v n (Ak.cells al)) (hn : n = al.length) : Ak.Lies w (fun k => v.ownBlock = some k) al v := by
 subst hn
 exact Ak.Lies.own h
theorem Um.copied {base an : Nat} {V U w4 : World} {g : Nat} {m : Bt} {ov pv v4 : Value} {al : List (ByteArray × ByteArray)} (hU : Below V.heap.size V U) (hg4 : U.grownBy w4 (some V.heap.size)) (R4 : w4.ownsRow V.heap.size 50 2 v4 an (Ak.cells al)) (han : an = al.length) (hA : Um.At base V g m ov pv) (hbs : base ≤ V.heap.size) :
  Below V.heap.size V w4 ∧ Ak.Lies w4 (fun k => base ≤ k ∧ k < w4.heap.size ∧ ov.ownBlock ≠ some k ∧ ¬ (k = g ∨ pv.ownBlock = some k) ∧ Rm.Ub w4 k) al v4 := by
 refine ⟨hU.grown hg4 hU.size (fun k hk => by cases hk; exact Nat.le_refl _), (Um.ownAttrs R4 han).on fun k hk => ⟨⟨?_, (R4.lt k hk).2, fun e => ?_, fun e => ?_, Rm.Ub.own R4 hk⟩, rfl⟩⟩
 ·
  have := (R4.lt k hk).1; omega
 ·
  have := (R4.lt k hk).1; have := (hA.ovLt e).2; omega
 ·
  have h1 := (R4.lt k hk).1
  rcases e with e | e
  ·
   have := hA.lt; omega
  ·
   have := (hA.pvLt e).2; omega
theorem Um.one_int (W : World) (k : Int) (g1 : Nat) (h : g1 = W.heap.size) : ∀ j u, [Value.int .i64 k][j]? = some u → (W.alloc (.cells #[.int .i64 k] 3)).cell? ⟨g1, j, none⟩ = some u := by
 subst h
 intro j u hj
 unfold World.cell?
 rw [show (W.alloc (.cells #[.int .i64 k] 3)).heap[W.heap.size]? = some _ from heap_alloc_new W _]
 simpa using hj
theorem Um.noAttrs (w : World) (base : Nat) (hb : base ≤ w.heap.size) : (w.alloc (.cells #[] 50)).ownsRow base 50 2 (.slice (some ⟨w.heap.size, 0, none⟩) 0 0) 0 [] :=
 World.ownsRow_made w #[] 0 hb (by decide) rfl
theorem Um.noInts (w : World) (base : Nat) (hb : base ≤ w.heap.size) : (w.alloc (.cells #[] 3)).ownsRow base 3 1 (.slice (some ⟨w.heap.size, 0, none⟩) 0 0) 0 [] :=
 World.ownsRow_made w #[] 0 hb (by decide) rfl
def Pm.No (g : Nat) (pv tv : Value) (k : Nat) : Prop := k = g ∨ pv.ownBlock = some k ∨ tv.ownBlock = some k
def Pm.Mine (g : Nat) (ov pv tv : Value) (k : Nat) : Prop := k = g ∨ ov.ownBlock = some k ∨ pv.ownBlock = some k ∨ tv.ownBlock = some k
structure Pm.At (base : Nat) (w : World) (g : Nat) (m : Bt) (bs : ByteArray) (ov pv tv : Value) : Prop where
 ge : base ≤ g
 c0 : w.cell? ⟨g, 0, none⟩ = some ov
 c1 : w.cell? ⟨g, 1, none⟩ = some pv
 c2 : w.cell? ⟨g, 2, none⟩ = some tv
 fz : ∀ i, w.frozen? ⟨g, i, none⟩ = false
 out : Um.Row base m.out w ov (Pm.No g pv tv)
 opn : w.ownsRow base 3 1 pv m.opn.length (Um.ints m.opn)
 txt : w.ownsRow base 5 1 tv bs.size (Lib.strCells bs)
 og : ov.ownBlock ≠ some g
 pg : pv.ownBlock ≠ some g
 tg : tv.ownBlock ≠ some g
 op : ∀ k, ov.ownBlock = some k → pv.ownBlock ≠ some k
 ot : ∀ k, ov.ownBlock = some k → tv.ownBlock ≠ some k
 pt : ∀ k, pv.ownBlock = some k → tv.ownBlock ≠ some k
section
variable {base : Nat} {w : World} {g : Nat} {m : Bt} {bs : ByteArray} {ov pv tv : Value}
theorem Pm.At.lt (h : Pm.At base w g m bs ov pv tv) : g < w.heap.size := World.block_lt_of_cell? _ _ h.c0
theorem Pm.At.lo (h : Pm.At base w g m bs ov pv tv) : base ≤ w.heap.size := Nat.le_trans h.ge (Nat.le_of_lt h.lt)
theorem Pm.At.ovLt (h : Pm.At base w g m bs ov pv tv) {k : Nat} (hk : ov.ownBlock = some k) : base ≤ k ∧ k < w.heap.size := by
 obtain ⟨xs, ho, _⟩ := h.out
 exact ho.lt k hk
theorem Pm.At.pvLt (h : Pm.At base w g m bs ov pv tv) {k : Nat} (hk : pv.ownBlock = some k) : base ≤ k ∧ k < w.heap.size := h.opn.lt k hk
theorem Pm.At.tvLt (h : Pm.At base w g m bs ov pv tv) {k : Nat} (hk : tv.ownBlock = some k) : base ≤ k ∧ k < w.heap.size := h.txt.lt k hk
theorem Pm.At.mine (h : Pm.At base w g m bs ov pv tv) {k : Nat} (hk : Pm.Mine g ov pv tv k) : base ≤ k ∧ k < w.heap.size := by
 rcases hk with rfl | q | q | q
 ·
  exact ⟨h.ge, h.lt⟩
 ·
  exact h.ovLt q
 ·
  exact h.pvLt q
 ·
  exact h.tvLt q
theorem Pm.At.on {w' : World} (h : Pm.At base w g m bs ov pv tv) (hb : Below w.heap.size w w') : Pm.At base w' g m bs ov pv tv :=
 ⟨h.ge, Tp.keep hb h.c0, Tp.keep hb h.c1, Tp.keep hb h.c2, Tp.keepF hb h.lt h.fz, h.out.on hb.size (fun k hk => hb.block k (h.ovLt hk).2) (fun k _ h2 _ h4 => ⟨h4, hb.block k h2⟩), Rm.own_on h.opn (fun k hk => hb.block k (h.pvLt hk).2), Rm.own_on h.txt (fun k hk => hb.block k (h.tvLt hk).2), h.og, h.pg, h.tg, h.op, h.ot, h.pt⟩
end
structure Pm.Kept (w w' : World) (A B : Nat → Prop) : Prop where
 os : w'.os = w.os
 tape : w'.tape = w.tape
 output : w'.output = w.output
 size : w.heap.size ≤ w'.heap.size
 block : ∀ k, k < w.heap.size → ¬ A k → w'.heap[k]? = w.heap[k]? ∧ ¬ B k
theorem Pm.Kept.refl (w : World) (A : Nat → Prop) : Pm.Kept w w A A := ⟨rfl, rfl, rfl, Nat.le_refl _, fun _ _ h => ⟨rfl, h⟩⟩
theorem Pm.Kept.trans {w w1 w2 : World} {A B C : Nat → Prop} (h : Pm.Kept w w1 A B) (h2 : Pm.Kept w1 w2 B C) : Pm.Kept w w2 A C :=
 ⟨h2.os.trans h.os, h2.tape.trans h.tape, h2.output.trans h.output, Nat.le_trans h.size h2.size, fun k hk hf => by
  obtain ⟨a1, a2⟩ := h.block k hk hf
  obtain ⟨b1, b2⟩ := h2.block k (Nat.lt_of_lt_of_le hk h.size) a2
  exact ⟨b1.trans a1, b2⟩⟩
theorem Pm.Kept.of {w w1 : World} (A : Nat → Prop) (hb : Below w.heap.size w w1) : Pm.Kept w w1 A A := ⟨hb.os, hb.tape, hb.output, hb.size, fun k hk hf => ⟨hb.block k hk, hf⟩⟩
theorem Pm.Kept.cell {w w' : World} {A B : Nat → Prop} (h : Pm.Kept w w' A B) {b o : Nat} {v : Value} (hf : ¬ A b) (hc : w.cell? ⟨b, o, none⟩ = some v) : w'.cell? ⟨b, o, none⟩ = some v :=
 (World.cell?_of_block (a := ⟨b, o, none⟩) (h.block b (World.block_lt_of_cell? _ _ hc) hf).1).trans hc
theorem Pm.Kept.low {base lo : Nat} {w wr w' : World} {g : Nat} {m : Bt} {bs : ByteArray} {ov pv tv : Value} {B : Nat → Prop} (hK : Pm.Kept wr w' (Pm.Mine g ov pv tv) B) (hA : Pm.At base wr g m bs ov pv tv) (hb : Below lo w wr) (hlo : lo ≤ base) (hs : lo ≤ w.heap.size) : Below lo w w' :=
 ⟨hK.os.trans hb.os, hK.tape.trans hb.tape, hK.output.trans hb.output, Nat.le_trans hb.size hK.size, fun k hk => (hK.block k (by have := hb.size; omega) (fun q => by have := (hA.mine q).1; omega)).1.trans (hb.block k hk)⟩
def Pm.Off (base : Nat) (w : World) (A : Nat → Prop) (k : Nat) : Prop := base ≤ k ∧ k < w.heap.size ∧ ¬ A k ∧ Rm.Ub w k
theorem Pm.Kept.attrs {base : Nat} {w w' : World} {A B : Nat → Prop} (h : Pm.Kept w w' A B) {al : List (ByteArray × ByteArray)} {v : Value} (hl : Ak.Lies w (Pm.Off base w A) al v) : Ak.Lies w' (Pm.Off base w' B) al v :=
 hl.on fun k hk => by
  obtain ⟨q1, q2⟩ := h.block k hk.2.1 hk.2.2.1
  exact ⟨⟨hk.1, Nat.lt_of_lt_of_le hk.2.1 h.size, q2, hk.2.2.2.on q1⟩, q1⟩
theorem Pm.held {w w1 w4 : World} {xv xv' : Value} {r : Option Nat} (hq : Below w.heap.size w w1) (hr : r = xv.ownBlock ∨ ∃ k, r = some k ∧ w.heap.size ≤ k) (hg : w1.grownBy w4 r) (hf : xv'.ownBlock = xv.ownBlock ∨ ∃ k, xv'.ownBlock = some k ∧ w.heap.size ≤ k) (k : Nat) (hk : k < w.heap.size) (hv : xv.ownBlock ≠ some k) : xv'.ownBlock ≠ some k ∧ w4.heap[k]? = w.heap[k]? :=
 ⟨(fun e => by
  rcases hf with q | ⟨k', q, hk'⟩
  ·
   rw [q] at e; exact hv e
  ·
   rw [q] at e; have := Option.some.inj e; omega), (hg.block k (Nat.lt_of_lt_of_le hk hq.size) (fun e => by
   rcases hr with q | ⟨k', q, hk'⟩
   ·
    rw [q] at e; exact hv e.symm
   ·
    rw [q] at e; have := Option.some.inj e; omega)).trans (hq.block k hk)⟩
theorem Pm.setKept {w w1 w4 : World} {g j : Nat} {A B : Nat → Prop} {x' : Value} (hgA : A g) (hq : Below w.heap.size w w1) {r : Option Nat} (hg : w1.grownBy w4 r) (hb : ∀ k, k < w.heap.size → ¬ A k → w4.heap[k]? = w.heap[k]? ∧ ¬ B k) : Pm.Kept w (w4.setCell ⟨g, j, none⟩ x') A B :=
 ⟨hg.os.trans hq.os, hg.tape.trans hq.tape, hg.output.trans hq.output, by simpa using Nat.le_trans hq.size hg.size, fun k hk hfr => ⟨(Below.heap_setCell _ _ _ _ (fun e => hfr (by rw [e]; exact hgA))).trans (hb k hk hfr).1, (hb k hk hfr).2⟩⟩
theorem Pm.frozenOn {w w' : World} {g : Nat} (hb : w'.heap[g]? = w.heap[g]?) (h : ∀ i, w.frozen? ⟨g, i, none⟩ = false) (i : Nat) : w'.frozen? ⟨g, i, none⟩ = false := by
 have := h i
 unfold World.frozen? at this ⊢
 rw [hb]
 exact this
theorem Pm.At.push {base : Nat} {w w1 w4 : World} {g : Nat} {m : Bt} {bs : ByteArray} {ov pv tv ov' av : Value} {x : Nd} (h : Pm.At base w g m bs ov pv tv) (hq : Below w.heap.size w w1) (xs : List Value)
  (hx : w.ownsRow base 48 5 ov m.out.length xs ∧ ∀ i x, m.out[i]? = some x → ∃ av, Nd.Has xs i x av ∧ Ak.Lies w (fun k => base ≤ k ∧ k < w.heap.size ∧ ov.ownBlock ≠ some k ∧ ¬ (Pm.No g pv tv) k ∧ Rm.Ub w k) x.attrs av)
  (hat : Ak.Lies w (Pm.Off base w (Pm.Mine g ov pv tv)) x.attrs av)
  (R4 : w4.ownsRow base 48 5 ov' (m.out.length + 1) (xs ++ Nd.five x av)) (hg : w1.grownBy w4 ov.ownBlock) (hf : ov'.ownBlock = ov.ownBlock ∨ ov'.ownBlock = some w1.heap.size) :
  Pm.At base (w4.setCell ⟨g, 0, none⟩ ov') g { m with out := m.out ++ [x] } bs ov' pv tv ∧ Pm.Kept w (w4.setCell ⟨g, 0, none⟩ ov') (Pm.Mine g ov pv tv) (Pm.Mine g ov' pv tv) := by
 have hlt := h.lt
 have hold := Pm.held (xv := ov) (xv' := ov') hq (.inl rfl) hg (hf.imp id fun e => ⟨_, e, hq.size⟩)
 have hne : ∀ k, k ≠ g → (w4.setCell ⟨g, 0, none⟩ ov').heap[k]? = w4.heap[k]? := fun k hk => Below.heap_setCell _ _ _ _ hk
 have hsz : w.heap.size ≤ w4.heap.size := Nat.le_trans hq.size hg.size
 have hpv : ∀ k, pv.ownBlock = some k → k < w.heap.size ∧ ov.ownBlock ≠ some k := fun k hk => ⟨(h.pvLt hk).2, fun e => h.op k e hk⟩
 have htv : ∀ k, tv.ownBlock = some k → k < w.heap.size ∧ ov.ownBlock ≠ some k := fun k hk => ⟨(h.tvLt hk).2, fun e => h.ot k e hk⟩
 obtain ⟨hg1, hg2⟩ := hold g hlt h.og
 have hT : Um.Row base (m.out ++ [x]) w4 ov' (Pm.No g pv tv) := by
  refine Um.Row.push xs hx.1 hx.2 hsz R4 (hat.on fun k hk => ?_) (fun k _ h2 h3 h4 => ⟨⟨(hold k h2 h3).1, h4⟩, (hold k h2 h3).2⟩)
  have h3 : ov.ownBlock ≠ some k := fun e => hk.2.2.1 (.inr (.inl e))
  obtain ⟨q1, q2⟩ := hold k hk.2.1 h3
  refine ⟨⟨hk.1, Nat.lt_of_lt_of_le hk.2.1 hsz, q1, fun q => hk.2.2.1 ?_, hk.2.2.2.on q2⟩, q2⟩
  rcases q with q | q | q
  ·
   exact .inl q
  ·
   exact .inr (.inr (.inl q))
  ·
   exact .inr (.inr (.inr q))
 have hc0 : w4.cell? ⟨g, 0, none⟩ = some ov := (World.cell?_of_block (a := ⟨g, 0, none⟩) hg2).trans h.c0
 have hc1 : w4.cell? ⟨g, 1, none⟩ = some pv := (World.cell?_of_block (a := ⟨g, 1, none⟩) hg2).trans h.c1
 have hc2 : w4.cell? ⟨g, 2, none⟩ = some tv := (World.cell?_of_block (a := ⟨g, 2, none⟩) hg2).trans h.c2
 refine ⟨⟨h.ge, by simp [go_sem, hc0], ?_, ?_, fun i => ?_, ?_, ?_, ?_, hg1, h.pg, h.tg, fun k hk hk2 => (hold k (hpv k hk2).1 (hpv k hk2).2).1 hk, fun k hk hk2 => (hold k (htv k hk2).1 (htv k hk2).2).1 hk, h.pt⟩, Pm.setKept (.inl rfl) hq hg fun k hk hfr => ?_⟩
 ·
  rw [World.cell?_setCell_other _ _ _ _ (fun e => by injection e with e1 e2; cases e2)]
  exact hc1
 ·
  rw [World.cell?_setCell_other _ _ _ _ (fun e => by injection e with e1 e2; cases e2)]
  exact hc2
 ·
  rw [World.frozen?_setCell]
  exact Pm.frozenOn hg2 h.fz i
 ·
  exact hT.on (by simp) (fun k hk => hne k (fun e => hg1 (by rw [← e]; exact hk))) (fun k _ _ _ h4 => ⟨h4, hne k (fun e => h4 (.inl e))⟩)
 ·
  exact Rm.own_on h.opn (fun k hk => (hne k (fun e => h.pg (by rw [← e]; exact hk))).trans (hold k (hpv k hk).1 (hpv k hk).2).2)
 ·
  exact Rm.own_on h.txt (fun k hk => (hne k (fun e => h.tg (by rw [← e]; exact hk))).trans (hold k (htv k hk).1 (htv k hk).2).2)
 ·
  have h3 : ov.ownBlock ≠ some k := fun e => hfr (.inr (.inl e))
  refine ⟨(hold k hk h3).2, fun q => ?_⟩
  rcases q with q | q | q
  ·
   exact hfr (.inl q)
  ·
   exact (hold k hk h3).1 q
  ·
   exact hfr (.inr (.inr q))
theorem Pm.At.put {base : Nat} {w : World} {g : Nat} {m : Bt} {bs : ByteArray} {og od : Nat} {pv tv : Value} (h : Pm.At base w g m bs (.slice (some ⟨og, 0, none⟩) m.out.length od) pv tv) {i : Nat} {x : Nd} (hi : m.out[i]? = some x) (y : ByteArray) :
  Pm.At base (w.setCell ⟨og, i * 5 + 2, none⟩ (.string y)) g { m with out := m.out.set i { x with text := y } } bs (.slice (some ⟨og, 0, none⟩) m.out.length od) pv tv ∧ Pm.Kept w (w.setCell ⟨og, i * 5 + 2, none⟩ (.string y)) (Pm.Mine g (.slice (some ⟨og, 0, none⟩) m.out.length od) pv tv) (Pm.Mine g (.slice (some ⟨og, 0, none⟩) m.out.length od) pv tv) := by
 have hg : g ≠ og := fun e => h.og (by rw [e]; rfl)
 have hne : ∀ k, k ≠ og → (w.setCell ⟨og, i * 5 + 2, none⟩ (.string y)).heap[k]? = w.heap[k]? := fun k hk => Below.heap_setCell _ _ _ _ hk
 have hb := hne g hg
 refine ⟨⟨h.ge, (World.cell?_of_block (a := ⟨g, 0, none⟩) hb).trans h.c0, (World.cell?_of_block (a := ⟨g, 1, none⟩) hb).trans h.c1, (World.cell?_of_block (a := ⟨g, 2, none⟩) hb).trans h.c2, fun j => by rw [World.frozen?_setCell]; exact h.fz j, ?_, ?_, ?_, h.og, h.pg, h.tg, h.op, h.ot, h.pt⟩, ⟨rfl, rfl, rfl, by simp, fun k _ hf => ⟨hne k (fun e => hf (.inr (.inl (by rw [e]; rfl)))), hf⟩⟩⟩
 ·
  have := Um.Row.put h.out hi y
  exact this
 ·
  exact Rm.own_on h.opn (fun k hk => hne k (fun e => h.op og rfl (by rw [← e]; exact hk)))
 ·
  exact Rm.own_on h.txt (fun k hk => hne k (fun e => h.ot og rfl (by rw [← e]; exact hk)))
theorem Pm.At.open {base : Nat} {w w1 w4 : World} {g : Nat} {m : Bt} {bs : ByteArray} {ov pv tv pv' : Value} {l : List Nat} (h : Pm.At base w g m bs ov pv tv) (hq : Below w.heap.size w w1) {r : Option Nat} (hr : r = pv.ownBlock ∨ ∃ k, r = some k ∧ w.heap.size ≤ k)
  (R4 : w4.ownsRow base 3 1 pv' l.length (Um.ints l)) (hg : w1.grownBy w4 r) (hf : pv'.ownBlock = pv.ownBlock ∨ ∃ k, pv'.ownBlock = some k ∧ w.heap.size ≤ k) :
  Pm.At base (w4.setCell ⟨g, 1, none⟩ pv') g { m with opn := l } bs ov pv' tv ∧ Pm.Kept w (w4.setCell ⟨g, 1, none⟩ pv') (Pm.Mine g ov pv tv) (Pm.Mine g ov pv' tv) := by
 have hlt := h.lt
 have hold := Pm.held (xv := pv) (xv' := pv') hq hr hg hf
 have hne : ∀ k, k ≠ g → (w4.setCell ⟨g, 1, none⟩ pv').heap[k]? = w4.heap[k]? := fun k hk => Below.heap_setCell _ _ _ _ hk
 have hsz : w.heap.size ≤ w4.heap.size := Nat.le_trans hq.size hg.size
 obtain ⟨hg1, hg2⟩ := hold g hlt h.pg
 have hov : ∀ k, ov.ownBlock = some k → k < w.heap.size ∧ pv.ownBlock ≠ some k := fun k hk => ⟨(h.ovLt hk).2, h.op k hk⟩
 have htv : ∀ k, tv.ownBlock = some k → k < w.heap.size ∧ pv.ownBlock ≠ some k := fun k hk => ⟨(h.tvLt hk).2, fun e => h.pt k e hk⟩
 have hc0 : w4.cell? ⟨g, 0, none⟩ = some ov := (World.cell?_of_block (a := ⟨g, 0, none⟩) hg2).trans h.c0
 have hc1 : w4.cell? ⟨g, 1, none⟩ = some pv := (World.cell?_of_block (a := ⟨g, 1, none⟩) hg2).trans h.c1
 have hc2 : w4.cell? ⟨g, 2, none⟩ = some tv := (World.cell?_of_block (a := ⟨g, 2, none⟩) hg2).trans h.c2
 refine ⟨⟨h.ge, ?_, by simp [go_sem, hc1], ?_, fun i => ?_, ?_, ?_, ?_, h.og, hg1, h.tg, fun k hk => (hold k (hov k hk).1 (hov k hk).2).1, h.ot, fun k hk hk2 => (hold k (htv k hk2).1 (htv k hk2).2).1 hk⟩, Pm.setKept (.inl rfl) hq hg fun k hk hfr => ?_⟩
 ·
  rw [World.cell?_setCell_other _ _ _ _ (fun e => by injection e with e1 e2; cases e2)]
  exact hc0
 ·
  rw [World.cell?_setCell_other _ _ _ _ (fun e => by injection e with e1 e2; cases e2)]
  exact hc2
 ·
  rw [World.frozen?_setCell]
  exact Pm.frozenOn hg2 h.fz i
 ·
  refine h.out.on (by simpa using hsz) (fun k hk => (hne k (fun e => h.og (by rw [← e]; exact hk))).trans (hold k (hov k hk).1 (hov k hk).2).2) (fun k _ h2 _ h4 => ?_)
  have h5 : pv.ownBlock ≠ some k := fun e => h4 (.inr (.inl e))
  refine ⟨fun q => ?_, (hne k (fun e => h4 (.inl e))).trans (hold k h2 h5).2⟩
  rcases q with q | q | q
  ·
   exact h4 (.inl q)
  ·
   exact (hold k h2 h5).1 q
  ·
   exact h4 (.inr (.inr q))
 ·
  exact Rm.own_on R4 (fun k hk => hne k (fun e => hg1 (by rw [← e]; exact hk)))
 ·
  exact Rm.own_on h.txt (fun k hk => (hne k (fun e => h.tg (by rw [← e]; exact hk))).trans (hold k (htv k hk).1 (htv k hk).2).2)
 ·
  have h3 : pv.ownBlock ≠ some k := fun e => hfr (.inr (.inr (.inl e)))
  refine ⟨(hold k hk h3).2, fun q => ?_⟩
  rcases q with q | q | q | q
  ·
   exact hfr (.inl q)
  ·
   exact hfr (.inr (.inl q))
  ·
   exact (hold k hk h3).1 q
  ·
   exact hfr (.inr (.inr (.inr q)))
theorem Pm.At.text {base : Nat} {w w1 w4 : World} {g : Nat} {m : Bt} {bs bs' : ByteArray} {ov pv tv tv' : Value} (h : Pm.At base w g m bs ov pv tv) (hq : Below w.heap.size w w1) {r : Option Nat} (hr : r = tv.ownBlock ∨ ∃ k, r = some k ∧ w.heap.size ≤ k)
  (R4 : w4.ownsRow base 5 1 tv' bs'.size (Lib.strCells bs')) (hg : w1.grownBy w4 r) (hf : tv'.ownBlock = tv.ownBlock ∨ ∃ k, tv'.ownBlock = some k ∧ w.heap.size ≤ k) :
  Pm.At base (w4.setCell ⟨g, 2, none⟩ tv') g m bs' ov pv tv' ∧ Pm.Kept w (w4.setCell ⟨g, 2, none⟩ tv') (Pm.Mine g ov pv tv) (Pm.Mine g ov pv tv') := by
 have hlt := h.lt
 have hold := Pm.held (xv := tv) (xv' := tv') hq hr hg hf
 have hne : ∀ k, k ≠ g → (w4.setCell ⟨g, 2, none⟩ tv').heap[k]? = w4.heap[k]? := fun k hk => Below.heap_setCell _ _ _ _ hk
 have hsz : w.heap.size ≤ w4.heap.size := Nat.le_trans hq.size hg.size
 obtain ⟨hg1, hg2⟩ := hold g hlt h.tg
 have hov : ∀ k, ov.ownBlock = some k → k < w.heap.size ∧ tv.ownBlock ≠ some k := fun k hk => ⟨(h.ovLt hk).2, h.ot k hk⟩
 have hpv : ∀ k, pv.ownBlock = some k → k < w.heap.size ∧ tv.ownBlock ≠ some k := fun k hk => ⟨(h.pvLt hk).2, h.pt k hk⟩
 have hc0 : w4.cell? ⟨g, 0, none⟩ = some ov := (World.cell?_of_block (a := ⟨g, 0, none⟩) hg2).trans h.c0
 have hc1 : w4.cell? ⟨g, 1, none⟩ = some pv := (World.cell?_of_block (a := ⟨g, 1, none⟩) hg2).trans h.c1
 have hc2 : w4.cell? ⟨g, 2, none⟩ = some tv := (World.cell?_of_block (a := ⟨g, 2, none⟩) hg2).trans h.c2
 refine ⟨⟨h.ge, ?_, ?_, by simp [go_sem, hc2], fun i => ?_, ?_, ?_, ?_, h.og, h.pg, hg1, h.op, fun k hk => (hold k (hov k hk).1 (hov k hk).2).1, fun k hk => (hold k (hpv k hk).1 (hpv k hk).2).1⟩, Pm.setKept (.inl rfl) hq hg fun k hk hfr => ?_⟩
 ·
  rw [World.cell?_setCell_other _ _ _ _ (fun e => by injection e with e1 e2; cases e2)]
  exact hc0
 ·
  rw [World.cell?_setCell_other _ _ _ _ (fun e => by injection e with e1 e2; cases e2)]
  exact hc1
 ·
  rw [World.frozen?_setCell]
  exact Pm.frozenOn hg2 h.fz i
 ·
  refine h.out.on (by simpa using hsz) (fun k hk => (hne k (fun e => h.og (by rw [← e]; exact hk))).trans (hold k (hov k hk).1 (hov k hk).2).2) (fun k _ h2 _ h4 => ?_)
  have h5 : tv.ownBlock ≠ some k := fun e => h4 (.inr (.inr e))
  refine ⟨fun q => ?_, (hne k (fun e => h4 (.inl e))).trans (hold k h2 h5).2⟩
  rcases q with q | q | q
  ·
   exact h4 (.inl q)
  ·
   exact h4 (.inr (.inl q))
  ·
   exact (hold k h2 h5).1 q
 ·
  exact Rm.own_on h.opn (fun k hk => (hne k (fun e => h.pg (by rw [← e]; exact hk))).trans (hold k (hpv k hk).1 (hpv k hk).2).2)
 ·
  exact Rm.own_on R4 (fun k hk => hne k (fun e => hg1 (by rw [← e]; exact hk)))
 ·
  have h3 : tv.ownBlock ≠ some k := fun e => hfr (.inr (.inr (.inr e)))
  refine ⟨(hold k hk h3).2, fun q => ?_⟩
  rcases q with q | q | q | q
  ·
   exact hfr (.inl q)
  ·
   exact hfr (.inr (.inl q))
  ·
   exact hfr (.inr (.inr (.inl q)))
  ·
   exact (hold k hk h3).1 q
theorem Pm.short {w : World} {base : Nat} {e : TypeId} {n g d : Nat} {xs : List Value} (h : w.ownsRow base e 1 (.slice (some ⟨g, 0, none⟩) n d) n xs) (i : Nat) (hi : i ≤ n) : w.ownsRow base e 1 (.slice (some ⟨g, 0, none⟩) i d) i (xs.take i) := by
 have hl := h.1
 rcases h.2 with ⟨q, _⟩ | ⟨g', cap, cur, q, hb, hg, h1, h2, h3, h4⟩
 ·
  cases q
 ·
  injection q with q1 q2 q3
  subst q3
  injection q1 with q1
  injection q1 with q1
  subst q1
  refine ⟨by rw [List.length_take]; omega, .inr ⟨g, _, cur, rfl, hb, hg, by omega, h2, h3, ?_⟩⟩
  rw [← h4, List.take_take]
  congr 1
  omega
theorem Pm.bytes_append (a b : ByteArray) : Lib.strCells (a ++ b) = Lib.strCells a ++ Lib.strCells b := by simp [Lib.strCells, ByteArray.data_append]
theorem Pm.conv {wr : World} {B : Nat} {v : Value} {s : ByteArray} (h : wr.ownsRow B 5 1 v s.size (Lib.strCells s)) :
  (convert 43 9 v).run Tryz.prog wr = .ok (.string s) wr := by
 obtain ⟨acc, rfl⟩ : ∃ acc : List UInt8, s = ⟨acc.toArray⟩ := ⟨s.data.toList, by apply ByteArray.ext; simp⟩
 have hz : (⟨acc.toArray⟩ : ByteArray).size = acc.length := by show acc.toArray.size = _; simp
 have hc : Lib.strCells ⟨acc.toArray⟩ = Lib.byteCells acc := by simp [Lib.strCells, Lib.byteCells]
 rw [hz, hc] at h
 rcases h.2 with ⟨rfl, h0⟩ | ⟨g, cap, cur, rfl, _⟩
 ·
  have e : acc = [] := List.eq_nil_of_length_eq_zero h0
  subst e
  rw [run_convert_bytes_string wr 43 9 5 none 0 0 Tryz.underlying43 Tryz.underlying5 Tryz.underlying9]
  simp [Conv.bytesToString]
  rfl
 ·
  refine run_convert_bytes_back (P := Tryz.prog) wr 43 9 5 ⟨g, 0, none⟩ cap acc Tryz.underlying43 Tryz.underlying5 Tryz.underlying9 (fun j hj => ?_)
  have e : (⟨g, 0, none⟩ : Addr).add j = ⟨g, j, none⟩ := by rw [Addr.add_lit, Nat.zero_add]
  rw [e, h.cellAt j (by omega)]
  simp [Lib.byteCells, hj]
theorem Tg.len : ∀ (n u : Nat), u < 10 ^ (n + 1) → (Lib.decDigits u).length ≤ n + 1
 | 0, u, h => by
  rw [Lib.decDigits, dif_pos (by omega)]
  simp
 | n + 1, u, h => by
  rw [Lib.decDigits]
  split
  ·
   simp
  ·
   have := Tg.len n (u / 10) (by rw [Nat.pow_succ] at h; omega)
   simp
   omega
theorem Dm.info5 : (Tryz.prog.info? 5).map (fun i => (i.zero, i.size, i.bytes)) = some (some (.int .u8 0), 1, 1) := by kernel_rfl
theorem Dm.conv {wr : World} {B : Nat} {v : Value} {acc : List UInt8} (h : wr.ownsRow B 5 1 v acc.length (Lib.byteCells acc)) :
  (convert 43 9 v).run Tryz.prog wr = .ok (.string ⟨acc.toArray⟩) wr := by
 rcases h.2 with ⟨rfl, h0⟩ | ⟨g, cap, cur, rfl, _⟩
 ·
  have e : acc = [] := List.eq_nil_of_length_eq_zero h0
  subst e
  rw [run_convert_bytes_string wr 43 9 5 none 0 0 Tryz.underlying43 Tryz.underlying5 Tryz.underlying9]
  simp [Conv.bytesToString]
  rfl
 ·
  refine run_convert_bytes_back (P := Tryz.prog) wr 43 9 5 ⟨g, 0, none⟩ cap acc Tryz.underlying43 Tryz.underlying5 Tryz.underlying9 (fun j hj => ?_)
  have e : (⟨g, 0, none⟩ : Addr).add j = ⟨g, j, none⟩ := by rw [Addr.add_lit, Nat.zero_add]
  rw [e, h.cellAt j (by omega)]
  simp [Lib.byteCells, hj]
structure Dm.Half (k z : Nat) (l : List UInt8) : Prop where
 first : l = [] → z = k
 later : l ≠ [] → Lib.decDigits k = (if z = 0 then [] else Lib.decDigits z) ++ l
theorem Dm.Half.step {k z : Nat} {l : List UInt8} (h : Dm.Half k z l) (hz : 0 < z ∨ l = []) (c : UInt8) (hc : c.toNat = 48 + z % 10) : Dm.Half k (z / 10) (c :: l) := by
 have e : (if z / 10 = 0 then [] else Lib.decDigits (z / 10)) ++ [c] = Lib.decDigits z := by
  have hc' : c = UInt8.ofNat (48 + z % 10) := by
   apply UInt8.toNat_inj.1
   rw [hc, UInt8.toNat_ofNat']
   omega
  by_cases h1 : z < 10
  ·
   rw [if_pos (by omega), Lib.decDigits_one h1, hc', Nat.mod_eq_of_lt h1]; rfl
  ·
   conv => rhs; rw [Lib.decDigits, dif_neg h1]
   rw [if_neg (by omega), hc']
 refine ⟨(fun h => by cases h), fun _ => ?_⟩
 rw [show c :: l = [c] ++ l by rfl, ← List.append_assoc, e]
 by_cases hl : l = []
 ·
  rw [h.first hl, hl, List.append_nil]
 ·
  rw [h.later hl, if_neg]
  rcases hz with hz | hz
  ·
   omega
  ·
   exact absurd hz hl
theorem Dm.Half.len {k z : Nat} {l : List UInt8} (h : Dm.Half k z l) (hk : k < 18446744073709551616) : l.length ≤ 20 := by
 by_cases hl : l = []
 ·
  rw [hl]; simp
 ·
  have h1 := Tg.len 19 k (by omega)
  rw [h.later hl, List.length_append] at h1
  omega
theorem Dm.Half.fin {k : Nat} {l : List UInt8} (h : Dm.Half k 0 l) (hl : l ≠ []) : Lib.decDigits k = l := by
 rw [h.later hl, if_pos rfl, List.nil_append]
def Dm.len : Value → Nat
 | .slice _ n _ => n
 | _ => 0
theorem Dm.len_own {w : World} {B : Nat} {v : Value} {n : Nat} {xs : List Value} (h : w.ownsRow B 5 1 v n xs) : Dm.len v = n := by
 rcases h.2 with ⟨rfl, h0⟩ | ⟨g, cap, cur, rfl, _⟩
 ·
  exact h0.symm
 ·
  rfl
theorem Dm.one (W : World) (B : Nat) (x : Int) (hB : B ≤ W.heap.size) : (W.alloc (.cells #[.int .u8 x] 5)).ownsRow B 5 1 (.slice (some ⟨W.heap.size, 0, none⟩) 1 1) 1 [.int .u8 x] :=
 World.ownsRow_lit (e := 5) (size := 1) W #[.int .u8 x] 1 hB (by unfold maxLen; omega) rfl
theorem Dm.ones (l : List UInt8) : ∀ u ∈ Lib.byteCells l, u.oneCell' = true := by
 intro u hu
 simp only [Lib.byteCells, List.mem_map] at hu
 obtain ⟨c, _, rfl⟩ := hu
 rfl
theorem Dm.rel {w wr w1 : World} {v' : Value} {acc : List UInt8} {X : Obj} {c : UInt8} (hb : Below w.heap.size w wr)
  (hown' : w1.ownsRow w.heap.size 5 1 v' (1 + acc.length) ([.int .u8 c.toNat] ++ Lib.byteCells acc)) (hg : (wr.alloc X).grownBy w1 (some wr.heap.size)) :
  w1.ownsRow w.heap.size 5 1 v' (c :: acc).length (Lib.byteCells (c :: acc)) ∧ Below w.heap.size w w1 := by
 refine ⟨?_, (hb.alloc hb.size X).grown hg (by have := hb.size; simp; omega) (fun k hk => by cases hk; exact hb.size)⟩
 rw [List.length_cons, Nat.add_comm]
 exact hown'
set_option maxRecDepth 100000 in
set_option maxHeartbeats 2000000 in
theorem Dm.decimal (k : Nat) (hk : k < 9223372036854775808) (w : World) :
  Calls Tryz.prog 18 #[.int .i64 (k : Int)] w fun e w' => e = .returned (.string ⟨(Lib.decDigits k).toArray⟩) ∧ Below w.heap.size w w' := by
 obtain ⟨i0, hi, hz0, hz1, hz2⟩ := info_parts Dm.info5
 have k0 : decide ((k : Int) < 0) = false := decide_eq_false (by omega)
 go_enter Tryz.func18, Tryz.ntmps18
 go_wp2
 go_loopw [3, 4] (fun y o wr => ∃ (z : Nat) (acc : List UInt8), y = .int .u64 z ∧ z ≤ k ∧ wr.ownsRow w.heap.size 5 1 o acc.length (Lib.byteCells acc) ∧ Below w.heap.size w wr ∧ Hid (Dm.Half k z acc) ∧ (acc = [] → o = .slice none 0 0)) (fun y o _ => 2 * (intOf y).toNat + (if Dm.len o = 0 then 1 else 0))
 case atStart => exact ⟨k, [], by go_num, Nat.le_refl _, World.ownsRow_nil _ _ _ _, Below.refl _ _, ⟨fun _ => rfl, fun h => absurd rfl h⟩, fun _ => rfl⟩
 case round =>
  obtain ⟨z, acc, rfl, hzk, hown, hb, HH, hnil⟩ := hrel
  have hsr := hb.size
  obtain ⟨c, hc⟩ : ∃ c : UInt8, c.toNat = 48 + z % 10 := ⟨UInt8.ofNat (48 + z % 10), by rw [UInt8.toNat_ofNat']; omega⟩
  have HC := Lib.hid hc
  have hcI : 48 + (z : Int) % 10 = (c.toNat : Int) := by omega
  clear hc
  rcases hown.2 with ⟨rfl, h0⟩ | ⟨g, cap, cur, rfl, _⟩
  ·
   have hacc : acc = [] := List.eq_nil_of_length_eq_zero h0
   subst hacc
   have HS : Hid (Dm.Half k (z / 10) [c]) := HH.out.step (.inr rfl) c HC.out
   have R := Dm.one wr w.heap.size c.toNat hsr
   have hb' := hb.alloc hb.size (.cells #[.int .u8 c.toNat] 5)
   clear h0 hnil HC HH hown hb
   by_cases hz : 0 < z
   ·
    go_wp2_with fail
    refine ⟨⟨z / 10, [c], by go_num, by omega, R, hb', HS, fun h => by cases h⟩, ?_⟩
    simp [intOf, Dm.len]
    omega
   ·
    go_wp2_with fail
    refine ⟨⟨z / 10, [c], by go_num, by omega, R, hb', HS, fun h => by cases h⟩, ?_⟩
    simp [intOf, Dm.len]
    omega
  ·
   have hne : acc ≠ [] := fun h => by have := hnil h; cases this
   have hpos : 0 < acc.length := List.length_pos_iff.2 hne
   have hlen := HH.out.len (by omega)
   clear hnil
   by_cases hz : 0 < z
   ·
    have HS : Hid (Dm.Half k (z / 10) (c :: acc)) := HH.out.step (.inl hz) c HC.out
    have hl := Dm.len_own hown
    clear HC HH
    go_wp2_with (at_builtin; refine wpList_append_own _ rfl _ _ 43 rfl w.heap.size 5 i0 (.int .u8 0) 1 1 Tryz.underlying43 hi hz0 hz1 hz2 rfl (by decide) _ _ _ rfl (Dm.one wr w.heap.size c.toNat hsr) ⟨g, 0, none⟩ acc.length cap (Lib.byteCells acc) rfl (by rw [Lib.byteCells_length]; omega) ((hown.alloc _).cells rfl) (Dm.ones acc) (by unfold maxLen; omega) (by omega) (by simp; omega) ?_)
    intro v' w1 hown' hgrow _
    have R := Dm.rel (c := c) hb hown' hgrow
    have hl' := Dm.len_own R.1
    clear hown' hgrow hown hb
    go_wp2_with fail
    refine ⟨⟨z / 10, c :: acc, by go_num, by omega, R.1, R.2, HS, fun h => by cases h⟩, ?_⟩
    rw [hl', hl]
    simp [intOf]
    omega
   ·
    have hz0' : z = 0 := by omega
    subst hz0'
    have HF : Hid (Lib.decDigits k = acc) := HH.out.fin hne
    have hl0 : ((acc.length : Int) == 0) = false := beq_eq_false_iff_ne.2 (by omega)
    have hconv := Dm.conv hown
    clear HH HC hown hcI
    go_wp2
    go_ret
    refine ⟨?_, hb⟩
    rw [HF.out]
    rfl
end Go.Proofs.YtblpkjlodncpeaaGreatDoor

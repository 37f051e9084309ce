/-
  A ROW OF VALUES THAT GROWS: 'append(row, value)', time and again.
-/
import Derived.Test.YtggfemdnoccmeaaDoorVKit
import Derived.Deep.RegionLaw
namespace Go.Proofs.YtggfemdnoccmeaaDoor
open Go.RowKit

/-- where the row lies behind an 'append': where it lay, or in a new block -/
theorem Vr.fresh {P : Program} {w : World} (base : Nat) (t ty e : TypeId) (i : TypeInfo) (z : Value) (size bytes : Nat) (ht : P.underlying t = some (.slice e)) (hi : P.info? e = some i) (hz : i.zero = some z)
    (hsize : i.size = size) (hby : i.bytes = bytes) (hsz : 0 < size)
    (v : Value) (n : Nat) (xs : List Value) (hown : w.ownsRow base e size v n xs)
    (a : Addr) (m c : Nat) (hm : 0 < m) (news : List Value) (hl : news.length = m * size) (hnews : ∀ j u, news[j]? = some u → w.cell? (a.add j) = some u) (h1 : ∀ u ∈ news, u.oneCell' = true)
    (h63 : n + m ≤ maxLen) (hbytes : (n + m) * bytes ≤ 140737488355328) (v' : Value) (w' : World) (hrun : (Builtin.append_ #[t, t] ty #[v, .slice (some a) m c]).run P w = .ok v' w') :
    v'.ownBlock = v.ownBlock ∨ v'.ownBlock = some w.heap.size := by
  subst hsize
  subst hby
  have hsmall : n + m ≤ 9223372036854775807 := by simp only [maxLen] at h63; omega
  rcases hown.2 with ⟨rfl, rfl⟩ | ⟨g, cap, cur, rfl, hbg, hg, hnc, hcm, hcs, htake⟩
  · have hr := run_append_nil (P := P) w t ty e i z ht hi hz a m c news hl hnews (by omega) (by omega) (by have hb := hbytes; simp only [Nat.zero_add] at hb; omega)
    rw [hr] at hrun
    injection hrun with e1 e2
    subst e1
    exact .inr rfl
  · by_cases hroom : n + m ≤ cap
    · have hfit : n * i.size + news.length ≤ cur.size := by rw [hl, hcs, ← Nat.add_mul]; exact Nat.mul_le_mul_right _ hroom
      have hr := run_append_room (P := P) w t ty e i ht hi g n cap cur hg a m c news hl hnews h1 hroom hfit
      rw [hr] at hrun
      injection hrun with e1 e2
      subst e1
      exact .inl rfl
    · have holds : ∀ j u, xs[j]? = some u → w.cell? ((⟨g, 0, none⟩ : Addr).add j) = some u := hown.cells (g := g) rfl
      have hr := run_append_grow (P := P) w t ty e i z ht hi hz ⟨g, 0, none⟩ n cap xs hown.1 holds a m c news hl hnews (by omega) (by omega) (growslice_fits (by omega) hbytes)
      rw [hr] at hrun
      injection hrun with e1 e2
      subst e1
      exact .inr rfl

/-- A ROW OF n VALUES in a block of its own, from base on; the values' own parts lie in blocks of Q, none of them in the row's block -/
structure Vr.Row (Q : Nat → Prop) (base : Nat) (it : Nat → Vt) (n : Nat) (w : World) (v : Value) : Prop where
  all : ∃ xs, w.ownsRow base 26 6 v n xs ∧ ∀ i, i < n → ∃ u0 u1 u2 u3 u4 u5, xs[i * 6]? = some u0 ∧ xs[i * 6 + 1]? = some u1 ∧ xs[i * 6 + 2]? = some u2 ∧ xs[i * 6 + 3]? = some u3 ∧ xs[i * 6 + 4]? = some u4 ∧ xs[i * 6 + 5]? = some u5 ∧ (it i).Lies w (fun k => Q k ∧ k < w.heap.size ∧ v.ownBlock ≠ some k) (.agg #[u0, u1, u2, u3, u4, u5])
theorem Vr.Row.nil (Q : Nat → Prop) (base : Nat) (it : Nat → Vt) (w : World) : Vr.Row Q base it 0 w (.slice none 0 0) := ⟨[], World.ownsRow_nil _ _ _ _, fun i hi => absurd hi (by omega)⟩
/-- what has turned at most is one block that is none of the row's -/
theorem Vr.Row.on {Q : Nat → Prop} {base : Nat} {it : Nat → Vt} {n : Nat} {w w' : World} {v : Value} (h : Vr.Row Q base it n w v) {gB : Nat} (hs : w.heap.size ≤ w'.heap.size) (hw : ∀ k, k < w.heap.size → k ≠ gB → w'.heap[k]? = w.heap[k]?) (hB : gB < base) (hQ : ¬ Q gB) : Vr.Row Q base it n w' v := by
  obtain ⟨xs, ho, hi⟩ := h.all
  refine ⟨xs, ⟨ho.1, ?_⟩, fun i hin => ?_⟩
  · rcases ho.2 with hn | ⟨g, cap, cur, rfl, hb, hgg, rest⟩
    · exact .inl hn
    · refine .inr ⟨g, cap, cur, rfl, hb, ?_, rest⟩
      rw [hw g (Array.getElem?_eq_some_iff.1 hgg).1 (by omega)]
      exact hgg
  · obtain ⟨u0, u1, u2, u3, u4, u5, x0, x1, x2, x3, x4, x5, hl⟩ := hi i hin
    exact ⟨u0, u1, u2, u3, u4, u5, x0, x1, x2, x3, x4, x5, hl.on fun k hk => ⟨⟨hk.1, Nat.lt_of_lt_of_le hk.2.1 hs, hk.2.2⟩, hw k hk.2.1 (fun e => hQ (e ▸ hk.1))⟩⟩
theorem Vr.Row.form {Q : Nat → Prop} {base : Nat} {it : Nat → Vt} {n : Nat} {w : World} {v : Value} (h : Vr.Row Q base it n w v) : ∃ a d, v = .slice a n d ∧ n ≤ d ∧ d ≤ maxLen := by
  obtain ⟨xs, ho, hi⟩ := h.all
  obtain ⟨a, d, e, h1, h2, _⟩ := Vc.row_form ho
  exact ⟨a, d, e, h1, h2⟩
/-- a tree over the row -/
theorem Vr.Row.lies {Q : Nat → Prop} {base : Nat} {it : Nat → Vt} {n : Nat} {w : World} {a : Option Addr} {d : Nat} (h : Vr.Row Q base it n w (.slice a n d)) {R : Nat → Prop} (hQ : ∀ k, Q k → k < w.heap.size → R k) (hB : ∀ k, base ≤ k → k < w.heap.size → R k) (k x : Int) (b : Nat) (s : ByteArray) (hb : b < 18446744073709551616) (m : Nat) (ks : Nat → ByteArray) (ak : Option Addr) (dk : Nat) (hk : Vt.Keys w R m ks ak dk) :
    (Vt.mk k x b s n it m ks).Lies w R (.agg #[.int .i64 k, .int .i64 x, .int .u64 (b : Int), .string s, .slice a n d, .slice ak m dk]) := by
  obtain ⟨xs, ho, hi⟩ := h.all
  obtain ⟨a', d', e, h1, h2, _, hrow⟩ := Vc.row_form ho
  injection e with e1 e2 e3
  subst e1
  subst e3
  refine ⟨a, d, ak, dk, rfl, hb, h1, h2, hk, fun i hin => ?_⟩
  obtain ⟨g, cur, e, g1, g2, hg, hsz, hj⟩ := hrow (by omega)
  obtain ⟨u0, u1, u2, u3, u4, u5, x0, x1, x2, x3, x4, x5, hl⟩ := hi i hin
  refine ⟨g, 0, u0, u1, u2, u3, u4, u5, e, hB g g1 g2, ?_, ?_, ?_, ?_, ?_, ?_, hl.on fun k hk => ⟨hQ k hk.1 hk.2.1, rfl⟩⟩
  all_goals rw [Nat.zero_add]
  · exact Vm.boxCell hg _ (hj _ _ x0)
  · exact Vm.boxCell hg _ (hj _ _ x1)
  · exact Vm.boxCell hg _ (hj _ _ x2)
  · exact Vm.boxCell hg _ (hj _ _ x3)
  · exact Vm.boxCell hg _ (hj _ _ x4)
  · exact Vm.boxCell hg _ (hj _ _ x5)
/-- since W nothing has turned but block gB -/
structure Vr.Lo (W wr : World) (gB : Nat) : Prop where
  os : wr.os = W.os
  tape : wr.tape = W.tape
  output : wr.output = W.output
  size : W.heap.size ≤ wr.heap.size
  block : ∀ k, k < W.heap.size → k ≠ gB → wr.heap[k]? = W.heap[k]?
theorem Vr.Lo.refl (W : World) (gB : Nat) : Vr.Lo W W gB := ⟨rfl, rfl, rfl, Nat.le_refl _, fun _ _ _ => rfl⟩
theorem Vr.Lo.on {W wr w' : World} {gB : Nat} (h : Vr.Lo W wr gB) (hb : Below wr.heap.size wr w') : Vr.Lo W w' gB :=
  ⟨hb.os.trans h.os, hb.tape.trans h.tape, hb.output.trans h.output, Nat.le_trans h.size hb.size, fun k hk hne => (hb.block k (Nat.lt_of_lt_of_le hk h.size)).trans (h.block k hk hne)⟩
theorem Vr.Lo.low {W wr w' : World} {gB : Nat} (h : Vr.Lo W wr gB) (hb : Below W.heap.size wr w') : Vr.Lo W w' gB :=
  ⟨hb.os.trans h.os, hb.tape.trans h.tape, hb.output.trans h.output, Nat.le_trans h.size hb.size, fun k hk hne => (hb.block k hk).trans (h.block k hk hne)⟩
theorem Vr.Row.ne {Q : Nat → Prop} {base : Nat} {it : Nat → Vt} {n : Nat} {w : World} {v : Value} (h : Vr.Row Q base it n w v) {k : Nat} (hk : k < base) : v.ownBlock ≠ some k := by
  obtain ⟨xs, ho, _⟩ := h.all
  intro e
  have := (ho.lt k e).1
  omega
theorem Vr.Lo.alloc {W wr : World} {gB : Nat} (h : Vr.Lo W wr gB) (o : Obj) : Vr.Lo W (wr.alloc o) gB := h.on ((Below.refl _ _).alloc (Nat.le_refl _) o)
theorem Vr.Lo.set {W wr : World} {gB : Nat} (h : Vr.Lo W wr gB) (i : Nat) (v : Value) : Vr.Lo W (wr.setCell ⟨gB, i, none⟩ v) gB :=
  ⟨h.os, h.tape, h.output, by simp; exact h.size, fun k hk hne => (Below.heap_setCell _ _ _ _ hne).trans (h.block k hk hne)⟩
theorem Vr.Lo.below {w W wr : World} {gB : Nat} (h : Vr.Lo W wr gB) (hW : Below w.heap.size w W) (hg : w.heap.size ≤ gB) : Below w.heap.size w wr :=
  ⟨h.os.trans hW.os, h.tape.trans hW.tape, h.output.trans hW.output, Nat.le_trans hW.size h.size, fun g hg' => (h.block g (Nat.lt_of_lt_of_le hg' hW.size) (by omega)).trans (hW.block g hg')⟩
theorem Vr.Row.alloc {Q : Nat → Prop} {base : Nat} {it : Nat → Vt} {n : Nat} {w : World} {v : Value} (h : Vr.Row Q base it n w v) {gB : Nat} (hB : gB < base) (hQ : ¬ Q gB) (o : Obj) : Vr.Row Q base it n (w.alloc o) v :=
  h.on (gB := gB) (by simp) (fun k hk _ => Below.heap_alloc _ _ _ hk) hB hQ
theorem Vr.Row.then {Q : Nat → Prop} {base : Nat} {it : Nat → Vt} {n : Nat} {w w' : World} {v : Value} (h : Vr.Row Q base it n w v) {gB : Nat} (hB : gB < base) (hQ : ¬ Q gB) (hb : Below w.heap.size w w') : Vr.Row Q base it n w' v :=
  h.on (gB := gB) hb.size (fun k hk _ => hb.block k hk) hB hQ
theorem Vr.Row.set {Q : Nat → Prop} {base : Nat} {it : Nat → Vt} {n : Nat} {w : World} {v : Value} (h : Vr.Row Q base it n w v) {gB : Nat} (hB : gB < base) (hQ : ¬ Q gB) (i : Nat) (u : Value) : Vr.Row Q base it n (w.setCell ⟨gB, i, none⟩ u) v :=
  h.on (gB := gB) (by simp) (fun k hk hne => Below.heap_setCell _ _ _ _ hne) hB hQ
/-- 'append(row, value)' -/
theorem Vr.wp_push {w : World} {o : Oper} {a : Act} {K : Act → World → Prop} {Z : Exit → Act → World → Prop} (s x : Operand)
    (ho : o.op = .call { callee := .builtin .append, args := #[s, x], argTypes := #[23, 23] })
    {Q : Nat → Prop} {base : Nat} {it : Nat → Vt} {n : Nat} (v : Value) (hs : a.eval s = v) (hR : Vr.Row Q base it n w v) (g1 : Nat) (k1 x1 : Int) (b1 : Nat) (s1 : ByteArray) (ai1 : Option Addr) (n1 c1 : Nat) (ak1 : Option Addr) (m1 d1 : Nat)
    (hx : a.eval x = .slice (some ⟨g1, 0, none⟩) 1 1) (hg1 : Vm.Has w g1 (.cells #[.int .i64 k1, .int .i64 x1, .int .u64 (b1 : Int), .string s1, .slice ai1 n1 c1, .slice ak1 m1 d1] 26))
    (hl : (it n).Lies w (fun k => Q k ∧ k < w.heap.size ∧ v.ownBlock ≠ some k) (.agg #[.int .i64 k1, .int .i64 x1, .int .u64 (b1 : Int), .string s1, .slice ai1 n1 c1, .slice ak1 m1 d1]))
    (hn : (n + 1) * 88 ≤ 140737488355328) (hbase : base ≤ w.heap.size)
    (h : ∀ v' w', Vr.Row Q base it (n + 1) w' v' → Below base w w' → K (a.put o.dst v') w') : o.wp Tryd.prog a w K Z := by
  obtain ⟨iV, hiV, hzV, hsV, hbV⟩ := info_parts Vc.infoV
  obtain ⟨xs, hown, hi⟩ := hR.all
  have hnews : ∀ j u, ([.int .i64 k1, .int .i64 x1, .int .u64 (b1 : Int), .string s1, .slice ai1 n1 c1, .slice ak1 m1 d1] : List Value)[j]? = some u → w.cell? ((⟨g1, 0, none⟩ : Addr).add j) = some u := by
    intro j u hj
    rw [Vc.add, Nat.zero_add]
    refine hg1.cell j ?_
    rw [← hj]
    simp
  have hone : ∀ u ∈ ([.int .i64 k1, .int .i64 x1, .int .u64 (b1 : Int), .string s1, .slice ai1 n1 c1, .slice ak1 m1 d1] : List Value), u.oneCell' = true := by
    intro u hu
    simp only [List.mem_cons, List.not_mem_nil, or_false] at hu
    rcases hu with rfl | rfl | rfl | rfl | rfl | rfl <;> rfl
  have h63 : n + 1 ≤ maxLen := by unfold maxLen; omega
  obtain ⟨v', w', hr, h2, h3, h4⟩ := run_append_own (P := Tryd.prog) w base 23 o.type 26 iV _ 6 88 Tryd.underlying23 hiV hzV hsV hbV rfl (by decide) v n xs hown ⟨g1, 0, none⟩ 1 1 _ rfl hnews hone h63 hn hbase
  have hf := Vr.fresh (P := Tryd.prog) base 23 o.type 26 iV _ 6 88 Tryd.underlying23 hiV hzV hsV hbV (by decide) v n xs hown ⟨g1, 0, none⟩ 1 1 (by decide) _ rfl hnews hone h63 hn v' w' hr
  have hlen := hown.1
  have hkeep : ∀ {t : Vt} {u : Value}, t.Lies w (fun k => Q k ∧ k < w.heap.size ∧ v.ownBlock ≠ some k) u → t.Lies w' (fun k => Q k ∧ k < w'.heap.size ∧ v'.ownBlock ≠ some k) u := fun hl => hl.on fun k hk => ⟨⟨hk.1, Nat.lt_of_lt_of_le hk.2.1 h3.size, fun e => by
    rcases hf with hf | hf
    · exact hk.2.2 (hf ▸ e)
    · rw [hf] at e
      have := Option.some.inj e
      omega⟩, h3.block k hk.2.1 (fun e => hk.2.2 e.symm)⟩
  unfold Oper.wp execOp
  simp only [ho, resolve, invoke, builtin, Sem.run_bind, Sem.run_pure, Result.andThen_ok, List.map_toArray, List.map_cons, List.map_nil, hs, hx, hr]
  refine h v' w' ⟨_, h2, fun i hin => ?_⟩ ⟨h3.os, h3.tape, h3.output, h3.size, fun k hk => h3.block k (by omega) (fun e => by have := (hown.lt k e.symm).1; omega)⟩
  by_cases e : i = n
  · subst e
    have at6 : ∀ r, (xs ++ [.int .i64 k1, .int .i64 x1, .int .u64 (b1 : Int), .string s1, .slice ai1 n1 c1, .slice ak1 m1 d1])[i * 6 + r]? = ([.int .i64 k1, .int .i64 x1, .int .u64 (b1 : Int), .string s1, .slice ai1 n1 c1, .slice ak1 m1 d1] : List Value)[r]? := by
      intro r
      rw [List.getElem?_append_right (by omega), hlen, Nat.add_sub_cancel_left]
    exact ⟨_, _, _, _, _, _, at6 0, at6 1, at6 2, at6 3, at6 4, at6 5, hkeep hl⟩
  · obtain ⟨u0, u1, u2, u3, u4, u5, y0, y1, y2, y3, y4, y5, hl'⟩ := hi i (by omega)
    refine ⟨u0, u1, u2, u3, u4, u5, ?_, ?_, ?_, ?_, ?_, ?_, hkeep hl'⟩
    all_goals rw [List.getElem?_append_left (by omega)]
    all_goals assumption
/-- at a list of operations -/
theorem Vr.push {w : World} {ops : Array Oper} {rest : List Oper} {o : Oper} {a : Act} {Z : Exit → Act → World → Prop} (hgd : o.guard = none) (s x : Operand)
    (ho : o.op = .call { callee := .builtin .append, args := #[s, x], argTypes := #[23, 23] })
    {Q : Nat → Prop} {base : Nat} {it : Nat → Vt} {n : Nat} (v : Value) (hs : a.eval s = v) (hR : Vr.Row Q base it n w v) (g1 : Nat) (k1 x1 : Int) (b1 : Nat) (s1 : ByteArray) (ai1 : Option Addr) (n1 c1 : Nat) (ak1 : Option Addr) (m1 d1 : Nat)
    (hx : a.eval x = .slice (some ⟨g1, 0, none⟩) 1 1) (hg1 : Vm.Has w g1 (.cells #[.int .i64 k1, .int .i64 x1, .int .u64 (b1 : Int), .string s1, .slice ai1 n1 c1, .slice ak1 m1 d1] 26))
    (hl : (it n).Lies w (fun k => Q k ∧ k < w.heap.size ∧ v.ownBlock ≠ some k) (.agg #[.int .i64 k1, .int .i64 x1, .int .u64 (b1 : Int), .string s1, .slice ai1 n1 c1, .slice ak1 m1 d1]))
    (hn : (n + 1) * 88 ≤ 140737488355328) (hbase : base ≤ w.heap.size)
    (h : ∀ v' w', Vr.Row Q base it (n + 1) w' v' → Below base w w' → wpList Tryd.prog ops Z rest (a.put o.dst v') w') : wpList Tryd.prog ops Z (o :: rest) a w :=
  wpList_plain hgd fun _ hK => Vr.wp_push s x ho v hs hR g1 k1 x1 b1 s1 ai1 n1 c1 ak1 m1 d1 hx hg1 hl hn hbase fun v' w' h2 h3 => hK _ _ (h v' w' h2 h3)
/-- at a step of a region that draws -/
theorem Vr.step_push {w : World} {ops : Array Oper} {o : Oper} {a : Act} {K : Act → World → Prop} {E : Prop} {Z : Exit → Act → World → Prop} (hgd : o.guard = none) (s x : Operand)
    (ho : o.op = .call { callee := .builtin .append, args := #[s, x], argTypes := #[23, 23] })
    {Q : Nat → Prop} {base : Nat} {it : Nat → Vt} {n : Nat} (v : Value) (hs : a.eval s = v) (hR : Vr.Row Q base it n w v) (g1 : Nat) (k1 x1 : Int) (b1 : Nat) (s1 : ByteArray) (ai1 : Option Addr) (n1 c1 : Nat) (ak1 : Option Addr) (m1 d1 : Nat)
    (hx : a.eval x = .slice (some ⟨g1, 0, none⟩) 1 1) (hg1 : Vm.Has w g1 (.cells #[.int .i64 k1, .int .i64 x1, .int .u64 (b1 : Int), .string s1, .slice ai1 n1 c1, .slice ak1 m1 d1] 26))
    (hl : (it n).Lies w (fun k => Q k ∧ k < w.heap.size ∧ v.ownBlock ≠ some k) (.agg #[.int .i64 k1, .int .i64 x1, .int .u64 (b1 : Int), .string s1, .slice ai1 n1 c1, .slice ak1 m1 d1]))
    (hn : (n + 1) * 88 ≤ 140737488355328) (hbase : base ≤ w.heap.size)
    (h : ∀ v' w', Vr.Row Q base it (n + 1) w' v' → Below base w w' → K (a.put o.dst v') w') : if Region.wanted o (yielded ops a.tmps) = true then Oper.wp Tryd.prog o a w K Z else E := by
  have hw : Region.wanted o (yielded ops a.tmps) = true := by simp [Region.wanted, hgd]
  rw [if_pos hw]
  exact Vr.wp_push s x ho v hs hR g1 k1 x1 b1 s1 ai1 n1 c1 ak1 m1 d1 hx hg1 hl hn hbase h
end Go.Proofs.YtggfemdnoccmeaaDoor

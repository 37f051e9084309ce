/-
  A ROW OF VALUES THAT GROWS: 'append(row, value)', time and again.
-/
import Derived.Test.YtiajclmhimkpnaaDoorBEPlaintoVKit
import Derived.Deep.RegionLaw
import Derived.Test.YtiajclmhimkpnaaDoorBJRitoJRg
namespace Go.Proofs.YtiajclmhimkpnaaDoor
open Go.RowKit

/-- where the row lies behind an 'append': where it lay, or in a new block -/
theorem Vr.fresh {P : Program} {w : World} (base : Nat) (t ty e : TypeId) (i : TypeInfo) (z : Value) (size bytes : Nat) (ht : P.underlying t = some (.slice e)) (hi : P.info? e = some i) (hz : i.zero = some z)
    (hsize : i.size = size) (hby : i.bytes = bytes) (hsz : 0 < size)
    (v : Value) (n : Nat) (xs : List Value) (hown : w.ownsRow base e size v n xs)
    (a : Addr) (m c : Nat) (hm : 0 < m) (news : List Value) (hl : news.length = m * size) (hnews : ∀ j u, news[j]? = some u → w.cell? (a.add j) = some u) (h1 : ∀ u ∈ news, u.oneCell' = true)
    (h63 : n + m ≤ maxLen) (hbytes : (n + m) * bytes ≤ 140737488355328) (v' : Value) (w' : World) (hrun : (Builtin.append_ #[t, t] ty #[v, .slice (some a) m c]).run P w = .ok v' w') :
    v'.ownBlock = v.ownBlock ∨ v'.ownBlock = some w.heap.size := by
  subst hsize
  subst hby
  have hsmall : n + m ≤ 9223372036854775807 := by simp only [maxLen] at h63; omega
  rcases hown.2 with ⟨rfl, rfl⟩ | ⟨g, cap, cur, rfl, hbg, hg, hnc, hcm, hcs, htake⟩
  · have hr := run_append_nil (P := P) w t ty e i z ht hi hz a m c news hl hnews (by omega) (by omega) (by have hb := hbytes; simp only [Nat.zero_add] at hb; omega)
    rw [hr] at hrun
    injection hrun with e1 e2
    subst e1
    exact .inr rfl
  · by_cases hroom : n + m ≤ cap
    · have hfit : n * i.size + news.length ≤ cur.size := by rw [hl, hcs, ← Nat.add_mul]; exact Nat.mul_le_mul_right _ hroom
      have hr := run_append_room (P := P) w t ty e i ht hi g n cap cur hg a m c news hl hnews h1 hroom hfit
      rw [hr] at hrun
      injection hrun with e1 e2
      subst e1
      exact .inl rfl
    · have holds : ∀ j u, xs[j]? = some u → w.cell? ((⟨g, 0, none⟩ : Addr).add j) = some u := hown.cells (g := g) rfl
      have hr := run_append_grow (P := P) w t ty e i z ht hi hz ⟨g, 0, none⟩ n cap xs hown.1 holds a m c news hl hnews (by omega) (by omega) (growslice_fits (by omega) hbytes)
      rw [hr] at hrun
      injection hrun with e1 e2
      subst e1
      exact .inr rfl

/-- A ROW OF n VALUES in a block of its own, from base on; the values' own parts lie in blocks of Q, none of them in the row's block -/
structure Vr.Row (Q : Nat → Prop) (base : Nat) (it : Nat → Vt) (n : Nat) (w : World) (v : Value) : Prop where
  all : ∃ xs, w.ownsRow base 29 6 v n xs ∧ ∀ i, i < n → ∃ u0 u1 u2 u3 u4 u5, xs[i * 6]? = some u0 ∧ xs[i * 6 + 1]? = some u1 ∧ xs[i * 6 + 2]? = some u2 ∧ xs[i * 6 + 3]? = some u3 ∧ xs[i * 6 + 4]? = some u4 ∧ xs[i * 6 + 5]? = some u5 ∧ (it i).Lies w (fun k => Q k ∧ k < w.heap.size ∧ v.ownBlock ≠ some k) (.agg #[u0, u1, u2, u3, u4, u5])
theorem Vr.Row.nil (Q : Nat → Prop) (base : Nat) (it : Nat → Vt) (w : World) : Vr.Row Q base it 0 w (.slice none 0 0) := ⟨[], World.ownsRow_nil _ _ _ _, fun i hi => absurd hi (by omega)⟩
/-- what has turned at most is one block that is none of the row's -/
theorem Vr.Row.on {Q : Nat → Prop} {base : Nat} {it : Nat → Vt} {n : Nat} {w w' : World} {v : Value} (h : Vr.Row Q base it n w v) {gB : Nat} (hs : w.heap.size ≤ w'.heap.size) (hw : ∀ k, k < w.heap.size → k ≠ gB → w'.heap[k]? = w.heap[k]?) (hB : gB < base) (hQ : ¬ Q gB) : Vr.Row Q base it n w' v := by
  obtain ⟨xs, ho, hi⟩ := h.all
  refine ⟨xs, ⟨ho.1, ?_⟩, fun i hin => ?_⟩
  · rcases ho.2 with hn | ⟨g, cap, cur, rfl, hb, hgg, rest⟩
    · exact .inl hn
    · refine .inr ⟨g, cap, cur, rfl, hb, ?_, rest⟩
      rw [hw g (Array.getElem?_eq_some_iff.1 hgg).1 (by omega)]
      exact hgg
  · obtain ⟨u0, u1, u2, u3, u4, u5, x0, x1, x2, x3, x4, x5, hl⟩ := hi i hin
    exact ⟨u0, u1, u2, u3, u4, u5, x0, x1, x2, x3, x4, x5, hl.on fun k hk => ⟨⟨hk.1, Nat.lt_of_lt_of_le hk.2.1 hs, hk.2.2⟩, hw k hk.2.1 (fun e => hQ (e ▸ hk.1))⟩⟩
theorem Vr.Row.form {Q : Nat → Prop} {base : Nat} {it : Nat → Vt} {n : Nat} {w : World} {v : Value} (h : Vr.Row Q base it n w v) : ∃ a d, v = .slice a n d ∧ n ≤ d ∧ d ≤ maxLen := by
  obtain ⟨xs, ho, hi⟩ := h.all
  obtain ⟨a, d, e, h1, h2, _⟩ := Vc.row_form ho
  exact ⟨a, d, e, h1, h2⟩
/-- a tree over the row -/
theorem Vr.Row.lies {Q : Nat → Prop} {base : Nat} {it : Nat → Vt} {n : Nat} {w : World} {a : Option Addr} {d : Nat} (h : Vr.Row Q base it n w (.slice a n d)) {R : Nat → Prop} (hQ : ∀ k, Q k → k < w.heap.size → R k) (hB : ∀ k, base ≤ k → k < w.heap.size → R k) (k x : Int) (b : Nat) (s : ByteArray) (hb : b < 18446744073709551616) (m : Nat) (ks : Nat → ByteArray) (ak : Option Addr) (dk : Nat) (hk : Vt.Keys w R m ks ak dk) :
    (Vt.mk k x b s n it m ks).Lies w R (.agg #[.int .i64 k, .int .i64 x, .int .u64 (b : Int), .string s, .slice a n d, .slice ak m dk]) := by
  obtain ⟨xs, ho, hi⟩ := h.all
  obtain ⟨a', d', e, h1, h2, _, hrow⟩ := Vc.row_form ho
  injection e with e1 e2 e3
  subst e1
  subst e3
  refine ⟨a, d, ak, dk, rfl, hb, h1, h2, hk, fun i hin => ?_⟩
  obtain ⟨g, cur, e, g1, g2, hg, hsz, hj⟩ := hrow (by omega)
  obtain ⟨u0, u1, u2, u3, u4, u5, x0, x1, x2, x3, x4, x5, hl⟩ := hi i hin
  refine ⟨g, 0, u0, u1, u2, u3, u4, u5, e, hB g g1 g2, ?_, ?_, ?_, ?_, ?_, ?_, hl.on fun k hk => ⟨hQ k hk.1 hk.2.1, rfl⟩⟩
  all_goals rw [Nat.zero_add]
  · exact Vm.boxCell hg _ (hj _ _ x0)
  · exact Vm.boxCell hg _ (hj _ _ x1)
  · exact Vm.boxCell hg _ (hj _ _ x2)
  · exact Vm.boxCell hg _ (hj _ _ x3)
  · exact Vm.boxCell hg _ (hj _ _ x4)
  · exact Vm.boxCell hg _ (hj _ _ x5)
/-- since W nothing has turned but block gB -/
structure Vr.Lo (W wr : World) (gB : Nat) : Prop where
  os : wr.os = W.os
  tape : wr.tape = W.tape
  output : wr.output = W.output
  size : W.heap.size ≤ wr.heap.size
  block : ∀ k, k < W.heap.size → k ≠ gB → wr.heap[k]? = W.heap[k]?
theorem Vr.Lo.refl (W : World) (gB : Nat) : Vr.Lo W W gB := ⟨rfl, rfl, rfl, Nat.le_refl _, fun _ _ _ => rfl⟩
theorem Vr.Lo.on {W wr w' : World} {gB : Nat} (h : Vr.Lo W wr gB) (hb : Below wr.heap.size wr w') : Vr.Lo W w' gB :=
  ⟨hb.os.trans h.os, hb.tape.trans h.tape, hb.output.trans h.output, Nat.le_trans h.size hb.size, fun k hk hne => (hb.block k (Nat.lt_of_lt_of_le hk h.size)).trans (h.block k hk hne)⟩
theorem Vr.Lo.low {W wr w' : World} {gB : Nat} (h : Vr.Lo W wr gB) (hb : Below W.heap.size wr w') : Vr.Lo W w' gB :=
  ⟨hb.os.trans h.os, hb.tape.trans h.tape, hb.output.trans h.output, Nat.le_trans h.size hb.size, fun k hk hne => (hb.block k hk).trans (h.block k hk hne)⟩
theorem Vr.Row.ne {Q : Nat → Prop} {base : Nat} {it : Nat → Vt} {n : Nat} {w : World} {v : Value} (h : Vr.Row Q base it n w v) {k : Nat} (hk : k < base) : v.ownBlock ≠ some k := by
  obtain ⟨xs, ho, _⟩ := h.all
  intro e
  have := (ho.lt k e).1
  omega
theorem Vr.Lo.alloc {W wr : World} {gB : Nat} (h : Vr.Lo W wr gB) (o : Obj) : Vr.Lo W (wr.alloc o) gB := h.on ((Below.refl _ _).alloc (Nat.le_refl _) o)
theorem Vr.Lo.set {W wr : World} {gB : Nat} (h : Vr.Lo W wr gB) (i : Nat) (v : Value) : Vr.Lo W (wr.setCell ⟨gB, i, none⟩ v) gB :=
  ⟨h.os, h.tape, h.output, by simp; exact h.size, fun k hk hne => (Below.heap_setCell _ _ _ _ hne).trans (h.block k hk hne)⟩
theorem Vr.Lo.below {w W wr : World} {gB : Nat} (h : Vr.Lo W wr gB) (hW : Below w.heap.size w W) (hg : w.heap.size ≤ gB) : Below w.heap.size w wr :=
  ⟨h.os.trans hW.os, h.tape.trans hW.tape, h.output.trans hW.output, Nat.le_trans hW.size h.size, fun g hg' => (h.block g (Nat.lt_of_lt_of_le hg' hW.size) (by omega)).trans (hW.block g hg')⟩
theorem Vr.Row.alloc {Q : Nat → Prop} {base : Nat} {it : Nat → Vt} {n : Nat} {w : World} {v : Value} (h : Vr.Row Q base it n w v) {gB : Nat} (hB : gB < base) (hQ : ¬ Q gB) (o : Obj) : Vr.Row Q base it n (w.alloc o) v :=
  h.on (gB := gB) (by simp) (fun k hk _ => Below.heap_alloc _ _ _ hk) hB hQ
theorem Vr.Row.then {Q : Nat → Prop} {base : Nat} {it : Nat → Vt} {n : Nat} {w w' : World} {v : Value} (h : Vr.Row Q base it n w v) {gB : Nat} (hB : gB < base) (hQ : ¬ Q gB) (hb : Below w.heap.size w w') : Vr.Row Q base it n w' v :=
  h.on (gB := gB) hb.size (fun k hk _ => hb.block k hk) hB hQ
theorem Vr.Row.set {Q : Nat → Prop} {base : Nat} {it : Nat → Vt} {n : Nat} {w : World} {v : Value} (h : Vr.Row Q base it n w v) {gB : Nat} (hB : gB < base) (hQ : ¬ Q gB) (i : Nat) (u : Value) : Vr.Row Q base it n (w.setCell ⟨gB, i, none⟩ u) v :=
  h.on (gB := gB) (by simp) (fun k hk hne => Below.heap_setCell _ _ _ _ hne) hB hQ
/-- 'append(row, value)' -/
theorem Vr.wp_push {w : World} {o : Oper} {a : Act} {K : Act → World → Prop} {Z : Exit → Act → World → Prop} (s x : Operand)
    (ho : o.op = .call { callee := .builtin .append, args := #[s, x], argTypes := #[26, 26] })
    {Q : Nat → Prop} {base : Nat} {it : Nat → Vt} {n : Nat} (v : Value) (hs : a.eval s = v) (hR : Vr.Row Q base it n w v) (g1 : Nat) (k1 x1 : Int) (b1 : Nat) (s1 : ByteArray) (ai1 : Option Addr) (n1 c1 : Nat) (ak1 : Option Addr) (m1 d1 : Nat)
    (hx : a.eval x = .slice (some ⟨g1, 0, none⟩) 1 1) (hg1 : Vm.Has w g1 (.cells #[.int .i64 k1, .int .i64 x1, .int .u64 (b1 : Int), .string s1, .slice ai1 n1 c1, .slice ak1 m1 d1] 29))
    (hl : (it n).Lies w (fun k => Q k ∧ k < w.heap.size ∧ v.ownBlock ≠ some k) (.agg #[.int .i64 k1, .int .i64 x1, .int .u64 (b1 : Int), .string s1, .slice ai1 n1 c1, .slice ak1 m1 d1]))
    (hn : (n + 1) * 88 ≤ 140737488355328) (hbase : base ≤ w.heap.size)
    (h : ∀ v' w', Vr.Row Q base it (n + 1) w' v' → Below base w w' → K (a.put o.dst v') w') : o.wp Tryd.prog a w K Z := by
  obtain ⟨iV, hiV, hzV, hsV, hbV⟩ := info_parts Vc.infoV
  obtain ⟨xs, hown, hi⟩ := hR.all
  have hnews : ∀ j u, ([.int .i64 k1, .int .i64 x1, .int .u64 (b1 : Int), .string s1, .slice ai1 n1 c1, .slice ak1 m1 d1] : List Value)[j]? = some u → w.cell? ((⟨g1, 0, none⟩ : Addr).add j) = some u := by
    intro j u hj
    rw [Vc.add, Nat.zero_add]
    refine hg1.cell j ?_
    rw [← hj]
    simp
  have hone : ∀ u ∈ ([.int .i64 k1, .int .i64 x1, .int .u64 (b1 : Int), .string s1, .slice ai1 n1 c1, .slice ak1 m1 d1] : List Value), u.oneCell' = true := by
    intro u hu
    simp only [List.mem_cons, List.not_mem_nil, or_false] at hu
    rcases hu with rfl | rfl | rfl | rfl | rfl | rfl <;> rfl
  have h63 : n + 1 ≤ maxLen := by unfold maxLen; omega
  obtain ⟨v', w', hr, h2, h3, h4⟩ := run_append_own (P := Tryd.prog) w base 26 o.type 29 iV _ 6 88 Tryd.underlying26 hiV hzV hsV hbV rfl (by decide) v n xs hown ⟨g1, 0, none⟩ 1 1 _ rfl hnews hone h63 hn hbase
  have hf := Vr.fresh (P := Tryd.prog) base 26 o.type 29 iV _ 6 88 Tryd.underlying26 hiV hzV hsV hbV (by decide) v n xs hown ⟨g1, 0, none⟩ 1 1 (by decide) _ rfl hnews hone h63 hn v' w' hr
  have hlen := hown.1
  have hkeep : ∀ {t : Vt} {u : Value}, t.Lies w (fun k => Q k ∧ k < w.heap.size ∧ v.ownBlock ≠ some k) u → t.Lies w' (fun k => Q k ∧ k < w'.heap.size ∧ v'.ownBlock ≠ some k) u := fun hl => hl.on fun k hk => ⟨⟨hk.1, Nat.lt_of_lt_of_le hk.2.1 h3.size, fun e => by
    rcases hf with hf | hf
    · exact hk.2.2 (hf ▸ e)
    · rw [hf] at e
      have := Option.some.inj e
      omega⟩, h3.block k hk.2.1 (fun e => hk.2.2 e.symm)⟩
  unfold Oper.wp execOp
  simp only [ho, resolve, invoke, builtin, Sem.run_bind, Sem.run_pure, Result.andThen_ok, List.map_toArray, List.map_cons, List.map_nil, hs, hx, hr]
  refine h v' w' ⟨_, h2, fun i hin => ?_⟩ ⟨h3.os, h3.tape, h3.output, h3.size, fun k hk => h3.block k (by omega) (fun e => by have := (hown.lt k e.symm).1; omega)⟩
  by_cases e : i = n
  · subst e
    have at6 : ∀ r, (xs ++ [.int .i64 k1, .int .i64 x1, .int .u64 (b1 : Int), .string s1, .slice ai1 n1 c1, .slice ak1 m1 d1])[i * 6 + r]? = ([.int .i64 k1, .int .i64 x1, .int .u64 (b1 : Int), .string s1, .slice ai1 n1 c1, .slice ak1 m1 d1] : List Value)[r]? := by
      intro r
      rw [List.getElem?_append_right (by omega), hlen, Nat.add_sub_cancel_left]
    exact ⟨_, _, _, _, _, _, at6 0, at6 1, at6 2, at6 3, at6 4, at6 5, hkeep hl⟩
  · obtain ⟨u0, u1, u2, u3, u4, u5, y0, y1, y2, y3, y4, y5, hl'⟩ := hi i (by omega)
    refine ⟨u0, u1, u2, u3, u4, u5, ?_, ?_, ?_, ?_, ?_, ?_, hkeep hl'⟩
    all_goals rw [List.getElem?_append_left (by omega)]
    all_goals assumption
/-- at a list of operations -/
theorem Vr.push {w : World} {ops : Array Oper} {rest : List Oper} {o : Oper} {a : Act} {Z : Exit → Act → World → Prop} (hgd : o.guard = none) (s x : Operand)
    (ho : o.op = .call { callee := .builtin .append, args := #[s, x], argTypes := #[26, 26] })
    {Q : Nat → Prop} {base : Nat} {it : Nat → Vt} {n : Nat} (v : Value) (hs : a.eval s = v) (hR : Vr.Row Q base it n w v) (g1 : Nat) (k1 x1 : Int) (b1 : Nat) (s1 : ByteArray) (ai1 : Option Addr) (n1 c1 : Nat) (ak1 : Option Addr) (m1 d1 : Nat)
    (hx : a.eval x = .slice (some ⟨g1, 0, none⟩) 1 1) (hg1 : Vm.Has w g1 (.cells #[.int .i64 k1, .int .i64 x1, .int .u64 (b1 : Int), .string s1, .slice ai1 n1 c1, .slice ak1 m1 d1] 29))
    (hl : (it n).Lies w (fun k => Q k ∧ k < w.heap.size ∧ v.ownBlock ≠ some k) (.agg #[.int .i64 k1, .int .i64 x1, .int .u64 (b1 : Int), .string s1, .slice ai1 n1 c1, .slice ak1 m1 d1]))
    (hn : (n + 1) * 88 ≤ 140737488355328) (hbase : base ≤ w.heap.size)
    (h : ∀ v' w', Vr.Row Q base it (n + 1) w' v' → Below base w w' → wpList Tryd.prog ops Z rest (a.put o.dst v') w') : wpList Tryd.prog ops Z (o :: rest) a w :=
  wpList_plain hgd fun _ hK => Vr.wp_push s x ho v hs hR g1 k1 x1 b1 s1 ai1 n1 c1 ak1 m1 d1 hx hg1 hl hn hbase fun v' w' h2 h3 => hK _ _ (h v' w' h2 h3)
/-- at a step of a region that draws -/
theorem Vr.step_push {w : World} {ops : Array Oper} {o : Oper} {a : Act} {K : Act → World → Prop} {E : Prop} {Z : Exit → Act → World → Prop} (hgd : o.guard = none) (s x : Operand)
    (ho : o.op = .call { callee := .builtin .append, args := #[s, x], argTypes := #[26, 26] })
    {Q : Nat → Prop} {base : Nat} {it : Nat → Vt} {n : Nat} (v : Value) (hs : a.eval s = v) (hR : Vr.Row Q base it n w v) (g1 : Nat) (k1 x1 : Int) (b1 : Nat) (s1 : ByteArray) (ai1 : Option Addr) (n1 c1 : Nat) (ak1 : Option Addr) (m1 d1 : Nat)
    (hx : a.eval x = .slice (some ⟨g1, 0, none⟩) 1 1) (hg1 : Vm.Has w g1 (.cells #[.int .i64 k1, .int .i64 x1, .int .u64 (b1 : Int), .string s1, .slice ai1 n1 c1, .slice ak1 m1 d1] 29))
    (hl : (it n).Lies w (fun k => Q k ∧ k < w.heap.size ∧ v.ownBlock ≠ some k) (.agg #[.int .i64 k1, .int .i64 x1, .int .u64 (b1 : Int), .string s1, .slice ai1 n1 c1, .slice ak1 m1 d1]))
    (hn : (n + 1) * 88 ≤ 140737488355328) (hbase : base ≤ w.heap.size)
    (h : ∀ v' w', Vr.Row Q base it (n + 1) w' v' → Below base w w' → K (a.put o.dst v') w') : if Region.wanted o (yielded ops a.tmps) = true then Oper.wp Tryd.prog o a w K Z else E := by
  have hw : Region.wanted o (yielded ops a.tmps) = true := by simp [Region.wanted, hgd]
  rw [if_pos hw]
  exact Vr.wp_push s x ho v hs hR g1 k1 x1 b1 s1 ai1 n1 c1 ak1 m1 d1 hx hg1 hl hn hbase h
end Go.Proofs.YtiajclmhimkpnaaDoor
/-
  THE LANDED READER's list or record under way, in memory.
-/
namespace Go.Proofs.YtiajclmhimkpnaaDoor
open Go.RowKit
/-- 'append(row, x)' of one element, whatever the type: the row in a block of its own; where it lies behind it -/
theorem Jr.wp_app {w : World} {o : Oper} {a : Act} {K : Act → World → Prop} {Z : Exit → Act → World → Prop} (t e : TypeId) (z : Value) (size bytes : Nat) (ht : Tryd.prog.underlying t = some (.slice e)) (hinfo : (Tryd.prog.info? e).map (fun i => (i.zero, i.size, i.bytes)) = some (some z, size, bytes)) (hsz : 0 < size) (hz : z.cells.size = size) (s x : Operand)
    (ho : o.op = .call { callee := .builtin .append, args := #[s, x], argTypes := #[t, t] })
    {base n : Nat} {xs : List Value} (v : Value) (hs : a.eval s = v) (hown : w.ownsRow base e size v n xs) (g1 : Nat) (news : List Value) (hx : a.eval x = .slice (some ⟨g1, 0, none⟩) 1 1) (hl : news.length = size)
    (hnews : ∀ j u, news[j]? = some u → w.cell? ((⟨g1, 0, none⟩ : Addr).add j) = some u) (hone : ∀ u ∈ news, u.oneCell' = true) (hn : (n + 1) * bytes ≤ 140737488355328) (h63 : n + 1 ≤ maxLen) (hbase : base ≤ w.heap.size)
    (h : ∀ v' w', w'.ownsRow base e size v' (n + 1) (xs ++ news) → w.grownBy w' v.ownBlock → (v'.ownBlock = v.ownBlock ∨ v'.ownBlock = some w.heap.size) → K (a.put o.dst v') w') : o.wp Tryd.prog a w K Z := by
  obtain ⟨iV, hiV, hzV, hsV, hbV⟩ := info_parts hinfo
  obtain ⟨v', w', hr, h2, h3, h4⟩ := run_append_own (P := Tryd.prog) w base t o.type e iV z size bytes ht hiV hzV hsV hbV hz hsz v n xs hown ⟨g1, 0, none⟩ 1 1 news (by rw [Nat.one_mul]; exact hl) hnews hone h63 hn hbase
  have hf := Vr.fresh (P := Tryd.prog) base t o.type e iV z size bytes ht hiV hzV hsV hbV hsz v n xs hown ⟨g1, 0, none⟩ 1 1 (by decide) news (by rw [Nat.one_mul]; exact hl) hnews hone h63 hn v' w' hr
  unfold Oper.wp execOp
  simp only [ho, resolve, invoke, builtin, Sem.run_bind, Sem.run_pure, Result.andThen_ok, List.map_toArray, List.map_cons, List.map_nil, hs, hx, hr]
  exact h v' w' h2 h3 hf
/-- blocks that are none of the two rows' -/
def Jr.Free (base : Nat) (vi vk : Value) (u : World) (k : Nat) : Prop := base ≤ k ∧ k < u.heap.size ∧ vi.ownBlock ≠ some k ∧ vk.ownBlock ≠ some k
/-- a list or record that has been read so far: the reader's and the depth's box, the result's variable, the value's variable and its two rows -/
structure Jr.Mem (w : World) (g e : Nat) (kd : Int) (s : Jr.St) (vi vk : Value) (u : World) : Prop where
  grown : w.grownBy u (some g)
  glt : g < w.heap.size
  size : w.heap.size + 4 ≤ u.heap.size
  rp : Bs.Box u w.heap.size #[.pointer (some ⟨g, 0, none⟩)] 69
  dp : Bs.Box u (w.heap.size + 1) #[.int .i64 (e : Int)] 3
  res : Vm.Box u (w.heap.size + 1 + 1) (.int .i64 0) (.int .i64 0) (.int .u64 0) (.string ⟨#[]⟩) (.slice none 0 0) (.slice none 0 0)
  var : Vm.Box u (w.heap.size + 1 + 1 + 1) (.int .i64 kd) (.int .i64 0) (.int .u64 0) (.string ⟨#[]⟩) vi vk
  items : ∃ xs, u.ownsRow (w.heap.size + 4) 29 6 vi s.2.length xs ∧ ∀ i, i < s.2.length → ∃ u0 u1 u2 u3 u4 u5, xs[i * 6]? = some u0 ∧ xs[i * 6 + 1]? = some u1 ∧ xs[i * 6 + 2]? = some u2 ∧ xs[i * 6 + 3]? = some u3 ∧ xs[i * 6 + 4]? = some u4 ∧ xs[i * 6 + 5]? = some u5 ∧ (s.2.getD i .nil).Lies u (Jr.Free (w.heap.size + 4) vi vk u) (.agg #[u0, u1, u2, u3, u4, u5])
  keys : u.ownsRow (w.heap.size + 4) 9 1 vk s.1.length (s.1.map .string)
theorem Jr.own_kept {u u' : World} {base : Nat} {ty : TypeId} {sz : Nat} {v : Value} {n : Nat} {xs : List Value} (h : u.ownsRow base ty sz v n xs) (hb : ∀ k, v.ownBlock = some k → u'.heap[k]? = u.heap[k]?) : u'.ownsRow base ty sz v n xs := by
  refine ⟨h.1, ?_⟩
  rcases h.2 with hn | ⟨g, cap, cur, rfl, hbb, hgg, rest⟩
  · exact .inl hn
  · exact .inr ⟨g, cap, cur, rfl, hbb, (hb g rfl).trans hgg, rest⟩
/-- what turns none of its blocks -/
theorem Jr.Mem.still {w : World} {g e : Nat} {kd : Int} {s : Jr.St} {vi vk : Value} {u u' : World} (h : Jr.Mem w g e kd s vi vk u) (hb : u.grownBy u' (some g)) : Jr.Mem w g e kd s vi vk u' := by
  have hg := h.glt
  have blk : ∀ k, w.heap.size ≤ k → k < u.heap.size → u'.heap[k]? = u.heap[k]? := fun k h1 h2 => hb.block k h2 (fun q => by injection q with q; omega)
  have hsz := h.size
  refine ⟨Jr.grown_trans h.grown hb, hg, Nat.le_trans hsz hb.size, (blk _ (by omega) (by omega)).trans h.rp, (blk _ (by omega) (by omega)).trans h.dp, ⟨(blk _ (by omega) (by omega)).trans h.res.all⟩, ⟨(blk _ (by omega) (by omega)).trans h.var.all⟩, ?_, Jr.own_kept h.keys fun k hk => blk k (by have := (h.keys.lt k hk).1; omega) (h.keys.lt k hk).2⟩
  obtain ⟨xs, ho, hi⟩ := h.items
  refine ⟨xs, Jr.own_kept ho fun k hk => blk k (by have := (ho.lt k hk).1; omega) (ho.lt k hk).2, fun i hin => ?_⟩
  obtain ⟨u0, u1, u2, u3, u4, u5, x0, x1, x2, x3, x4, x5, hl⟩ := hi i hin
  exact ⟨u0, u1, u2, u3, u4, u5, x0, x1, x2, x3, x4, x5, hl.on fun k hk => ⟨⟨hk.1, Nat.lt_of_lt_of_le hk.2.1 hb.size, hk.2.2⟩, blk k (by have := hk.1; omega) hk.2.1⟩⟩
/-- the two rows lie in two blocks -/
theorem Jr.Mem.apart {w : World} {g e : Nat} {kd : Int} {s : Jr.St} {vi vk : Value} {u : World} (h : Jr.Mem w g e kd s vi vk u) : ∀ k, vi.ownBlock = some k → vk.ownBlock ≠ some k := by
  intro k hk hk2
  obtain ⟨xs, ho, -⟩ := h.items
  rcases ho.2 with ⟨rfl, _⟩ | ⟨g1, cap, cur, rfl, hb1, hg1, _⟩
  · cases hk
  · rcases h.keys.2 with ⟨e, _⟩ | ⟨g2, cap2, cur2, e, hb2, hg2, _⟩
    · rw [e] at hk2; cases hk2
    · rw [e] at hk2
      simp only [Value.ownBlock, Option.some.injEq] at hk hk2
      subst hk hk2
      rw [hg1] at hg2
      injection hg2 with hg2
      injection hg2 with _ q _
      exact absurd q (by decide)
/-- one item more -/
theorem Jr.Mem.item {w : World} {g e : Nat} {kd : Int} {s : Jr.St} {vi vk vi' : Value} {u u' W : World} {xs : List Value} {G cap : Nat} (h : Jr.Mem w g e kd s vi vk u) (t : Vt) (v0 v1 v2 v3 v4 v5 : Value) (ht : t.Lies u (Jr.Free (w.heap.size + 4) vi vk u) (.agg #[v0, v1, v2, v3, v4, v5]))
    (hxs : u.ownsRow (w.heap.size + 4) 29 6 vi s.2.length xs) (hi : ∀ i, i < s.2.length → ∃ u0 u1 u2 u3 u4 u5, xs[i * 6]? = some u0 ∧ xs[i * 6 + 1]? = some u1 ∧ xs[i * 6 + 2]? = some u2 ∧ xs[i * 6 + 3]? = some u3 ∧ xs[i * 6 + 4]? = some u4 ∧ xs[i * 6 + 5]? = some u5 ∧ (s.2.getD i .nil).Lies u (Jr.Free (w.heap.size + 4) vi vk u) (.agg #[u0, u1, u2, u3, u4, u5]))
    (hv : vi' = .slice (some ⟨G, 0, none⟩) (s.2.length + 1) cap) (hgr : u.grownBy u' vi.ownBlock) (hf : vi'.ownBlock = vi.ownBlock ∨ vi'.ownBlock = some u.heap.size)
    (hW : W.ownsRow (w.heap.size + 4) 29 6 vi' (s.2.length + 1) (xs ++ [v0, v1, v2, v3, v4, v5])) (hbx : Vm.Box W (w.heap.size + 1 + 1 + 1) (.int .i64 kd) (.int .i64 0) (.int .u64 0) (.string ⟨#[]⟩) vi' vk)
    (hos : W.os = u'.os) (htp : W.tape = u'.tape) (hout : W.output = u'.output) (hsz : u'.heap.size ≤ W.heap.size) (hoth : ∀ k, k < u'.heap.size → k ≠ G → k ≠ w.heap.size + 1 + 1 + 1 → W.heap[k]? = u'.heap[k]?) :
    Jr.Mem w g e kd (s.1, s.2 ++ [t]) vi' vk W := by
  have hg := h.glt
  have hs4 := h.size
  have hG : w.heap.size + 4 ≤ G := (hW.lt G (by rw [hv]; rfl)).1
  have hGo : vi'.ownBlock = some G := by rw [hv]; rfl
  have hus := hgr.size
  have hlt : ∀ k, vi.ownBlock = some k → w.heap.size + 4 ≤ k := fun k hk => (hxs.lt k hk).1
  have low : ∀ k, k < u.heap.size → (k < w.heap.size + 1 + 1 + 1) → W.heap[k]? = u.heap[k]? := fun k h1 h2 => by
    rw [hoth k (by omega) (by omega) (by omega)]
    exact hgr.block k h1 (fun q => by have := hlt k q.symm; omega)
  have high : ∀ k, w.heap.size + 4 ≤ k → k < u.heap.size → vi.ownBlock ≠ some k → W.heap[k]? = u.heap[k]? := fun k h1 h2 h3 => by
    have hkG : k ≠ G := by
      rintro rfl
      rcases hf with q | q
      · exact h3 (q ▸ hGo)
      · rw [hGo] at q; injection q with q; omega
    rw [hoth k (by omega) hkG (by omega)]
    exact hgr.block k h2 (fun q => h3 q.symm)
  have free : ∀ k, Jr.Free (w.heap.size + 4) vi vk u k → Jr.Free (w.heap.size + 4) vi' vk W k ∧ W.heap[k]? = u.heap[k]? := fun k ⟨k1, k2, k3, k4⟩ => by
    refine ⟨⟨k1, by omega, fun q => ?_, k4⟩, high k k1 k2 k3⟩
    rcases hf with r | r
    · exact k3 (r ▸ q)
    · rw [r] at q; injection q with q; omega
  refine ⟨⟨?_, ?_, ?_, by have := h.grown.size; omega, fun k hk hne => ?_⟩, hg, by omega, (low _ (by omega) (by omega)).trans h.rp, (low _ (by omega) (by omega)).trans h.dp, ⟨(low _ (by omega) (by omega)).trans h.res.all⟩, hbx, ?_, Jr.own_kept h.keys fun k hk => high k (h.keys.lt k hk).1 (h.keys.lt k hk).2 (fun q => h.apart k q hk)⟩
  · rw [hos, hgr.os, h.grown.os]
  · rw [htp, hgr.tape, h.grown.tape]
  · rw [hout, hgr.output, h.grown.output]
  · rw [low k (by omega) (by omega)]
    exact h.grown.block k hk hne
  · refine ⟨xs ++ [v0, v1, v2, v3, v4, v5], by rw [List.length_append]; exact hW, fun i hin => ?_⟩
    have hlen := hxs.1
    simp only [List.length_append, List.length_cons, List.length_nil] at hin
    by_cases e : i = s.2.length
    · subst e
      have at6 : ∀ r, (xs ++ [v0, v1, v2, v3, v4, v5])[s.2.length * 6 + r]? = ([v0, v1, v2, v3, v4, v5] : List Value)[r]? := fun r => by
        rw [List.getElem?_append_right (by omega), hlen, Nat.add_sub_cancel_left]
      refine ⟨v0, v1, v2, v3, v4, v5, at6 0, at6 1, at6 2, at6 3, at6 4, at6 5, ?_⟩
      have e2 : (s.2 ++ [t]).getD s.2.length .nil = t := by simp [List.getD_eq_getElem?_getD]
      rw [e2]
      exact ht.on free
    · obtain ⟨u0, u1, u2, u3, u4, u5, y0, y1, y2, y3, y4, y5, hl⟩ := hi i (by omega)
      refine ⟨u0, u1, u2, u3, u4, u5, ?_, ?_, ?_, ?_, ?_, ?_, ?_⟩
      rotate_left 6
      · have e2 : (s.2 ++ [t]).getD i .nil = s.2.getD i .nil := by
          rw [List.getD_eq_getElem?_getD, List.getD_eq_getElem?_getD, List.getElem?_append_left (by omega)]
        rw [e2]
        exact hl.on free
      all_goals rw [List.getElem?_append_left (by omega)]
      all_goals assumption
/-- one key more -/
theorem Jr.Mem.key {w : World} {g e : Nat} {kd : Int} {s : Jr.St} {vi vk vk' : Value} {u u' : World} (h : Jr.Mem w g e kd s vi vk u) (b : ByteArray) (ho : u'.ownsRow (w.heap.size + 4) 9 1 vk' (s.1.length + 1) (s.1.map .string ++ [.string b])) (hgr : u.grownBy u' vk.ownBlock) (hf : vk'.ownBlock = vk.ownBlock ∨ vk'.ownBlock = some u.heap.size) :
    Jr.Mem w g e kd (s.1 ++ [b], s.2) vi vk' (u'.setCell ⟨w.heap.size + 1 + 1 + 1, 5, none⟩ vk') := by
  have hg := h.glt
  have hs4 := h.size
  have hus := hgr.size
  have hlt : ∀ k, vk.ownBlock = some k → w.heap.size + 4 ≤ k := fun k hk => (h.keys.lt k hk).1
  have oth : ∀ k, k < u.heap.size → k ≠ w.heap.size + 1 + 1 + 1 → vk.ownBlock ≠ some k → (u'.setCell ⟨w.heap.size + 1 + 1 + 1, 5, none⟩ vk').heap[k]? = u.heap[k]? := fun k h1 h2 h3 => by
    rw [Below.heap_setCell _ _ _ _ h2]
    exact hgr.block k h1 (fun q => h3 q.symm)
  have low : ∀ k, k < u.heap.size → (k < w.heap.size + 1 + 1 + 1) → (u'.setCell ⟨w.heap.size + 1 + 1 + 1, 5, none⟩ vk').heap[k]? = u.heap[k]? := fun k h1 h2 => oth k h1 (by omega) (fun q => by have := hlt k q; omega)
  have hsz : (u'.setCell ⟨w.heap.size + 1 + 1 + 1, 5, none⟩ vk').heap.size = u'.heap.size := by simp [World.setCell]
  have free : ∀ k, Jr.Free (w.heap.size + 4) vi vk u k → Jr.Free (w.heap.size + 4) vi vk' (u'.setCell ⟨w.heap.size + 1 + 1 + 1, 5, none⟩ vk') k ∧ (u'.setCell ⟨w.heap.size + 1 + 1 + 1, 5, none⟩ vk').heap[k]? = u.heap[k]? := fun k ⟨k1, k2, k3, k4⟩ => by
    refine ⟨⟨k1, by omega, k3, fun q => ?_⟩, oth k k2 (by omega) k4⟩
    rcases hf with r | r
    · exact k4 (r ▸ q)
    · rw [r] at q; injection q with q; omega
  have hbx : Vm.Box u' (w.heap.size + 1 + 1 + 1) (.int .i64 kd) (.int .i64 0) (.int .u64 0) (.string ⟨#[]⟩) vi vk := ⟨(hgr.block _ (by omega) (fun q => by have := hlt _ q.symm; omega)).trans h.var.all⟩
  obtain ⟨xs, hx, hi⟩ := h.items
  refine ⟨⟨?_, ?_, ?_, by have := h.grown.size; omega, fun k hk hne => ?_⟩, hg, by omega, (low _ (by omega) (by omega)).trans h.rp, (low _ (by omega) (by omega)).trans h.dp, ⟨(low _ (by omega) (by omega)).trans h.res.all⟩, ⟨Vm.setAt hbx.all 5 vk'⟩, ⟨xs, Jr.own_kept hx fun k hk => oth k (hx.lt k hk).2 (by have := (hx.lt k hk).1; omega) (h.apart k hk), fun i hin => ?_⟩, ?_⟩
  · rw [show (u'.setCell ⟨w.heap.size + 1 + 1 + 1, 5, none⟩ vk').os = u'.os from rfl, hgr.os, h.grown.os]
  · rw [show (u'.setCell ⟨w.heap.size + 1 + 1 + 1, 5, none⟩ vk').tape = u'.tape from rfl, hgr.tape, h.grown.tape]
  · rw [show (u'.setCell ⟨w.heap.size + 1 + 1 + 1, 5, none⟩ vk').output = u'.output from rfl, hgr.output, h.grown.output]
  · rw [low k (by omega) (by omega)]
    exact h.grown.block k hk hne
  · obtain ⟨u0, u1, u2, u3, u4, u5, x0, x1, x2, x3, x4, x5, hl⟩ := hi i hin
    exact ⟨u0, u1, u2, u3, u4, u5, x0, x1, x2, x3, x4, x5, hl.on free⟩
  · rw [List.length_append, List.map_append]
    exact Jr.own_kept ho fun k hk => Below.heap_setCell _ _ _ _ (by have := (ho.lt k hk).1; show k ≠ w.heap.size + 1 + 1 + 1; omega)
end Go.Proofs.YtiajclmhimkpnaaDoor

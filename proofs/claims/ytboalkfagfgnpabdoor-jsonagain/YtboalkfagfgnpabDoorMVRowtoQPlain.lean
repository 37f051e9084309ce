/-
  A ROW OF VALUES THAT GROWS: 'append(row, value)', time and again.
-/
import Derived.Test.YtboalkfagfgnpabDoorMVGettoVKit
import Derived.Deep.RegionLaw
import Derived.Test.YtboalkfagfgnpabDoorMSigntoRefLet
namespace Go.Proofs.YtboalkfagfgnpabDoor
open Go.RowKit

/-- where the row lies behind an 'append': where it lay, or in a new block -/
theorem Vr.fresh {P : Program} {w : World} (base : Nat) (t ty e : TypeId) (i : TypeInfo) (z : Value) (size bytes : Nat) (ht : P.underlying t = some (.slice e)) (hi : P.info? e = some i) (hz : i.zero = some z)
    (hsize : i.size = size) (hby : i.bytes = bytes) (hsz : 0 < size)
    (v : Value) (n : Nat) (xs : List Value) (hown : w.ownsRow base e size v n xs)
    (a : Addr) (m c : Nat) (hm : 0 < m) (news : List Value) (hl : news.length = m * size) (hnews : ∀ j u, news[j]? = some u → w.cell? (a.add j) = some u) (h1 : ∀ u ∈ news, u.oneCell' = true)
    (h63 : n + m ≤ maxLen) (hbytes : (n + m) * bytes ≤ 140737488355328) (v' : Value) (w' : World) (hrun : (Builtin.append_ #[t, t] ty #[v, .slice (some a) m c]).run P w = .ok v' w') :
    v'.ownBlock = v.ownBlock ∨ v'.ownBlock = some w.heap.size := by
  subst hsize
  subst hby
  have hsmall : n + m ≤ 9223372036854775807 := by simp only [maxLen] at h63; omega
  rcases hown.2 with ⟨rfl, rfl⟩ | ⟨g, cap, cur, rfl, hbg, hg, hnc, hcm, hcs, htake⟩
  · have hr := run_append_nil (P := P) w t ty e i z ht hi hz a m c news hl hnews (by omega) (by omega) (by have hb := hbytes; simp only [Nat.zero_add] at hb; omega)
    rw [hr] at hrun
    injection hrun with e1 e2
    subst e1
    exact .inr rfl
  · by_cases hroom : n + m ≤ cap
    · have hfit : n * i.size + news.length ≤ cur.size := by rw [hl, hcs, ← Nat.add_mul]; exact Nat.mul_le_mul_right _ hroom
      have hr := run_append_room (P := P) w t ty e i ht hi g n cap cur hg a m c news hl hnews h1 hroom hfit
      rw [hr] at hrun
      injection hrun with e1 e2
      subst e1
      exact .inl rfl
    · have holds : ∀ j u, xs[j]? = some u → w.cell? ((⟨g, 0, none⟩ : Addr).add j) = some u := hown.cells (g := g) rfl
      have hr := run_append_grow (P := P) w t ty e i z ht hi hz ⟨g, 0, none⟩ n cap xs hown.1 holds a m c news hl hnews (by omega) (by omega) (growslice_fits (by omega) hbytes)
      rw [hr] at hrun
      injection hrun with e1 e2
      subst e1
      exact .inr rfl

/-- A ROW OF n VALUES in a block of its own, from base on; the values' own parts lie in blocks of Q, none of them in the row's block -/
structure Vr.Row (Q : Nat → Prop) (base : Nat) (it : Nat → Vt) (n : Nat) (w : World) (v : Value) : Prop where
  all : ∃ xs, w.ownsRow base 27 6 v n xs ∧ ∀ i, i < n → ∃ u0 u1 u2 u3 u4 u5, xs[i * 6]? = some u0 ∧ xs[i * 6 + 1]? = some u1 ∧ xs[i * 6 + 2]? = some u2 ∧ xs[i * 6 + 3]? = some u3 ∧ xs[i * 6 + 4]? = some u4 ∧ xs[i * 6 + 5]? = some u5 ∧ (it i).Lies w (fun k => Q k ∧ k < w.heap.size ∧ v.ownBlock ≠ some k) (.agg #[u0, u1, u2, u3, u4, u5])
theorem Vr.Row.nil (Q : Nat → Prop) (base : Nat) (it : Nat → Vt) (w : World) : Vr.Row Q base it 0 w (.slice none 0 0) := ⟨[], World.ownsRow_nil _ _ _ _, fun i hi => absurd hi (by omega)⟩
/-- what has turned at most is one block that is none of the row's -/
theorem Vr.Row.on {Q : Nat → Prop} {base : Nat} {it : Nat → Vt} {n : Nat} {w w' : World} {v : Value} (h : Vr.Row Q base it n w v) {gB : Nat} (hs : w.heap.size ≤ w'.heap.size) (hw : ∀ k, k < w.heap.size → k ≠ gB → w'.heap[k]? = w.heap[k]?) (hB : gB < base) (hQ : ¬ Q gB) : Vr.Row Q base it n w' v := by
  obtain ⟨xs, ho, hi⟩ := h.all
  refine ⟨xs, ⟨ho.1, ?_⟩, fun i hin => ?_⟩
  · rcases ho.2 with hn | ⟨g, cap, cur, rfl, hb, hgg, rest⟩
    · exact .inl hn
    · refine .inr ⟨g, cap, cur, rfl, hb, ?_, rest⟩
      rw [hw g (Array.getElem?_eq_some_iff.1 hgg).1 (by omega)]
      exact hgg
  · obtain ⟨u0, u1, u2, u3, u4, u5, x0, x1, x2, x3, x4, x5, hl⟩ := hi i hin
    exact ⟨u0, u1, u2, u3, u4, u5, x0, x1, x2, x3, x4, x5, hl.on fun k hk => ⟨⟨hk.1, Nat.lt_of_lt_of_le hk.2.1 hs, hk.2.2⟩, hw k hk.2.1 (fun e => hQ (e ▸ hk.1))⟩⟩
theorem Vr.Row.form {Q : Nat → Prop} {base : Nat} {it : Nat → Vt} {n : Nat} {w : World} {v : Value} (h : Vr.Row Q base it n w v) : ∃ a d, v = .slice a n d ∧ n ≤ d ∧ d ≤ maxLen := by
  obtain ⟨xs, ho, hi⟩ := h.all
  obtain ⟨a, d, e, h1, h2, _⟩ := Vc.row_form ho
  exact ⟨a, d, e, h1, h2⟩
/-- a tree over the row -/
theorem Vr.Row.lies {Q : Nat → Prop} {base : Nat} {it : Nat → Vt} {n : Nat} {w : World} {a : Option Addr} {d : Nat} (h : Vr.Row Q base it n w (.slice a n d)) {R : Nat → Prop} (hQ : ∀ k, Q k → k < w.heap.size → R k) (hB : ∀ k, base ≤ k → k < w.heap.size → R k) (k x : Int) (b : Nat) (s : ByteArray) (hb : b < 18446744073709551616) (m : Nat) (ks : Nat → ByteArray) (ak : Option Addr) (dk : Nat) (hk : Vt.Keys w R m ks ak dk) :
    (Vt.mk k x b s n it m ks).Lies w R (.agg #[.int .i64 k, .int .i64 x, .int .u64 (b : Int), .string s, .slice a n d, .slice ak m dk]) := by
  obtain ⟨xs, ho, hi⟩ := h.all
  obtain ⟨a', d', e, h1, h2, _, hrow⟩ := Vc.row_form ho
  injection e with e1 e2 e3
  subst e1
  subst e3
  refine ⟨a, d, ak, dk, rfl, hb, h1, h2, hk, fun i hin => ?_⟩
  obtain ⟨g, cur, e, g1, g2, hg, hsz, hj⟩ := hrow (by omega)
  obtain ⟨u0, u1, u2, u3, u4, u5, x0, x1, x2, x3, x4, x5, hl⟩ := hi i hin
  refine ⟨g, 0, u0, u1, u2, u3, u4, u5, e, hB g g1 g2, ?_, ?_, ?_, ?_, ?_, ?_, hl.on fun k hk => ⟨hQ k hk.1 hk.2.1, rfl⟩⟩
  all_goals rw [Nat.zero_add]
  · exact Vm.boxCell hg _ (hj _ _ x0)
  · exact Vm.boxCell hg _ (hj _ _ x1)
  · exact Vm.boxCell hg _ (hj _ _ x2)
  · exact Vm.boxCell hg _ (hj _ _ x3)
  · exact Vm.boxCell hg _ (hj _ _ x4)
  · exact Vm.boxCell hg _ (hj _ _ x5)
/-- since W nothing has turned but block gB -/
structure Vr.Lo (W wr : World) (gB : Nat) : Prop where
  os : wr.os = W.os
  tape : wr.tape = W.tape
  output : wr.output = W.output
  size : W.heap.size ≤ wr.heap.size
  block : ∀ k, k < W.heap.size → k ≠ gB → wr.heap[k]? = W.heap[k]?
theorem Vr.Lo.refl (W : World) (gB : Nat) : Vr.Lo W W gB := ⟨rfl, rfl, rfl, Nat.le_refl _, fun _ _ _ => rfl⟩
theorem Vr.Lo.on {W wr w' : World} {gB : Nat} (h : Vr.Lo W wr gB) (hb : Below wr.heap.size wr w') : Vr.Lo W w' gB :=
  ⟨hb.os.trans h.os, hb.tape.trans h.tape, hb.output.trans h.output, Nat.le_trans h.size hb.size, fun k hk hne => (hb.block k (Nat.lt_of_lt_of_le hk h.size)).trans (h.block k hk hne)⟩
theorem Vr.Lo.low {W wr w' : World} {gB : Nat} (h : Vr.Lo W wr gB) (hb : Below W.heap.size wr w') : Vr.Lo W w' gB :=
  ⟨hb.os.trans h.os, hb.tape.trans h.tape, hb.output.trans h.output, Nat.le_trans h.size hb.size, fun k hk hne => (hb.block k hk).trans (h.block k hk hne)⟩
theorem Vr.Row.ne {Q : Nat → Prop} {base : Nat} {it : Nat → Vt} {n : Nat} {w : World} {v : Value} (h : Vr.Row Q base it n w v) {k : Nat} (hk : k < base) : v.ownBlock ≠ some k := by
  obtain ⟨xs, ho, _⟩ := h.all
  intro e
  have := (ho.lt k e).1
  omega
theorem Vr.Lo.alloc {W wr : World} {gB : Nat} (h : Vr.Lo W wr gB) (o : Obj) : Vr.Lo W (wr.alloc o) gB := h.on ((Below.refl _ _).alloc (Nat.le_refl _) o)
theorem Vr.Lo.set {W wr : World} {gB : Nat} (h : Vr.Lo W wr gB) (i : Nat) (v : Value) : Vr.Lo W (wr.setCell ⟨gB, i, none⟩ v) gB :=
  ⟨h.os, h.tape, h.output, by simp; exact h.size, fun k hk hne => (Below.heap_setCell _ _ _ _ hne).trans (h.block k hk hne)⟩
theorem Vr.Lo.below {w W wr : World} {gB : Nat} (h : Vr.Lo W wr gB) (hW : Below w.heap.size w W) (hg : w.heap.size ≤ gB) : Below w.heap.size w wr :=
  ⟨h.os.trans hW.os, h.tape.trans hW.tape, h.output.trans hW.output, Nat.le_trans hW.size h.size, fun g hg' => (h.block g (Nat.lt_of_lt_of_le hg' hW.size) (by omega)).trans (hW.block g hg')⟩
theorem Vr.Row.alloc {Q : Nat → Prop} {base : Nat} {it : Nat → Vt} {n : Nat} {w : World} {v : Value} (h : Vr.Row Q base it n w v) {gB : Nat} (hB : gB < base) (hQ : ¬ Q gB) (o : Obj) : Vr.Row Q base it n (w.alloc o) v :=
  h.on (gB := gB) (by simp) (fun k hk _ => Below.heap_alloc _ _ _ hk) hB hQ
theorem Vr.Row.then {Q : Nat → Prop} {base : Nat} {it : Nat → Vt} {n : Nat} {w w' : World} {v : Value} (h : Vr.Row Q base it n w v) {gB : Nat} (hB : gB < base) (hQ : ¬ Q gB) (hb : Below w.heap.size w w') : Vr.Row Q base it n w' v :=
  h.on (gB := gB) hb.size (fun k hk _ => hb.block k hk) hB hQ
theorem Vr.Row.set {Q : Nat → Prop} {base : Nat} {it : Nat → Vt} {n : Nat} {w : World} {v : Value} (h : Vr.Row Q base it n w v) {gB : Nat} (hB : gB < base) (hQ : ¬ Q gB) (i : Nat) (u : Value) : Vr.Row Q base it n (w.setCell ⟨gB, i, none⟩ u) v :=
  h.on (gB := gB) (by simp) (fun k hk hne => Below.heap_setCell _ _ _ _ hne) hB hQ
/-- 'append(row, value)' -/
theorem Vr.wp_push {w : World} {o : Oper} {a : Act} {K : Act → World → Prop} {Z : Exit → Act → World → Prop} (s x : Operand)
    (ho : o.op = .call { callee := .builtin .append, args := #[s, x], argTypes := #[24, 24] })
    {Q : Nat → Prop} {base : Nat} {it : Nat → Vt} {n : Nat} (v : Value) (hs : a.eval s = v) (hR : Vr.Row Q base it n w v) (g1 : Nat) (k1 x1 : Int) (b1 : Nat) (s1 : ByteArray) (ai1 : Option Addr) (n1 c1 : Nat) (ak1 : Option Addr) (m1 d1 : Nat)
    (hx : a.eval x = .slice (some ⟨g1, 0, none⟩) 1 1) (hg1 : Vm.Has w g1 (.cells #[.int .i64 k1, .int .i64 x1, .int .u64 (b1 : Int), .string s1, .slice ai1 n1 c1, .slice ak1 m1 d1] 27))
    (hl : (it n).Lies w (fun k => Q k ∧ k < w.heap.size ∧ v.ownBlock ≠ some k) (.agg #[.int .i64 k1, .int .i64 x1, .int .u64 (b1 : Int), .string s1, .slice ai1 n1 c1, .slice ak1 m1 d1]))
    (hn : (n + 1) * 88 ≤ 140737488355328) (hbase : base ≤ w.heap.size)
    (h : ∀ v' w', Vr.Row Q base it (n + 1) w' v' → Below base w w' → K (a.put o.dst v') w') : o.wp Tryd.prog a w K Z := by
  obtain ⟨iV, hiV, hzV, hsV, hbV⟩ := info_parts Vc.infoV
  obtain ⟨xs, hown, hi⟩ := hR.all
  have hnews : ∀ j u, ([.int .i64 k1, .int .i64 x1, .int .u64 (b1 : Int), .string s1, .slice ai1 n1 c1, .slice ak1 m1 d1] : List Value)[j]? = some u → w.cell? ((⟨g1, 0, none⟩ : Addr).add j) = some u := by
    intro j u hj
    rw [Vc.add, Nat.zero_add]
    refine hg1.cell j ?_
    rw [← hj]
    simp
  have hone : ∀ u ∈ ([.int .i64 k1, .int .i64 x1, .int .u64 (b1 : Int), .string s1, .slice ai1 n1 c1, .slice ak1 m1 d1] : List Value), u.oneCell' = true := by
    intro u hu
    simp only [List.mem_cons, List.not_mem_nil, or_false] at hu
    rcases hu with rfl | rfl | rfl | rfl | rfl | rfl <;> rfl
  have h63 : n + 1 ≤ maxLen := by unfold maxLen; omega
  obtain ⟨v', w', hr, h2, h3, h4⟩ := run_append_own (P := Tryd.prog) w base 24 o.type 27 iV _ 6 88 Tryd.underlying24 hiV hzV hsV hbV rfl (by decide) v n xs hown ⟨g1, 0, none⟩ 1 1 _ rfl hnews hone h63 hn hbase
  have hf := Vr.fresh (P := Tryd.prog) base 24 o.type 27 iV _ 6 88 Tryd.underlying24 hiV hzV hsV hbV (by decide) v n xs hown ⟨g1, 0, none⟩ 1 1 (by decide) _ rfl hnews hone h63 hn v' w' hr
  have hlen := hown.1
  have hkeep : ∀ {t : Vt} {u : Value}, t.Lies w (fun k => Q k ∧ k < w.heap.size ∧ v.ownBlock ≠ some k) u → t.Lies w' (fun k => Q k ∧ k < w'.heap.size ∧ v'.ownBlock ≠ some k) u := fun hl => hl.on fun k hk => ⟨⟨hk.1, Nat.lt_of_lt_of_le hk.2.1 h3.size, fun e => by
    rcases hf with hf | hf
    · exact hk.2.2 (hf ▸ e)
    · rw [hf] at e
      have := Option.some.inj e
      omega⟩, h3.block k hk.2.1 (fun e => hk.2.2 e.symm)⟩
  unfold Oper.wp execOp
  simp only [ho, resolve, invoke, builtin, Sem.run_bind, Sem.run_pure, Result.andThen_ok, List.map_toArray, List.map_cons, List.map_nil, hs, hx, hr]
  refine h v' w' ⟨_, h2, fun i hin => ?_⟩ ⟨h3.os, h3.tape, h3.output, h3.size, fun k hk => h3.block k (by omega) (fun e => by have := (hown.lt k e.symm).1; omega)⟩
  by_cases e : i = n
  · subst e
    have at6 : ∀ r, (xs ++ [.int .i64 k1, .int .i64 x1, .int .u64 (b1 : Int), .string s1, .slice ai1 n1 c1, .slice ak1 m1 d1])[i * 6 + r]? = ([.int .i64 k1, .int .i64 x1, .int .u64 (b1 : Int), .string s1, .slice ai1 n1 c1, .slice ak1 m1 d1] : List Value)[r]? := by
      intro r
      rw [List.getElem?_append_right (by omega), hlen, Nat.add_sub_cancel_left]
    exact ⟨_, _, _, _, _, _, at6 0, at6 1, at6 2, at6 3, at6 4, at6 5, hkeep hl⟩
  · obtain ⟨u0, u1, u2, u3, u4, u5, y0, y1, y2, y3, y4, y5, hl'⟩ := hi i (by omega)
    refine ⟨u0, u1, u2, u3, u4, u5, ?_, ?_, ?_, ?_, ?_, ?_, hkeep hl'⟩
    all_goals rw [List.getElem?_append_left (by omega)]
    all_goals assumption
/-- at a list of operations -/
theorem Vr.push {w : World} {ops : Array Oper} {rest : List Oper} {o : Oper} {a : Act} {Z : Exit → Act → World → Prop} (hgd : o.guard = none) (s x : Operand)
    (ho : o.op = .call { callee := .builtin .append, args := #[s, x], argTypes := #[24, 24] })
    {Q : Nat → Prop} {base : Nat} {it : Nat → Vt} {n : Nat} (v : Value) (hs : a.eval s = v) (hR : Vr.Row Q base it n w v) (g1 : Nat) (k1 x1 : Int) (b1 : Nat) (s1 : ByteArray) (ai1 : Option Addr) (n1 c1 : Nat) (ak1 : Option Addr) (m1 d1 : Nat)
    (hx : a.eval x = .slice (some ⟨g1, 0, none⟩) 1 1) (hg1 : Vm.Has w g1 (.cells #[.int .i64 k1, .int .i64 x1, .int .u64 (b1 : Int), .string s1, .slice ai1 n1 c1, .slice ak1 m1 d1] 27))
    (hl : (it n).Lies w (fun k => Q k ∧ k < w.heap.size ∧ v.ownBlock ≠ some k) (.agg #[.int .i64 k1, .int .i64 x1, .int .u64 (b1 : Int), .string s1, .slice ai1 n1 c1, .slice ak1 m1 d1]))
    (hn : (n + 1) * 88 ≤ 140737488355328) (hbase : base ≤ w.heap.size)
    (h : ∀ v' w', Vr.Row Q base it (n + 1) w' v' → Below base w w' → wpList Tryd.prog ops Z rest (a.put o.dst v') w') : wpList Tryd.prog ops Z (o :: rest) a w :=
  wpList_plain hgd fun _ hK => Vr.wp_push s x ho v hs hR g1 k1 x1 b1 s1 ai1 n1 c1 ak1 m1 d1 hx hg1 hl hn hbase fun v' w' h2 h3 => hK _ _ (h v' w' h2 h3)
/-- at a step of a region that draws -/
theorem Vr.step_push {w : World} {ops : Array Oper} {o : Oper} {a : Act} {K : Act → World → Prop} {E : Prop} {Z : Exit → Act → World → Prop} (hgd : o.guard = none) (s x : Operand)
    (ho : o.op = .call { callee := .builtin .append, args := #[s, x], argTypes := #[24, 24] })
    {Q : Nat → Prop} {base : Nat} {it : Nat → Vt} {n : Nat} (v : Value) (hs : a.eval s = v) (hR : Vr.Row Q base it n w v) (g1 : Nat) (k1 x1 : Int) (b1 : Nat) (s1 : ByteArray) (ai1 : Option Addr) (n1 c1 : Nat) (ak1 : Option Addr) (m1 d1 : Nat)
    (hx : a.eval x = .slice (some ⟨g1, 0, none⟩) 1 1) (hg1 : Vm.Has w g1 (.cells #[.int .i64 k1, .int .i64 x1, .int .u64 (b1 : Int), .string s1, .slice ai1 n1 c1, .slice ak1 m1 d1] 27))
    (hl : (it n).Lies w (fun k => Q k ∧ k < w.heap.size ∧ v.ownBlock ≠ some k) (.agg #[.int .i64 k1, .int .i64 x1, .int .u64 (b1 : Int), .string s1, .slice ai1 n1 c1, .slice ak1 m1 d1]))
    (hn : (n + 1) * 88 ≤ 140737488355328) (hbase : base ≤ w.heap.size)
    (h : ∀ v' w', Vr.Row Q base it (n + 1) w' v' → Below base w w' → K (a.put o.dst v') w') : if Region.wanted o (yielded ops a.tmps) = true then Oper.wp Tryd.prog o a w K Z else E := by
  have hw : Region.wanted o (yielded ops a.tmps) = true := by simp [Region.wanted, hgd]
  rw [if_pos hw]
  exact Vr.wp_push s x ho v hs hR g1 k1 x1 b1 s1 ai1 n1 c1 ak1 m1 d1 hx hg1 hl hn hbase h
end Go.Proofs.YtboalkfagfgnpabDoor
/-
  PLAIN: addresses: their scheme; what may begin one, what may be a part of one.
-/
namespace Go.Proofs.YtboalkfagfgnpabDoor
def Ug.gap (c : UInt8) : Bool := decide (c = 9) || decide (c = 10) || decide (c = 13)
def Ug.strip (l : List UInt8) : List UInt8 := (l.dropWhile fun c => decide (c.toNat ≤ 32)).filter fun c => !Ug.gap c
def Ug.sign (c : UInt8) : Bool := Pl.letter c || (Pl.digit c || decide (c = 43) || decide (c = 45) || decide (c = 46))
/-- the scheme of what is left: letters and signs, then a ':' -/
def Ug.of (t : List UInt8) : Option (List UInt8) :=
  if Pl.letter (t.getD 0 0) = true ∧ t[(t.takeWhile Ug.sign).length]? = some 58 then some (Pl.lowL (t.takeWhile Ug.sign)) else none
def Ug.scheme (l : List UInt8) : Option (List UInt8) := Ug.of (Ug.strip l)
def Ug.http : List UInt8 := [104, 116, 116, 112]
def Ug.https : List UInt8 := [104, 116, 116, 112, 115]
def Ug.mailto : List UInt8 := [109, 97, 105, 108, 116, 111]
def Ug.tel : List UInt8 := [116, 101, 108]
def Ug.known (s : List UInt8) : Bool := decide (s = Ug.http) || decide (s = Ug.https) || decide (s = Ug.mailto) || decide (s = Ug.tel)
def Ug.plain : List UInt8 := [45, 46, 95, 126]
def Ug.more : List UInt8 := [45, 46, 95, 126, 58, 47, 63, 35, 91, 93, 64, 33, 36, 38, 42, 43, 44, 59, 61, 37]
def Ug.hex (n : Nat) : UInt8 := if n < 10 then UInt8.ofNat (48 + n) else UInt8.ofNat (55 + n)
def Ug.stays (signs : List UInt8) (c : UInt8) : Bool := Pl.letter c || Pl.digit c || signs.contains c
def Ug.byte (signs : List UInt8) (c : UInt8) : List UInt8 := if Ug.stays signs c = true then [c] else [37, Ug.hex (c.toNat / 16), Ug.hex (c.toNat % 16)]
def Ug.pct (signs : List UInt8) (l : List UInt8) : List UInt8 := l.flatMap (Ug.byte signs)
def Ug.no : List UInt8 := [35, 90, 103, 111, 116, 109, 112, 108, 90]
def Ug.bad (l : List UInt8) : Prop := ∃ s, Ug.scheme l = some s ∧ Ug.known s = false
def Ug.start (l : List UInt8) : List UInt8 :=
  match Ug.scheme (Pl.normL l) with
  | some s => if Ug.known s = true then Ug.pct Ug.more (Pl.normL l) else Ug.no
  | none => Ug.pct Ug.more (Pl.normL l)
def Ug.part (l : List UInt8) : List UInt8 := Ug.pct Ug.plain (Pl.normL l)
/-- what holds of all bytes, held against each -/
theorem Ug.all {p : UInt8 → Bool} (h : (List.range 256).all (fun n => p (UInt8.ofNat n)) = true) (c : UInt8) : p c = true := by
  have := List.all_eq_true.1 h c.toNat (List.mem_range.2 c.toNat_lt)
  simpa using this
theorem Ug.pct_append (s a b : List UInt8) : Ug.pct s (a ++ b) = Ug.pct s a ++ Ug.pct s b := by simp [Ug.pct]
theorem Ug.pct_cons (s : List UInt8) (c : UInt8) (l : List UInt8) : Ug.pct s (c :: l) = Ug.byte s c ++ Ug.pct s l := by simp [Ug.pct]
theorem Ug.byte_len (s : List UInt8) (c : UInt8) : 1 ≤ (Ug.byte s c).length ∧ (Ug.byte s c).length ≤ 3 := by
  unfold Ug.byte
  split <;> simp
theorem Ug.pct_len (s : List UInt8) : ∀ l : List UInt8, l.length ≤ (Ug.pct s l).length ∧ (Ug.pct s l).length ≤ 3 * l.length
  | [] => ⟨Nat.le_refl _, Nat.le_refl _⟩
  | c :: l => by
    have h1 := Ug.byte_len s c
    have h2 := Ug.pct_len s l
    rw [Ug.pct_cons, List.length_append, List.length_cons]
    omega
/-- what is told is told again as it is, if '%' is among the signs -/
theorem Ug.byte_more (c : UInt8) : ∀ d ∈ Ug.byte Ug.more c, Ug.stays Ug.more d = true := by
  have h := Ug.all (p := fun c => (Ug.byte Ug.more c).all fun d => Ug.stays Ug.more d) (by decide +kernel) c
  exact List.all_eq_true.1 h
theorem Ug.pct_more : ∀ l : List UInt8, ∀ d ∈ Ug.pct Ug.more l, Ug.stays Ug.more d = true := fun l d hd => by
  obtain ⟨c, _, hc⟩ := List.mem_flatMap.1 hd
  exact Ug.byte_more c d hc
theorem Ug.pct_stays {s : List UInt8} : ∀ {l : List UInt8}, (∀ d ∈ l, Ug.stays s d = true) → Ug.pct s l = l
  | [], _ => rfl
  | c :: l, h => by
    rw [Ug.pct_cons, Ug.pct_stays (fun d hd => h d (List.mem_cons_of_mem _ hd))]
    unfold Ug.byte
    rw [if_pos (h c List.mem_cons_self)]
    rfl
/-- a safe byte: neither below 33 nor from 127 on, no quote, no angle -/
def Ug.safe (c : UInt8) : Bool := decide (33 ≤ c.toNat) && decide (c.toNat < 127) && !decide (c = 34) && !decide (c = 39) && !decide (c = 60) && !decide (c = 62)
theorem Ug.more_safe (c : UInt8) (h : Ug.stays Ug.more c = true) : Ug.safe c = true ∧ Ug.gap c = false ∧ c.toNat < 128 := by
  have := Ug.all (p := fun c => !Ug.stays Ug.more c || (Ug.safe c && !Ug.gap c && decide (c.toNat < 128))) (by decide +kernel) c
  rw [h] at this
  simpa [Bool.and_eq_true, and_assoc] using this
def Ug.sober (c : UInt8) : Bool := Ug.safe c && !decide (c = 58) && !decide (c = 47) && !decide (c = 63) && !decide (c = 35) && !decide (c = 38)
theorem Ug.byte_part (c : UInt8) : ∀ d ∈ Ug.byte Ug.plain c, Ug.sober d = true := by
  have h := Ug.all (p := fun c => (Ug.byte Ug.plain c).all fun d => Ug.sober d) (by decide +kernel) c
  exact List.all_eq_true.1 h
theorem Ug.pct_part (l : List UInt8) : ∀ d ∈ Ug.pct Ug.plain l, Ug.sober d = true := fun d hd => by
  obtain ⟨c, _, hc⟩ := List.mem_flatMap.1 hd
  exact Ug.byte_part c d hc
/-- nothing is stripped off safe bytes -/
theorem Ug.strip_safe {l : List UInt8} (h : ∀ d ∈ l, 33 ≤ d.toNat) : Ug.strip l = l := by
  unfold Ug.strip
  have h1 : l.dropWhile (fun c => decide (c.toNat ≤ 32)) = l := by
    cases l with
    | nil => rfl
    | cons c l =>
      rw [List.dropWhile_cons, if_neg]
      have := h c List.mem_cons_self
      simp
      omega
  rw [h1, List.filter_eq_self]
  intro d hd
  have h2 := h d hd
  have h3 := Ug.all (p := fun c => !Ug.gap c || decide (c.toNat ≤ 32)) (by decide +kernel) d
  cases hg : Ug.gap d
  · rfl
  · rw [hg] at h3
    simp at h3
    omega
/-- without a ':' there is no scheme -/
theorem Ug.of_colon {t : List UInt8} (h : ∀ d ∈ t, d ≠ 58) : Ug.of t = none := by
  unfold Ug.of
  rw [if_neg]
  rintro ⟨_, q⟩
  exact h 58 (List.mem_of_getElem? q) rfl
end Go.Proofs.YtboalkfagfgnpabDoor

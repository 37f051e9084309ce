/-
  WHAT THE WALK of stoleref5.Skeleton WANTS: a row of numbers that is written, a row of bytes that grows; the lines, a node after the other.
-/
import Derived.Test.YtblpkjlodncpeaaGreatDoorBNMaytoWPlain
import Derived.Test.YtblpkjlodncpeaaGreatDoorBUCopytoTDec
import Derived.Test.YtblpkjlodncpeaaGreatDoorBPLine
namespace Go.Proofs.YtblpkjlodncpeaaGreatDoor
open Go.RowKit
theorem Ns.infoB : (Tryz.prog.info? 5).map (fun i => (i.zero, i.size, i.bytes)) = some (some (.int .u8 0), 1, 1) := by kernel_rfl
theorem Ns.freshS {P : Program} {w : World} (base : Nat) (t u ty e : TypeId) (i : TypeInfo) (ht : P.underlying t = some (.slice e)) (hu : P.underlying u = some .string) (hi : P.info? e = some i) (hz : i.zero = some (.int .u8 0))
  (hsize : i.size = 1) (hby : i.bytes = 1) (v : Value) (n : Nat) (xs : List Value) (hown : w.ownsRow base e 1 v n xs) (s : ByteArray)
  (h63 : n + s.size ≤ maxLen) (hbytes : n + s.size ≤ 140737488355328) (v' : Value) (w' : World) (hrun : (Builtin.append_ #[t, u] ty #[v, .string s]).run P w = .ok v' w') (hnil : v' = .slice none 0 0 ↔ v = .slice none 0 0 ∧ s.size = 0) :
  v'.ownBlock = v.ownBlock ∨ v'.ownBlock = some w.heap.size := by
 have hsmall : n + s.size ≤ 9223372036854775807 := by simp only [maxLen] at h63; omega
 have hxl : xs.length = n := by simpa using hown.1
 rcases hown.2 with ⟨rfl, rfl⟩ | ⟨g, cap, cur, rfl, hbg, hg, hnc, hcm, hcs, htake⟩
 ·
  by_cases hs : s.size = 0
  ·
   rw [hnil.2 ⟨rfl, hs⟩]
   exact .inl rfl
  ·
   have hr := run_append_nil_string (P := P) w t u ty e i (.int .u8 0) ht hu hi hz s (by omega) (by omega) (by rw [hby]; omega)
   rw [hr] at hrun
   injection hrun with e1 e2
   subst e1
   exact .inr rfl
 ·
  by_cases hroom : n + s.size ≤ cap
  ·
   have hcs' : cur.size = cap := by simpa using hcs
   have hr := Lib.run_append_room_string (P := P) w t u ty e i ht hu hi hsize g n cap cur hg s hroom (by omega)
   rw [hr] at hrun
   injection hrun with e1 e2
   subst e1
   exact .inl rfl
  ·
   have holds : ∀ j u, xs[j]? = some u → w.cell? ((⟨g, 0, none⟩ : Addr).add j) = some u := hown.cells (g := g) rfl
   have hr := Lib.run_append_grow_string (P := P) w t u ty e i (.int .u8 0) ht hu hi hz ⟨g, 0, none⟩ n cap xs (by rw [hsize]; simpa using hxl) holds s (by omega) (by omega) (by rw [hby]; exact growslice_fits (by omega) (by omega))
   rw [hr] at hrun
   injection hrun with e1 e2
   subst e1
   exact .inr rfl
theorem Ns.pushS {w : World} {ops : Array Oper} {rest : List Oper} {o : Oper} {a : Act} {Z : Exit → Act → World → Prop} (hgd : o.guard = none) (s x : Operand)
  (ho : o.op = .call { callee := .builtin .append, args := #[s, x], argTypes := #[43, 9] })
  {base n : Nat} {xs : List Value} (v : Value) (hs : a.eval s = v) (hown : w.ownsRow base 5 1 v n xs) (t : ByteArray) (hx : a.eval x = .string t)
  (hn : n + t.size ≤ 140737488355328) (hbase : base ≤ w.heap.size)
  (h : ∀ v' w', w'.ownsRow base 5 1 v' (n + t.size) (xs ++ Lib.strCells t) → w.grownBy w' v.ownBlock → (v'.ownBlock = v.ownBlock ∨ v'.ownBlock = some w.heap.size) → wpList Tryz.prog ops Z rest (a.put o.dst v') w') : wpList Tryz.prog ops Z (o :: rest) a w := by
 refine wpList_plain hgd fun K hK => ?_
 obtain ⟨iV, hiV, hzV, hsV, hbV⟩ := info_parts Ns.infoB
 obtain ⟨v', w', hr, h2, h3, h4⟩ := Lib.run_append_own_string (P := Tryz.prog) w base 43 9 o.type 5 iV Tryz.underlying43 Tryz.underlying9 hiV hzV hsV hbV v n xs hown t (by unfold maxLen; omega) hn hbase
 have hf := Ns.freshS (P := Tryz.prog) base 43 9 o.type 5 iV Tryz.underlying43 Tryz.underlying9 hiV hzV hsV hbV v n xs hown t (by unfold maxLen; omega) hn v' w' hr h4
 unfold Oper.wp execOp
 simp only [ho, resolve, invoke, builtin, Sem.run_bind, Sem.run_pure, Result.andThen_ok, List.map_toArray, List.map_cons, List.map_nil, hs, hx, hr]
 exact hK _ _ (h v' w' h2 h3 hf)
structure Ns.Mem (base : Nat) (w : World) (nv ov : Value) (nums : List Nat) (out : List UInt8) : Prop where
 n : w.ownsRow base 3 1 nv nums.length (Um.ints nums)
 o : w.ownsRow base 5 1 ov out.length (Lib.byteCells out)
 no : ∀ k, nv.ownBlock = some k → ov.ownBlock ≠ some k
theorem Ns.Mem.on {base : Nat} {w w' : World} {nv ov : Value} {nums : List Nat} {out : List UInt8} (h : Ns.Mem base w nv ov nums out) (hq : Below w.heap.size w w') : Ns.Mem base w' nv ov nums out :=
 ⟨Rm.own_on h.n fun k hk => hq.block k (h.n.lt k hk).2, Rm.own_on h.o fun k hk => hq.block k (h.o.lt k hk).2, h.no⟩
theorem Ns.Mem.more {base : Nat} {w w1 w4 : World} {nv ov ov' : Value} {nums : List Nat} {out out' : List UInt8} (h : Ns.Mem base w nv ov nums out) (hq : Below w.heap.size w w1) (hg : w1.grownBy w4 ov.ownBlock) (hf : ov'.ownBlock = ov.ownBlock ∨ ov'.ownBlock = some w1.heap.size)
  (R : w4.ownsRow base 5 1 ov' out'.length (Lib.byteCells out')) : Ns.Mem base w4 nv ov' nums out' := by
 have hold := Pm.held (xv := ov) (xv' := ov') hq (.inl rfl) hg (hf.imp id fun e => ⟨_, e, hq.size⟩)
 have hn := fun k (hk : nv.ownBlock = some k) => hold k (h.n.lt k hk).2 (h.no k hk)
 exact ⟨Rm.own_on h.n fun k hk => (hn k hk).2, R, fun k hk => (hn k hk).1⟩
theorem Ns.Mem.put {base : Nat} {w : World} {g n d : Nat} {ov : Value} {nums : List Nat} {out : List UInt8} (h : Ns.Mem base w (.slice (some ⟨g, 0, none⟩) n d) ov nums out) (hn : nums.length = n) (i q : Nat) : Ns.Mem base (w.setCell ⟨g, i, none⟩ (.int .i64 (q : Int))) (.slice (some ⟨g, 0, none⟩) n d) ov (nums.set i q) out := by
 subst hn
 have hne : ∀ k, k ≠ g → (w.setCell ⟨g, i, none⟩ (.int .i64 (q : Int))).heap[k]? = w.heap[k]? := fun k hk => Below.heap_setCell _ _ _ _ hk
 refine ⟨?_, Rm.own_on h.o fun k hk => hne k (fun e => h.no g rfl (by rw [← e]; exact hk)), h.no⟩
 have := (h.n.stored i (.int .i64 (q : Int))).1
 have e : Um.ints (nums.set i q) = (Um.ints nums).set i (.int .i64 (q : Int)) := by unfold Um.ints; rw [List.map_set]
 rw [List.length_set, e]
 exact this
def Ns.Nums (ns : List Nd) (i : Nat) (nums : List Nat) : Prop := nums.length = ns.length ∧ ∀ j x, j < i → ns[j]? = some x → x.kind ≠ 2 → nums[j]? = some (Sk.num ns j)
def Ns.many (ns : List Nd) (i : Nat) : Nat := (ns.take i).tail.countP Sk.told
theorem Ns.many_one (ns : List Nd) : Ns.many ns 1 = 0 := by
 unfold Ns.many
 cases ns with
 | nil => rfl
 | cons a l => simp
theorem Ns.many_step (ns : List Nd) {i : Nat} (h0 : 0 < i) {x : Nd} (hi : ns[i]? = some x) : Ns.many ns (i + 1) = Ns.many ns i + (if x.kind = 2 then 0 else 1) := by
 have hl := (List.getElem?_eq_some_iff.1 hi).1
 have hx : ns[i] = x := (List.getElem?_eq_some_iff.1 hi).2
 unfold Ns.many
 rw [List.take_succ_eq_append_getElem hl, hx]
 exact Sk.count_snoc (by rw [List.length_take]; omega) x
theorem Ns.num_at (ns : List Nd) {i : Nat} (h0 : 0 < i) {x : Nd} (hi : ns[i]? = some x) (hk : x.kind ≠ 2) : Sk.num ns i = Ns.many ns i + 1 := by
 have := Ns.many_step ns h0 hi
 rw [if_neg hk] at this
 exact this
theorem Ns.num_zero (ns : List Nd) : Sk.num ns 0 = 0 := Ns.many_one ns
theorem Ns.many_le (ns : List Nd) (i : Nat) : Ns.many ns i ≤ ns.length := by
 unfold Ns.many
 refine Nat.le_trans List.countP_le_length ?_
 rw [List.length_tail, List.length_take]
 omega
theorem Ns.num_le (ns : List Nd) (i : Nat) : Sk.num ns i ≤ ns.length := Ns.many_le ns (i + 1)
theorem Ns.Nums.start (ns : List Nd) : Ns.Nums ns 1 (List.replicate ns.length 0) := by
 refine ⟨List.length_replicate, fun j x hj hx _ => ?_⟩
 have hj0 : j = 0 := by omega
 subst hj0
 rw [Ns.num_zero]
 exact List.getElem?_replicate_of_lt (List.getElem?_eq_some_iff.1 hx).1
theorem Ns.Nums.skip {ns : List Nd} {i : Nat} {nums : List Nat} (h : Ns.Nums ns i nums) {x : Nd} (hi : ns[i]? = some x) (hk : x.kind = 2) : Ns.Nums ns (i + 1) nums := by
 refine ⟨h.1, fun j y hj hy hky => ?_⟩
 by_cases e : j = i
 ·
  subst e
  rw [hi] at hy
  injection hy with hy
  rw [← hy] at hky
  exact absurd hk hky
 ·
  exact h.2 j y (by omega) hy hky
theorem Ns.Nums.put {ns : List Nd} {i : Nat} {nums : List Nat} (h : Ns.Nums ns i nums) (h0 : 0 < i) {x : Nd} (hi : ns[i]? = some x) (hk : x.kind ≠ 2) : Ns.Nums ns (i + 1) (nums.set i (Ns.many ns i + 1)) := by
 have hl := (List.getElem?_eq_some_iff.1 hi).1
 refine ⟨by rw [List.length_set]; exact h.1, fun j y hj hy hky => ?_⟩
 by_cases e : j = i
 ·
  subst e
  rw [List.getElem?_set_self (by rw [h.1]; exact hl), Ns.num_at ns h0 hi hk]
 ·
  rw [List.getElem?_set_ne (fun q => e q.symm)]
  exact h.2 j y (by omega) hy hky
theorem Ns.skel_step (ns : List Nd) {i : Nat} (h0 : 0 < i) {x : Nd} (hi : ns[i]? = some x) (hp : x.parent.toNat < i) : Sk.skel (ns.take (i + 1)) = Sk.skel (ns.take i) ++ (if x.kind = 2 then [] else Sk.line (Sk.num ns x.parent.toNat) x) := by
 have hl := (List.getElem?_eq_some_iff.1 hi).1
 have hx : ns[i] = x := (List.getElem?_eq_some_iff.1 hi).2
 rw [List.take_succ_eq_append_getElem hl, hx, Sk.skel_snoc (by rw [List.length_take]; omega)]
 congr 1
 unfold Sk.one
 have e : Sk.num (ns.take i) x.parent.toNat = Sk.num ns x.parent.toNat := by
  unfold Sk.num
  rw [List.take_take, Nat.min_eq_left (by omega)]
 rw [e]
theorem Ns.skel_one (ns : List Nd) : Sk.skel (ns.take 1) = [] := by
 cases ns with
 | nil => rfl
 | cons a l => rfl
theorem Ns.linesFrom_take : ∀ (l pre : List Nd) (i : Nat), (Sk.linesFrom pre (l.take i)).length ≤ (Sk.linesFrom pre l).length
 | [], _, i => by rw [List.take_nil]; exact Nat.le_refl _
 | x :: l, pre, 0 => by rw [List.take_zero]; exact Nat.zero_le _
 | x :: l, pre, i + 1 => by
  show (Sk.one pre x ++ Sk.linesFrom (pre ++ [x]) (l.take i)).length ≤ (Sk.one pre x ++ Sk.linesFrom (pre ++ [x]) l).length
  rw [List.length_append, List.length_append]
  have := Ns.linesFrom_take l (pre ++ [x]) i
  omega
theorem Ns.skel_le (ns : List Nd) (i : Nat) : (Sk.skel (ns.take i)).length ≤ (Sk.skel ns).length := by
 cases ns with
 | nil => rw [List.take_nil]; exact Nat.le_refl _
 | cons a l =>
  cases i with
  | zero => exact Nat.zero_le _
  | succ i => exact Ns.linesFrom_take l [a] i
def Pk.nums (ns : List Nd) (i : Nat) : List Nat := (List.range i).map (Sk.num ns)
theorem Pk.nums_succ (ns : List Nd) (i : Nat) : Pk.nums ns (i + 1) = Pk.nums ns i ++ [Sk.num ns i] := by
 unfold Pk.nums
 rw [List.range_succ, List.map_append]
 rfl
theorem Pk.nums_len (ns : List Nd) (i : Nat) : (Pk.nums ns i).length = i := by simp [Pk.nums]
theorem Pk.nums_get (ns : List Nd) (i p : Nat) (h : p < i) : (Pk.nums ns i)[p]? = some (Sk.num ns p) := by
 unfold Pk.nums
 rw [List.getElem?_map, List.getElem?_range h]
 rfl
theorem Pk.many_zero (ns : List Nd) : Ns.many ns 0 = 0 := rfl
structure Pk.Mem (w : World) (bt bl bn : Nat) (T : Nat) (nums : List Nat) (out : List UInt8) (u : World) (lv nv : Value) : Prop where
 bel : Below w.heap.size w u
 ge : w.heap.size ≤ bt ∧ w.heap.size ≤ bl ∧ w.heap.size ≤ bn
 t : u.heap[bt]? = some (.cells #[.int .i64 (T : Int)] 3 (0, 0))
 l : u.heap[bl]? = some (.cells #[lv] 43 (0, 0))
 n : u.heap[bn]? = some (.cells #[nv] 52 (0, 0))
 ol : u.ownsRow w.heap.size 5 1 lv out.length (Lib.byteCells out)
 om : u.ownsRow w.heap.size 3 1 nv nums.length (Um.ints nums)
 nt : nv.ownBlock ≠ some bt
theorem Pk.ne_of_type {u : World} {a b : Nat} {x y : Array Value} {s t : TypeId} (ha : u.heap[a]? = some (.cells x s (0, 0))) (hb : u.heap[b]? = some (.cells y t (0, 0))) (h : s ≠ t) : a ≠ b := by
 rintro rfl
 rw [ha] at hb
 injection hb with hb
 injection hb with _ hb
 exact h hb
theorem Pk.own_ne {u : World} {base n k : Nat} {e t : TypeId} {v : Value} {xs : List Value} {x : Array Value} (h : u.ownsRow base e 1 v n xs) (hk : u.heap[k]? = some (.cells x t (0, 0))) (hte : t ≠ e) : v.ownBlock ≠ some k := by
 intro q
 obtain ⟨c, fz, hc⟩ := Lib.ownsRow_kind h k q
 rw [hk] at hc
 injection hc with hc
 injection hc with _ hc
 exact hte hc
theorem Pk.Mem.past {w : World} {bt bl bn T : Nat} {nums : List Nat} {out : List UInt8} {u u' : World} {lv nv : Value} (h : Pk.Mem w bt bl bn T nums out u lv nv) (hb : Below u.heap.size u u') : Pk.Mem w bt bl bn T nums out u' lv nv :=
 ⟨h.bel.trans (hb.mono h.bel.size), h.ge, (hb.block _ (lt_of_block h.t)).trans h.t, (hb.block _ (lt_of_block h.l)).trans h.l, (hb.block _ (lt_of_block h.n)).trans h.n, Rm.own_on h.ol fun k hk => hb.block k (h.ol.lt k hk).2, Rm.own_on h.om fun k hk => hb.block k (h.om.lt k hk).2, h.nt⟩
theorem Pk.Mem.told {w : World} {bt bl bn T : Nat} {nums : List Nat} {out : List UInt8} {u : World} {lv nv : Value} (h : Pk.Mem w bt bl bn T nums out u lv nv) (T' : Nat) : Pk.Mem w bt bl bn T' nums out (u.setCell ⟨bt, 0, none⟩ (.int .i64 (T' : Int))) lv nv := by
 have hne : ∀ k, k ≠ bt → (u.setCell ⟨bt, 0, none⟩ (.int .i64 (T' : Int))).heap[k]? = u.heap[k]? := fun k hk => Below.heap_setCell _ _ _ _ hk
 exact ⟨h.bel.setCell h.ge.1 _, h.ge, one_setCell h.t, (hne _ (Pk.ne_of_type h.l h.t (by decide))).trans h.l, (hne _ (Pk.ne_of_type h.n h.t (by decide))).trans h.n, Rm.own_on h.ol fun k hk => hne k (fun e => Pk.own_ne h.ol h.t (by decide) (by rw [← e]; exact hk)), Rm.own_on h.om fun k hk => hne k (fun e => h.nt (by rw [← e]; exact hk)), h.nt⟩
theorem Pk.Mem.line {w : World} {bt bl bn T : Nat} {nums : List Nat} {out out' : List UInt8} {u u' : World} {lv nv lv' : Value} (h : Pk.Mem w bt bl bn T nums out u lv nv) (ha : Pl.At w.heap.size u u' lv' out') : Pk.Mem w bt bl bn T nums out' (u'.setCell ⟨bl, 0, none⟩ lv') lv' nv := by
 have t1 := ha.cell h.t (by decide)
 have l1 := ha.cell h.l (by decide)
 have n1 := ha.cell h.n (by decide)
 have o1 : u'.ownsRow w.heap.size 3 1 nv nums.length (Um.ints nums) := by
  refine Rm.own_on h.om fun k hk => ?_
  obtain ⟨c, fz, hc⟩ := Lib.ownsRow_kind h.om k hk
  rw [hc]
  exact ha.ok k _ hc (fun e => by cases e) (fun c' fz' e => by injection e with _ e2; exact absurd e2 (by decide))
 have hne : ∀ k, k ≠ bl → (u'.setCell ⟨bl, 0, none⟩ lv').heap[k]? = u'.heap[k]? := fun k hk => Below.heap_setCell _ _ _ _ hk
 exact ⟨(h.bel.trans ha.bel).setCell h.ge.2.1 _, h.ge, (hne _ (Pk.ne_of_type t1 l1 (by decide))).trans t1, one_setCell l1, (hne _ (Pk.ne_of_type n1 l1 (by decide))).trans n1, Rm.own_on ha.own fun k hk => hne k (fun e => Pk.own_ne ha.own l1 (by decide) (by rw [← e]; exact hk)), Rm.own_on o1 fun k hk => hne k (fun e => Pk.own_ne o1 l1 (by decide) (by rw [← e]; exact hk)), h.nt⟩
theorem Pk.Mem.num {w : World} {bt bl bn T : Nat} {nums nums' : List Nat} {out : List UInt8} {u u1 u' : World} {lv nv nv' : Value} (h : Pk.Mem w bt bl bn T nums out u lv nv) (hq : Below u.heap.size u u1) (hg : u1.grownBy u' nv.ownBlock) (hf : nv'.ownBlock = nv.ownBlock ∨ nv'.ownBlock = some u1.heap.size)
  (R : u'.ownsRow w.heap.size 3 1 nv' nums'.length (Um.ints nums')) : Pk.Mem w bt bl bn T nums' out (u'.setCell ⟨bn, 0, none⟩ nv') lv nv' := by
 have h1 := h.past hq
 have kp : ∀ k, k < u1.heap.size → nv.ownBlock ≠ some k → u'.heap[k]? = u1.heap[k]? := fun k hk hn => hg.block k hk (fun e => hn e.symm)
 have t1 := (kp _ (lt_of_block h1.t) h.nt).trans h1.t
 have l1 := (kp _ (lt_of_block h1.l) (Pk.own_ne h1.om h1.l (by decide))).trans h1.l
 have n1 := (kp _ (lt_of_block h1.n) (Pk.own_ne h1.om h1.n (by decide))).trans h1.n
 have o1 : u'.ownsRow w.heap.size 5 1 lv out.length (Lib.byteCells out) := Rm.own_on h1.ol fun k hk => kp k (h1.ol.lt k hk).2 (fun e => by
  obtain ⟨c, fz, hc⟩ := Lib.ownsRow_kind h1.ol k hk
  obtain ⟨c', fz', hc'⟩ := Lib.ownsRow_kind h1.om k e
  rw [hc] at hc'
  injection hc' with hc'
  injection hc' with _ hc'
  exact absurd hc' (by decide))
 have hne : ∀ k, k ≠ bn → (u'.setCell ⟨bn, 0, none⟩ nv').heap[k]? = u'.heap[k]? := fun k hk => Below.heap_setCell _ _ _ _ hk
 have nt' : nv'.ownBlock ≠ some bt := by
  rcases hf with e | e
  ·
   rw [e]; exact h.nt
  ·
   rw [e]
   intro q
   injection q with q
   exact absurd (lt_of_block h1.t) (by omega)
 exact ⟨(h1.bel.grown hg h1.bel.size (fun k hk => (h.om.lt k hk).1)).setCell h.ge.2.2 _, h.ge, (hne _ (Pk.ne_of_type t1 n1 (by decide))).trans t1, (hne _ (Pk.ne_of_type l1 n1 (by decide))).trans l1, one_setCell n1, Rm.own_on o1 fun k hk => hne k (fun e => Pk.own_ne o1 n1 (by decide) (by rw [← e]; exact hk)), Rm.own_on R fun k hk => hne k (fun e => Pk.own_ne R n1 (by decide) (by rw [← e]; exact hk)), nt'⟩
def Pk.Inv (w : World) (bt bl bn : Nat) (ns : List Nd) (i : Nat) (u : World) : Prop := ∃ lv nv, Pk.Mem w bt bl bn (Ns.many ns i) (Pk.nums ns i) (Sk.skel (ns.take i)) u lv nv
theorem Pk.one_int (W : World) (c : Int) (g1 : Nat) (h : g1 = W.heap.size) : ∀ j u, [Value.int .i64 c][j]? = some u → (W.alloc (.cells #[.int .i64 c] 3)).cell? ⟨g1, j, none⟩ = some u := by
 subst h
 intro j u hj
 unfold World.cell?
 rw [show (W.alloc (.cells #[.int .i64 c] 3)).heap[W.heap.size]? = some _ from heap_alloc_new W _]
 simpa using hj
theorem Pk.skel_same (ns : List Nd) (i : Nat) (x : Nd) (hi : ns[i]? = some x) (h : i = 0 ∨ (0 < i ∧ x.parent.toNat < i ∧ x.kind = 2)) : Sk.skel (ns.take (i + 1)) = Sk.skel (ns.take i) := by
 rcases h with rfl | ⟨h0, hp, hk⟩
 ·
  rw [Ns.skel_one]; rfl
 ·
  rw [Ns.skel_step ns h0 hi hp, if_pos hk, List.append_nil]
theorem Pk.many_same (ns : List Nd) (i : Nat) (x : Nd) (hi : ns[i]? = some x) (h : i = 0 ∨ (0 < i ∧ x.parent.toNat < i ∧ x.kind = 2)) : Ns.many ns (i + 1) = Ns.many ns i := by
 rcases h with rfl | ⟨h0, hp, hk⟩
 ·
  rw [Ns.many_one]; rfl
 ·
  rw [Ns.many_step ns h0 hi, if_pos hk, Nat.add_zero]
set_option maxRecDepth 100000 in
set_option maxHeartbeats 4000000 in
theorem Pk.see (ns : List Nd) (i : Nat) (x : Nd) (aa : Option Addr) (ad : Nat) (w0 : World) (bt bl bn : Nat) (u : World) (hi : ns[i]? = some x) (hall : ∀ j y, j ≤ i → ns[j]? = some y → Sk.At ns j y) (hat : Ak.Lies u (· < w0.heap.size) x.attrs (.slice aa x.attrs.length ad)) (hI : Pk.Inv w0 bt bl bn ns i u)
  (hs : ns.length * 8 ≤ 140737488355328) (hz : (Sk.skel ns).length + 32 ≤ 140737488355328) (htab : Lib.TabIs Tryz.prog w0 "internal/strconv.uint64pow10" .u64 Lib.pow10Tab) :
  Calls Tryz.prog 24 #[.agg #[.int .i64 x.kind, .string x.name, .string x.text, .slice aa x.attrs.length ad, .int .i64 x.parent], .pointer (some ⟨bt, 0, none⟩), .pointer (some ⟨bl, 0, none⟩), .pointer (some ⟨bn, 0, none⟩)] u fun e u' => e = .returned (.tuple #[]) ∧ Pk.Inv w0 bt bl bn ns (i + 1) u' := by
 obtain ⟨lv, nv, hM0⟩ := hI
 have hil : i < ns.length := (List.getElem?_eq_some_iff.1 hi).1
 obtain ⟨W, hW⟩ : ∃ W, u.alloc (.cells #[.int .i64 x.kind, .string x.name, .string x.text, .slice aa x.attrs.length ad, .int .i64 x.parent] 48) = W := ⟨_, rfl⟩
 have hbW : Below u.heap.size u W := by rw [← hW]; exact (Below.refl _ _).alloc (Nat.le_refl _) _
 have BX : W.heap[u.heap.size]? = some (.cells #[.int .i64 x.kind, .string x.name, .string x.text, .slice aa x.attrs.length ad, .int .i64 x.parent] 48 (0, 0)) := by rw [← hW]; exact heap_alloc_new u _
 have hM := hM0.past hbW
 have hAW : Ak.Lies W (· < w0.heap.size) x.attrs (.slice aa x.attrs.length ad) := hat.on fun k hk => ⟨hk, hbW.block k (Nat.lt_of_lt_of_le hk hM0.bel.size)⟩
 have hAt := hall i x (Nat.le_refl _) hi
 have hmle := Ns.many_le ns i
 have b5 := Pl.five BX
 have k0 := b5 0 _ rfl
 have HN1 : Hid (i + 1 ≤ maxLen ∧ (i + 1) * 8 ≤ 140737488355328) := ⟨by unfold maxLen; omega, by omega⟩
 have HNS : Hid (Pk.nums ns (i + 1) = Pk.nums ns i ++ [Ns.many ns (i + 1)]) := Pk.nums_succ ns i
 have hnl := Pk.nums_len ns i
 have HIX := Lib.hid hi
 have HALL := Lib.hid hall
 clear hM0 hat hbW hi hall
 by_cases hk : x.kind = 1 ∨ x.kind = 3
 ·
  obtain ⟨h0, p, hpe, hpi, hpk⟩ : 0 < i ∧ ∃ p : Nat, x.parent = (p : Int) ∧ p < i ∧ x.kind ≠ 2 := by
   rcases hAt with q | q
   ·
    exact absurd q.2.1 (by omega)
   ·
    exact ⟨q.1, x.parent.toNat, by have := q.2.1; omega, by have := q.2.1; have := q.2.2.1; omega, by omega⟩
  have HMS := Ns.many_step ns h0 HIX.out
  rw [if_neg hpk] at HMS
  have HST := Ns.skel_step ns h0 HIX.out (by rw [hpe]; exact hpi)
  rw [if_neg hpk, hpe, Int.toNat_natCast] at HST
  have hw1 : IntKind.i64.wrap ((Ns.many ns i : Int) + 1) = (Ns.many ns i : Int) + 1 := by rw [IntKind.wrap_i64]; omega
  have c1 := cell_of_one hM.t
  have f1 := free_of_one hM.t
  have HM2 := hM.told (Ns.many ns i + 1)
  have gW : u.heap.size ≠ bt := Pk.ne_of_type BX hM.t (by decide)
  have BX2 : (W.setCell ⟨bt, 0, none⟩ (.int .i64 ((Ns.many ns i + 1 : Nat) : Int))).heap[u.heap.size]? = some (.cells #[.int .i64 x.kind, .string x.name, .string x.text, .slice aa x.attrs.length ad, .int .i64 x.parent] 48 (0, 0)) := (Below.heap_setCell _ _ _ _ gW).trans BX
  have hAW2 : Ak.Lies (W.setCell ⟨bt, 0, none⟩ (.int .i64 ((Ns.many ns i + 1 : Nat) : Int))) (· < w0.heap.size) x.attrs (.slice aa x.attrs.length ad) := hAW.on fun k hk => ⟨hk, Below.heap_setCell _ _ _ _ (fun e => by have h1 : k = bt := e; have h2 := hM.ge.1; omega)⟩
  obtain ⟨V, hV⟩ : ∃ V, W.setCell ⟨bt, 0, none⟩ (.int .i64 ((Ns.many ns i : Int) + 1)) = V := ⟨_, rfl⟩
  rw [Int.natCast_add, show ((1 : Nat) : Int) = 1 from rfl, hV] at HM2 BX2 hAW2
  have HMV := Lib.hid HM2
  have hom := HM2.om
  rw [hnl] at hom
  obtain ⟨ng, nd, rfl, hnd, _⟩ := Um.form1 hom h0
  have cn := cell_of_one HM2.n
  have cl := cell_of_one HM2.l
  have fl := free_of_one HM2.l
  have cp : V.cell? ⟨ng, p, none⟩ = some (.int .i64 (Sk.num ns p : Int)) := by
   rw [hom.cellAt p (by omega)]
   exact Um.ints_get (Pk.nums_get ns i p hpi)
  have v5 := Pl.five BX2
  have v0 := v5 0 _ rfl
  have v1 := v5 1 _ rfl
  have v2 := v5 2 _ rfl
  have v3 := v5 3 _ rfl
  have v4 := v5 4 _ rfl
  rw [hpe] at v4
  have HPE := Lib.hid hpe
  have hnum : Sk.num ns p ≤ 9223372036854775807 := by have := Ns.num_le ns p; omega
  have HLZ : Hid ((Sk.skel (ns.take i) ++ Sk.line (Sk.num ns p) x).length + 32 ≤ 140737488355328) := by
   have h1 := Ns.skel_le ns (i + 1)
   rw [HST] at h1
   unfold Hid
   omega
  have al := Pq.appendLine (Sk.skel (ns.take i)) lv (Sk.num ns p) x aa ad w0 V.drew HM2.bel.drew HM2.ol hAW2 hnum HLZ.out htab
  rw [hpe] at al
  have HST2 := Lib.hid HST
  have HMS2 := Lib.hid HMS
  have n1 : bl ≠ bn := Pk.ne_of_type HM2.l HM2.n (by decide)
  have n2 : bn ≠ bl := fun e => n1 e.symm
  have n3 : bl ≠ u.heap.size := Pk.ne_of_type HM2.l BX2 (by decide)
  have n4 : u.heap.size ≠ bl := fun e => n3 e.symm
  have n5 : ng ≠ bl := fun e => Pk.own_ne HM2.om HM2.l (by decide) (by rw [← e]; rfl)
  have n6 : bl ≠ ng := fun e => n5 e.symm
  obtain ⟨la, ld, rfl⟩ := Um.form HM2.ol
  generalize HSK : Sk.skel (ns.take i) = SK at *
  have ngt : V.heap[ng]? = some (.cells (Um.ints (Pk.nums ns i)).toArray 3 (0, 0)) ∨ True := .inr trivial
  clear ngt hom hnum HLZ HST HMS hAW hAW2 v5 b5 hAt hs hz htab gW hmle HALL
  have t13 : (x.kind == 1) = true ∨ (x.kind == 1) = false ∧ (x.kind == 3) = true := by
   rcases hk with q | q
   ·
    exact .inl (by rw [q]; rfl)
   ·
    exact .inr ⟨by rw [q]; rfl, by rw [q]; rfl⟩
  clear hk hpk hpe
  rcases t13 with t1 | ⟨t1, t3⟩
  all_goals
   go_enter Tryz.func24, Tryz.ntmps24
   go_upto_region 3 with fail
   try rw [hW]
   try rw [hV]
   clear hW hV c1 f1 k0 BX hM
   generalize u.heap.size = g at *
   refine wp_region_held_drew (S := (fun r => r.cell? ⟨bn, 0, none⟩ = some (.slice (some ⟨ng, 0, none⟩) i nd) ∧ r.cell? ⟨ng, p, none⟩ = some (.int .i64 (Sk.num ns p : Int)) ∧ r.cell? ⟨g, 0, none⟩ = some (.int .i64 x.kind) ∧ r.cell? ⟨g, 1, none⟩ = some (.string x.name) ∧ r.cell? ⟨g, 2, none⟩ = some (.string x.text) ∧ r.cell? ⟨g, 3, none⟩ = some (.slice aa x.attrs.length ad) ∧ r.cell? ⟨g, 4, none⟩ = some (.int .i64 (p : Int)))) (by kernel_rfl) (by go_keep) (fun hHeld => ?_)
   refine wpAnyH_take (i := 1) (v := .slice (some ⟨ng, 0, none⟩) i nd) rfl (by kernel_rfl) (by kernel_rfl) (by kernel_rfl) (fun _ _ _ h => h) (Or.inl ⟨by rfl, ?_⟩) (by assumption) ?_
   ·
    intro w9 hSw
    go_simp
   simp only [Act.put]
   refine wpAnyH_take (i := 2) (v := .pointer (some ⟨g, 4, none⟩)) rfl (by kernel_rfl) (by kernel_rfl) (by kernel_rfl) (fun _ _ _ h => h) (Or.inl ⟨by rfl, ?_⟩) (by assumption) ?_
   ·
    intro w9 hSw
    go_simp
   simp only [Act.put]
   refine wpAnyH_take (i := 3) (v := .int .i64 (p : Int)) rfl (by kernel_rfl) (by kernel_rfl) (by kernel_rfl) (fun _ _ _ h => h) (Or.inl ⟨by rfl, ?_⟩) (by assumption) ?_
   ·
    intro w9 hSw
    go_simp
   simp only [Act.put]
   refine wpAnyH_take (i := 4) (v := .pointer (some ⟨ng, p, none⟩)) rfl (by kernel_rfl) (by kernel_rfl) (by kernel_rfl) (fun _ _ _ h => h) (Or.inl ⟨by rfl, ?_⟩) (by assumption) ?_
   ·
    intro w9 hSw
    go_simp
   simp only [Act.put]
   refine wpAnyH_take (i := 5) (v := .int .i64 (Sk.num ns p : Int)) rfl (by kernel_rfl) (by kernel_rfl) (by kernel_rfl) (fun _ _ _ h => h) (Or.inl ⟨by rfl, ?_⟩) (by assumption) ?_
   ·
    intro w9 hSw
    go_simp
   simp only [Act.put]
   refine wpAnyH_take (i := 6) (v := .agg #[.int .i64 x.kind, .string x.name, .string x.text, .slice aa x.attrs.length ad, .int .i64 (p : Int)]) rfl (by kernel_rfl) (by kernel_rfl) (by kernel_rfl) (fun _ _ _ h => h) (Or.inl ⟨by rfl, ?_⟩) (by assumption) ?_
   ·
    intro w9 hSw
    go_simp
   simp only [Act.put]
   refine wpAnyH_ready (rs := [0]) (by kernel_rfl) (by simp) ?_
   refine AllReadyH.cons rfl (fun K hK => ?_) AllReadyH.nil
   go_simp
   refine hK.out _ _ (by go_keep) (fun hHeld => ?_)
   clear hK K
   refine wpAnyH_ready (rs := [7]) (by kernel_rfl) (by simp) ?_
   refine AllReadyH.cons rfl (fun K hK => ?_) AllReadyH.nil
   go_simp
   go_wp2_with (go_at_call 25; refine al.mono ?_; rintro e w3 ⟨lv3, rfl, hA3⟩; clear al; obtain ⟨XO, hXO⟩ : ∃ O, O = SK ++ Sk.line (Sk.num ns p) x := ⟨_, rfl⟩; rw [← hXO] at hA3; have HXO := Lib.hid hXO; clear hXO; have hL : Pk.Mem w0 bt bl bn (Ns.many ns i + 1) (Pk.nums ns i) XO (w3.setCell ⟨bl, 0, none⟩ lv3) lv3 (.slice (some ⟨ng, 0, none⟩) i nd) := HMV.out.line ⟨hA3.own, (Below.refl _ V).drew.trans hA3.bel, hA3.ok⟩; have z5 := Pl.five (hA3.cell (show V.drew.heap[g]? = _ from BX2) (by decide)); have z0 := z5 0 _ rfl; have z1 := z5 1 _ rfl; have z2 := z5 2 _ rfl; have z3 := z5 3 _ rfl; have z4 := z5 4 _ rfl; rw [HPE.out] at z4; have zn := cell_of_one (hA3.cell (show V.drew.heap[bn]? = _ from HMV.out.n) (by decide)); have zl := cell_of_one (hA3.cell (show V.drew.heap[bl]? = _ from HMV.out.l) (by decide)); have zf := free_of_one (hA3.cell (show V.drew.heap[bl]? = _ from HMV.out.l) (by decide)); obtain ⟨c8, fz8, hc8⟩ := Lib.ownsRow_kind HMV.out.om ng rfl; have zp : w3.cell? ⟨ng, p, none⟩ = some (.int .i64 (Sk.num ns p : Int)) := (World.cell?_of_block (a := ⟨ng, p, none⟩) ((hA3.ok ng _ (show V.drew.heap[ng]? = _ from hc8) (fun e => by cases e) (fun c fz e => by injection e with _ e2; exact absurd e2 (by decide))).trans hc8.symm)).trans cp; obtain ⟨l3, d3, rfl⟩ := Um.form hA3.own; have HL3 := Lib.hid hL; clear hA3 z5 hc8 hL)
   refine hK.out _ _ (by go_keep) (fun hHeld => ?_)
   clear hK K
   refine wpAnyH_ready (rs := [8]) (by kernel_rfl) (by simp) ?_
   refine AllReadyH.cons rfl (fun K hK => ?_) AllReadyH.nil
   go_simp
   refine hK.out _ _ (by go_keep) (fun hHeld => ?_)
   clear hK K
   refine wpAnyH_done (by kernel_rfl) ?_ _
   have hX := HL3.out
   have e1 : Ns.many ns i + 1 = Ns.many ns (i + 1) := HMS2.out.symm
   have e2 : XO = Sk.skel (ns.take (i + 1)) := HXO.out.trans HST2.out.symm
   rw [e1] at hX
   clear e1 HL3 HMV cn cl fl cp v0 v1 v2 v3 v4 zn zl zf zp z0 z1 z2 z3 z4 HXO
   obtain ⟨X, hXE⟩ : ∃ X, w3.setCell ⟨bl, 0, none⟩ (.slice l3 XO.length d3) = X := ⟨_, rfl⟩
   rw [hXE] at hX
   rw [hXE]
   have c1 := cell_of_one hX.t
   have c3 := cell_of_one hX.n
   have hb9 := hX.bel.size
   have hom := hX.om
   rw [hnl] at hom
   have HOM := Lib.hid hom
   have HX := Lib.hid hX
   clear hX hom
   generalize HT : Ns.many ns (i + 1) = T at *
   go_wp2_with (at_builtin; refine Ro.push rfl _ _ 52 3 1 8 _ rfl Tryz.underlying52 Um.infoI rfl (by decide) _ rfl (HOM.out.alloc _) X.heap.size [.int .i64 (T : Int)] rfl (Pk.one_int _ _ _ rfl) rfl (by simp [Value.oneCell']) HN1.out.1 HN1.out.2 (by simp; omega) ?_; intro v5 w5 R5 hg5 hf5; have hq5 : Below X.heap.size X (X.alloc (.cells #[.int .i64 (T : Int)] 3)) := (Below.refl _ _).alloc (Nat.le_refl _) _; have R6 : w5.ownsRow w0.heap.size 3 1 v5 (Pk.nums ns (i + 1)).length (Um.ints (Pk.nums ns (i + 1))) := (by rw [HNS.out]; unfold Um.ints; rw [List.map_append, List.length_append, hnl]; exact R5); have hN5 := HX.out.num hq5 hg5 hf5 R6; have B5 : w5.heap[bn]? = some (.cells #[.slice (some ⟨ng, 0, none⟩) i nd] 52 (0, 0)) := ((hg5.block bn (Nat.lt_of_lt_of_le (lt_of_block HX.out.n) hq5.size) (fun e => Pk.own_ne HX.out.om HX.out.n (by decide) e.symm)).trans (hq5.block bn (lt_of_block HX.out.n))).trans HX.out.n; obtain ⟨a5, d5, rfl⟩ := Um.form R5; have y3 := cell_of_one B5; have f3 := free_of_one B5; have HN5 := Lib.hid hN5; clear R5 R6 hg5 hf5 hq5 hN5 B5)
   go_end0
   have hE := HN5.out
   have e3 := e2
   rw [← HT] at hE
   refine ⟨rfl, .slice l3 XO.length d3, .slice a5 (i + 1) d5, ?_⟩
   rw [← e3]
   exact hE
 ·
  have hc : i = 0 ∨ (0 < i ∧ x.parent.toNat < i ∧ x.kind = 2) := by
   rcases hAt with q | q
   ·
    exact .inl q.1
   ·
    obtain ⟨q0, q1, q2, _, q4⟩ := q
    refine .inr ⟨q0, by omega, ?_⟩
    rcases q4 with q4 | q4
    ·
     exact absurd (.inl q4.1) hk
    ·
     rcases q4.1 with q5 | q5
     ·
      exact q5
     ·
      exact absurd (.inr q5) hk
  have e1 := (Pk.many_same ns i x HIX.out hc).symm
  have e2 := (Pk.skel_same ns i x HIX.out hc).symm
  have t1 : (x.kind == 1) = false := beq_eq_false_iff_ne.2 (fun q => hk (.inl q))
  have t3 : (x.kind == 3) = false := beq_eq_false_iff_ne.2 (fun q => hk (.inr q))
  have hX := hM
  rw [e1] at hX
  have hom0 := hX.om
  rw [hnl] at hom0
  obtain ⟨na, nd, rfl⟩ := Um.form hom0
  clear e1 hc hk hAt hom0 hM hAW hz htab b5
  go_enter Tryz.func24, Tryz.ntmps24
  go_upto_region 4 with fail
  try rw [hW]
  clear hW BX k0
  generalize u.heap.size = g at *
  generalize HXO : Sk.skel (ns.take i) = XO at *
  generalize W = X at *
  have c1 := cell_of_one hX.t
  have c3 := cell_of_one hX.n
  have hb9 := hX.bel.size
  have hom := hX.om
  rw [hnl] at hom
  have HOM := Lib.hid hom
  have HX := Lib.hid hX
  clear hX hom
  generalize HT : Ns.many ns (i + 1) = T at *
  go_wp2_with (at_builtin; refine Ro.push rfl _ _ 52 3 1 8 _ rfl Tryz.underlying52 Um.infoI rfl (by decide) _ rfl (HOM.out.alloc _) X.heap.size [.int .i64 (T : Int)] rfl (Pk.one_int _ _ _ rfl) rfl (by simp [Value.oneCell']) HN1.out.1 HN1.out.2 (by simp; omega) ?_; intro v5 w5 R5 hg5 hf5; have hq5 : Below X.heap.size X (X.alloc (.cells #[.int .i64 (T : Int)] 3)) := (Below.refl _ _).alloc (Nat.le_refl _) _; have R6 : w5.ownsRow w0.heap.size 3 1 v5 (Pk.nums ns (i + 1)).length (Um.ints (Pk.nums ns (i + 1))) := (by rw [HNS.out]; unfold Um.ints; rw [List.map_append, List.length_append, hnl]; exact R5); have hN5 := HX.out.num hq5 hg5 hf5 R6; have B5 : w5.heap[bn]? = some (.cells #[.slice na i nd] 52 (0, 0)) := ((hg5.block bn (Nat.lt_of_lt_of_le (lt_of_block HX.out.n) hq5.size) (fun e => Pk.own_ne HX.out.om HX.out.n (by decide) e.symm)).trans (hq5.block bn (lt_of_block HX.out.n))).trans HX.out.n; obtain ⟨a5, d5, rfl⟩ := Um.form R5; have y3 := cell_of_one B5; have f3 := free_of_one B5; have HN5 := Lib.hid hN5; clear R5 R6 hg5 hf5 hq5 hN5 B5)
  go_end0
  have hE := HN5.out
  have e3 := e2
  rw [← HT] at hE
  refine ⟨rfl, lv, .slice a5 (i + 1) d5, ?_⟩
  rw [← e3]
  exact hE
end Go.Proofs.YtblpkjlodncpeaaGreatDoor

/-
  SMALL THINGS for the walks of the layers of templates: rows that grow, blocks, texts.
-/
import Derived.Test.YtjppobeomocgbaaGreatDoorProg
import Derived.WalkKit
import Derived.OwnWalk
import Derived.Below
import Derived.BigCall
import Derived.BigQuiet
import Derived.KernelRfl
import Derived.Lib.Hide
import Derived.Lib.Strings
import Derived.Lib.UnsafeStr
import Derived.Laws.AppendOwn
import Derived.Laws.OwnMore
import Derived.Laws.IdiomStrings
import Derived.Deep.RegionLaw
import Derived.Test.YtjppobeomocgbaaGreatDoorCards
import Derived.Test.YtjppobeomocgbaaGreatDoorTie
import Derived.ProofKit
import Derived.OpenShut
import Derived.ShutString
import Derived.Shelf.Vars
import Derived.SizedLaws
import Derived.LaidLaws
import Derived.Deep.DeepHandedRow
import Derived.Lib.LaidU8
import Derived.PinnedBridge
namespace Go.Proofs.YtjppobeomocgbaaGreatDoor
open Go.RowKit
theorem Wk.len_data (s : ByteArray) : s.data.toList.length = s.size := by rw [Array.length_toList]; rfl
theorem Wk.rest_data (s : ByteArray) (k : Nat) : (s.extract k s.size).data.toList = s.data.toList.drop k := by
  rw [Lib.extract_data, List.take_of_length_le]
  rw [List.length_drop, Array.length_toList]
  exact Nat.le_refl _
theorem Wk.below_step {w wr w1 : World} (h : Below w.heap.size w wr) (h1 : Below wr.heap.size wr w1) : Below w.heap.size w w1 := h.trans (h1.mono h.size)
theorem Wk.part_data (s : ByteArray) (k m : Nat) : (s.extract k (k + m)).data.toList = (s.data.toList.drop k).take m := by
  rw [Lib.extract_data, Nat.add_sub_cancel_left]
/-- a text from one place to another -/
theorem Wk.run_cut (w : World) (s : ByteArray) (l h : Int) (h0 : 0 ≤ l) (h1 : l ≤ h) (h2 : h ≤ s.size) :
    (Instr.slice 9 (.string s) (some (.int .i64 l)) (some (.int .i64 h)) none).run Tryz.prog w = .ok (.string (s.extract l.toNat h.toNat)) w := by
  have eh : (h.toNat : Int) = h := Int.toNat_of_nonneg (by omega)
  simp [Instr.slice, run_underlying Tryz.underlying9, Instr.sliceBounds, run_sliceBound, h0, h1, h2, eh, (by omega : 0 ≤ h)]
theorem Tp.eq_true {c : UInt8} {d : UInt8} (h : c = d) : ((c.toNat : Int) == (d.toNat : Int)) = true := by rw [h]; simp
theorem Tp.eq_false {c : UInt8} {d : UInt8} (h : ¬ c = d) : ((c.toNat : Int) == (d.toNat : Int)) = false := beq_eq_false_iff_ne.2 (fun e => h (UInt8.toNat_inj.1 (by omega)))
structure Vm.Still (p : Prop) : Prop where
  out : p
/-- A PLACE AT WHICH THE WALK STANDS STILL: ahead of the operation that fills this slot -/
theorem Vm.stop (n : Nat) {P : Program} {ops : Array Oper} {Q : Exit → Act → World → Prop} {op : Op} {ty : TypeId} {pos : String} {after : Array Edge} {gd : Option (Nat × Bool)} {rest : List Oper} {a : Act} {w : World} (h : Vm.Still (wpList P ops Q ({ dst := some n, op := op, type := ty, pos := pos, after := after, guard := gd } :: rest) a w)) : wpList P ops Q ({ dst := some n, op := op, type := ty, pos := pos, after := after, guard := gd } :: rest) a w := h.out
/-- a cell that was there is as it was -/
theorem Tp.keep {W w1 : World} (hb : Below W.heap.size W w1) {b o : Nat} {v : Value} (h : W.cell? ⟨b, o, none⟩ = some v) : w1.cell? ⟨b, o, none⟩ = some v :=
  (hb.cell (p := ⟨b, o, none⟩) (World.block_lt_of_cell? _ _ h)).trans h
theorem Ro.add (b o j : Nat) : (⟨b, o, none⟩ : Addr).add j = ⟨b, o + j, none⟩ := by unfold Addr.add; split <;> simp_all
/-- where the row lies behind an 'append': where it lay, or in a new block -/
theorem Ro.fresh {P : Program} {w : World} (base : Nat) (t ty e : TypeId) (i : TypeInfo) (z : Value) (size bytes : Nat) (ht : P.underlying t = some (.slice e)) (hi : P.info? e = some i) (hz : i.zero = some z)
    (hsize : i.size = size) (hby : i.bytes = bytes) (hsz : 0 < size)
    (v : Value) (n : Nat) (xs : List Value) (hown : w.ownsRow base e size v n xs)
    (a : Addr) (m c : Nat) (hm : 0 < m) (news : List Value) (hl : news.length = m * size) (hnews : ∀ j u, news[j]? = some u → w.cell? (a.add j) = some u) (h1 : ∀ u ∈ news, u.oneCell' = true)
    (h63 : n + m ≤ maxLen) (hbytes : (n + m) * bytes ≤ 140737488355328) (v' : Value) (w' : World) (hrun : (Builtin.append_ #[t, t] ty #[v, .slice (some a) m c]).run P w = .ok v' w') :
    v'.ownBlock = v.ownBlock ∨ v'.ownBlock = some w.heap.size := by
  subst hsize
  subst hby
  have hsmall : n + m ≤ 9223372036854775807 := by simp only [maxLen] at h63; omega
  rcases hown.2 with ⟨rfl, rfl⟩ | ⟨g, cap, cur, rfl, hbg, hg, hnc, hcm, hcs, htake⟩
  · have hr := run_append_nil (P := P) w t ty e i z ht hi hz a m c news hl hnews (by omega) (by omega) (by have hb := hbytes; simp only [Nat.zero_add] at hb; omega)
    rw [hr] at hrun
    injection hrun with e1 e2
    subst e1
    exact .inr rfl
  · by_cases hroom : n + m ≤ cap
    · have hfit : n * i.size + news.length ≤ cur.size := by rw [hl, hcs, ← Nat.add_mul]; exact Nat.mul_le_mul_right _ hroom
      have hr := run_append_room (P := P) w t ty e i ht hi g n cap cur hg a m c news hl hnews h1 hroom hfit
      rw [hr] at hrun
      injection hrun with e1 e2
      subst e1
      exact .inl rfl
    · have holds : ∀ j u, xs[j]? = some u → w.cell? ((⟨g, 0, none⟩ : Addr).add j) = some u := hown.cells (g := g) rfl
      have hr := run_append_grow (P := P) w t ty e i z ht hi hz ⟨g, 0, none⟩ n cap xs hown.1 holds a m c news hl hnews (by omega) (by omega) (growslice_fits (by omega) hbytes)
      rw [hr] at hrun
      injection hrun with e1 e2
      subst e1
      exact .inr rfl
/-- 'append(row, x)': one element more in a row of its own -/
theorem Ro.wp_push {w : World} {o : Oper} {a : Act} {K : Act → World → Prop} {Z : Exit → Act → World → Prop} (s x : Operand) (t e : TypeId) (size bytes : Nat) (z : Value)
    (ho : o.op = .call { callee := .builtin .append, args := #[s, x], argTypes := #[t, t] })
    (ht : Tryz.prog.underlying t = some (.slice e)) (hi : (Tryz.prog.info? e).map (fun i => (i.zero, i.size, i.bytes)) = some (some z, size, bytes)) (hzs : z.cells.size = size) (hsz : 0 < size)
    {base n : Nat} {xs : List Value} (v : Value) (hs : a.eval s = v) (hown : w.ownsRow base e size v n xs) (g1 : Nat) (news : List Value)
    (hx : a.eval x = .slice (some ⟨g1, 0, none⟩) 1 1) (hg1 : ∀ j u, news[j]? = some u → w.cell? ⟨g1, j, none⟩ = some u) (hl : news.length = size) (hone : ∀ u ∈ news, u.oneCell' = true)
    (hn1 : n + 1 ≤ maxLen) (hn : (n + 1) * bytes ≤ 140737488355328) (hbase : base ≤ w.heap.size)
    (h : ∀ v' w', w'.ownsRow base e size v' (n + 1) (xs ++ news) → w.grownBy w' v.ownBlock → (v'.ownBlock = v.ownBlock ∨ v'.ownBlock = some w.heap.size) → K (a.put o.dst v') w') : o.wp Tryz.prog a w K Z := by
  obtain ⟨iV, hiV, hzV, hsV, hbV⟩ := info_parts hi
  have hnews : ∀ j u, news[j]? = some u → w.cell? ((⟨g1, 0, none⟩ : Addr).add j) = some u := fun j u hj => by
    rw [Ro.add, Nat.zero_add]
    exact hg1 j u hj
  obtain ⟨v', w', hr, h2, h3, h4⟩ := run_append_own (P := Tryz.prog) w base t o.type e iV _ size bytes ht hiV hzV hsV hbV hzs hsz v n xs hown ⟨g1, 0, none⟩ 1 1 news (by omega) hnews hone hn1 hn hbase
  have hf := Ro.fresh (P := Tryz.prog) base t o.type e iV _ size bytes ht hiV hzV hsV hbV hsz v n xs hown ⟨g1, 0, none⟩ 1 1 (by decide) news (by omega) hnews hone hn1 hn v' w' hr
  unfold Oper.wp execOp
  simp only [ho, resolve, invoke, builtin, Sem.run_bind, Sem.run_pure, Result.andThen_ok, List.map_toArray, List.map_cons, List.map_nil, hs, hx, hr]
  exact h v' w' h2 h3 hf
/-- at a step of a region that draws -/
theorem Ro.step_push {w : World} {ops : Array Oper} {o : Oper} {a : Act} {K : Act → World → Prop} {E : Prop} {Z : Exit → Act → World → Prop} (hgd : o.guard = none) (s x : Operand) (t e : TypeId) (size bytes : Nat) (z : Value)
    (ho : o.op = .call { callee := .builtin .append, args := #[s, x], argTypes := #[t, t] })
    (ht : Tryz.prog.underlying t = some (.slice e)) (hi : (Tryz.prog.info? e).map (fun i => (i.zero, i.size, i.bytes)) = some (some z, size, bytes)) (hzs : z.cells.size = size) (hsz : 0 < size)
    {base n : Nat} {xs : List Value} (v : Value) (hs : a.eval s = v) (hown : w.ownsRow base e size v n xs) (g1 : Nat) (news : List Value)
    (hx : a.eval x = .slice (some ⟨g1, 0, none⟩) 1 1) (hg1 : ∀ j u, news[j]? = some u → w.cell? ⟨g1, j, none⟩ = some u) (hl : news.length = size) (hone : ∀ u ∈ news, u.oneCell' = true)
    (hn1 : n + 1 ≤ maxLen) (hn : (n + 1) * bytes ≤ 140737488355328) (hbase : base ≤ w.heap.size)
    (h : ∀ v' w', w'.ownsRow base e size v' (n + 1) (xs ++ news) → w.grownBy w' v.ownBlock → (v'.ownBlock = v.ownBlock ∨ v'.ownBlock = some w.heap.size) → K (a.put o.dst v') w') :
    if Region.wanted o (yielded ops a.tmps) = true then Oper.wp Tryz.prog o a w K Z else E := by
  have hw : Region.wanted o (yielded ops a.tmps) = true := by simp [Region.wanted, hgd]
  rw [if_pos hw]
  exact Ro.wp_push s x t e size bytes z ho ht hi hzs hsz v hs hown g1 news hx hg1 hl hone hn1 hn hbase h
/-- at a list of operations -/
theorem Ro.push {w : World} {ops : Array Oper} {rest : List Oper} {o : Oper} {a : Act} {Z : Exit → Act → World → Prop} (hgd : o.guard = none) (s x : Operand) (t e : TypeId) (size bytes : Nat) (z : Value)
    (ho : o.op = .call { callee := .builtin .append, args := #[s, x], argTypes := #[t, t] })
    (ht : Tryz.prog.underlying t = some (.slice e)) (hi : (Tryz.prog.info? e).map (fun i => (i.zero, i.size, i.bytes)) = some (some z, size, bytes)) (hzs : z.cells.size = size) (hsz : 0 < size)
    {base n : Nat} {xs : List Value} (v : Value) (hs : a.eval s = v) (hown : w.ownsRow base e size v n xs) (g1 : Nat) (news : List Value)
    (hx : a.eval x = .slice (some ⟨g1, 0, none⟩) 1 1) (hg1 : ∀ j u, news[j]? = some u → w.cell? ⟨g1, j, none⟩ = some u) (hl : news.length = size) (hone : ∀ u ∈ news, u.oneCell' = true)
    (hn1 : n + 1 ≤ maxLen) (hn : (n + 1) * bytes ≤ 140737488355328) (hbase : base ≤ w.heap.size)
    (h : ∀ v' w', w'.ownsRow base e size v' (n + 1) (xs ++ news) → w.grownBy w' v.ownBlock → (v'.ownBlock = v.ownBlock ∨ v'.ownBlock = some w.heap.size) → wpList Tryz.prog ops Z rest (a.put o.dst v') w') : wpList Tryz.prog ops Z (o :: rest) a w :=
  wpList_plain hgd fun _ hK => Ro.wp_push s x t e size bytes z ho ht hi hzs hsz v hs hown g1 news hx hg1 hl hone hn1 hn hbase fun v' w' h2 h3 h4 => hK _ _ (h v' w' h2 h3 h4)
/-- none of a block's cells is frozen -/
def Rm.Ub (w : World) (k : Nat) : Prop := ∀ o, w.frozen? ⟨k, o, none⟩ = false
theorem Rm.Ub.on {w w' : World} {k : Nat} (h : Rm.Ub w k) (hw : w'.heap[k]? = w.heap[k]?) : Rm.Ub w' k := fun o => by
  have := h o
  unfold World.frozen? at this ⊢
  rw [hw]
  exact this
theorem Rm.Ub.own {w : World} {base : Nat} {e : TypeId} {size n : Nat} {v : Value} {xs : List Value} (h : w.ownsRow base e size v n xs) {k : Nat} (hk : v.ownBlock = some k) : Rm.Ub w k := by
  rcases h.2 with ⟨rfl, hn⟩ | ⟨g, cap, cur, rfl, hbg, hg, rest⟩
  · cases hk
  · have : g = k := Option.some.inj hk
    subst this
    intro o
    unfold World.frozen?
    rw [hg]
    simp
theorem Rm.own_on {base : Nat} {w w' : World} {e : TypeId} {size n : Nat} {v : Value} {xs : List Value} (h : w.ownsRow base e size v n xs) (hb : ∀ k, v.ownBlock = some k → w'.heap[k]? = w.heap[k]?) : w'.ownsRow base e size v n xs := by
  refine ⟨h.1, ?_⟩
  rcases h.2 with hn | ⟨g, cap, cur, rfl, hbg, hg, rest⟩
  · exact .inl hn
  · exact .inr ⟨g, cap, cur, rfl, hbg, (hb g rfl).trans hg, rest⟩
theorem Rl.drop (s : ByteArray) (k : Nat) (h : k < s.size) : s.data.toList.drop k = s[k] :: s.data.toList.drop (k + 1) := by
  rw [List.drop_eq_getElem_cons (by rw [Wk.len_data]; exact h)]
  rfl
theorem Rl.one (c : UInt8) : Lib.byteCells [c] = [.int .u8 c.toNat] := rfl
theorem Rl.ones (x : Int) : ∀ u ∈ [Value.int .u8 x], u.oneCell' = true := by
  intro u hu
  rw [List.mem_singleton.1 hu]
  rfl
theorem Rl.cell1 (W : World) (x : Int) : ∀ (j : Nat) (u : Value), [Value.int .u8 x][j]? = some u → (W.alloc (.cells #[.int .u8 x] 5)).cell? ⟨W.heap.size, j, none⟩ = some u := by
  intro j u hj
  unfold World.cell?
  rw [show (W.alloc (.cells #[.int .u8 x] 5)).heap[W.heap.size]? = some _ from heap_alloc_new W _]
  simpa using hj
theorem Rl.info : (Tryz.prog.info? 5).map (fun i => (i.zero, i.size, i.bytes)) = some (some (.int .u8 0), 1, 1) := by kernel_rfl
/-- a block of memory -/
def Bs.Box (W : World) (g : Nat) (cs : Array Value) (ty : TypeId) : Prop := W.heap[g]? = some (.cells cs ty)
theorem Bs.Box.new (W : World) (cs : Array Value) (ty : TypeId) (g : Nat) (hg : g = W.heap.size) : Bs.Box (W.alloc (.cells cs ty)) g cs ty := by
  subst hg
  show (W.heap.push _)[W.heap.size]? = _
  simp
theorem Bs.Box.lt {W : World} {g : Nat} {cs : Array Value} {ty : TypeId} (h : Bs.Box W g cs ty) : g < W.heap.size := (Array.getElem?_eq_some_iff.1 h).1
theorem Bs.Box.alloc {W : World} {g : Nat} {cs : Array Value} {ty : TypeId} (h : Bs.Box W g cs ty) (o : Obj) : Bs.Box (W.alloc o) g cs ty := (Below.heap_alloc _ _ _ h.lt).trans h
theorem Bs.Box.on {W W' : World} {g b : Nat} {cs : Array Value} {ty : TypeId} (h : Bs.Box W g cs ty) (hb : Below b W W') (hg : g < b) : Bs.Box W' g cs ty := (hb.block g hg).trans h
theorem Bs.Box.set {W : World} {g : Nat} {cs : Array Value} {ty : TypeId} (h : Bs.Box W g cs ty) (i : Nat) (v : Value) : Bs.Box (W.setCell ⟨g, i, none⟩ v) g (cs.setIfInBounds i v) ty := by
  show (W.heap.modify g _)[g]? = _
  rw [Array.getElem?_modify, if_pos rfl, h]
  rfl
theorem Bs.Box.cell {W : World} {g : Nat} {cs : Array Value} {ty : TypeId} (h : Bs.Box W g cs ty) (i : Nat) {v : Value} (hv : cs[i]? = some v) : W.cell? ⟨g, i, none⟩ = some v := by
  unfold World.cell?
  rw [show W.heap[g]? = _ from h]
  exact hv
theorem Bs.Box.frozen {W : World} {g : Nat} {cs : Array Value} {ty : TypeId} (h : Bs.Box W g cs ty) (i : Nat) : W.frozen? ⟨g, i, none⟩ = false := by
  unfold World.frozen?
  rw [show W.heap[g]? = _ from h]
  simp
/-- a byte 10 for each end of a line -/
def Rd.lines : List UInt8 → List UInt8
  | [] => []
  | 13 :: 10 :: l => 10 :: Rd.lines l
  | c :: l => (if c = 13 then 10 else c) :: Rd.lines l
/-- lines, from a place on -/
theorem Rl.l13a (l : List UInt8) : Rd.lines (13 :: 10 :: l) = 10 :: Rd.lines l := by rw [Rd.lines]
theorem Rl.l13b (l : List UInt8) (h : l.head? ≠ some 10) : Rd.lines (13 :: l) = 10 :: Rd.lines l := by
  cases l with
  | nil => rfl
  | cons c l =>
    have hc : c ≠ 10 := fun e => h (by rw [e]; rfl)
    rw [Rd.lines, if_pos rfl]
    intro l' h1 h2
    exact hc (List.cons.inj h2).1
theorem Rl.lother (c : UInt8) (l : List UInt8) (h : c ≠ 13) : Rd.lines (c :: l) = c :: Rd.lines l := by
  rw [Rd.lines, if_neg h]
  intro l' h1 _
  exact h h1
def Rd.page (s : ByteArray) : ByteArray := ⟨(Rd.lines s.data.toList).toArray⟩
theorem Dm.conv {wr : World} {B : Nat} {v : Value} {acc : List UInt8} (h : wr.ownsRow B 5 1 v acc.length (Lib.byteCells acc)) :
    (convert 70 9 v).run Tryz.prog wr = .ok (.string ⟨acc.toArray⟩) wr := by
  rcases h.2 with ⟨rfl, h0⟩ | ⟨g, cap, cur, rfl, _⟩
  · have e : acc = [] := List.eq_nil_of_length_eq_zero h0
    subst e
    rw [run_convert_bytes_string wr 70 9 5 none 0 0 Tryz.underlying70 Tryz.underlying5 Tryz.underlying9]
    simp [Conv.bytesToString]
    rfl
  · refine run_convert_bytes_back (P := Tryz.prog) wr 70 9 5 ⟨g, 0, none⟩ cap acc Tryz.underlying70 Tryz.underlying5 Tryz.underlying9 (fun j hj => ?_)
    have e : (⟨g, 0, none⟩ : Addr).add j = ⟨g, j, none⟩ := by rw [Addr.add_lit, Nat.zero_add]
    rw [e, h.cellAt j (by omega)]
    simp [Lib.byteCells, hj]
end Go.Proofs.YtjppobeomocgbaaGreatDoor
/-
  WHAT ALL CARDS OF THIS SEAT SHARE: the cell of internal/bytealg.MaxLen in a world of the program's shape, and a world for the witness in which the listed tables lie.
-/
namespace Go.Proofs.YtjppobeomocgbaaGreatDoor
open Go.ChangeShapes Go.WideShapes Go.ChangeAt Go.RowKit

theorem Fr.own : ownKnob Tryz.prog.godebug = none := by kernel_rfl
/-- in a world of the program's shape MaxLen holds some int -/
theorem Fr.maxLen {W : World} (h : W.ShapedOpen Tryz.prog) : ∃ m, W.cell? ⟨0, 0, none⟩ = some (.int .i64 m) :=
  Go.Proofs.cell_of_shapedOpen_int (zero := #[.int .i64 0]) (t := 3) h (of_decide_eq_true (by kernel_rfl)) (by kernel_rfl) rfl (by kernel_rfl) (by kernel_rfl) Tryz.underlying3
/-- a block's cells, laid anew -/
def Fr.put (cs : List Nat) : Obj → Obj
  | .cells _ t frozen => .cells (cs.map fun z : Nat => Value.int .u8 z).toArray t frozen
  | o => o
def Fr.ranges : List Nat := [128, 191, 160, 191, 128, 159, 144, 191, 128, 143, 0, 0, 0, 0, 0, 0, 0, 0, 0, 0, 0, 0, 0, 0, 0, 0, 0, 0, 0, 0, 0, 0]
/-- FOR THE WITNESS's WORLD: the two tables holding what their initialisers lay. -/
def Fr.lay (w : World) : World := { w with heap := (w.heap.modify 1 (Fr.put Pinned.utf8FirstZ)).modify 2 (Fr.put Fr.ranges) }
/-- what an argument's kind says of it -/
theorem Fr.i64 {n : Int} (h : (Lit.int .i64 n).wf = true) : -9223372036854775808 ≤ n ∧ n ≤ 9223372036854775807 := by
  simp [Lit.wf, IntKind.min, IntKind.max, IntKind.signed, IntKind.bits] at h
  omega
end Go.Proofs.YtjppobeomocgbaaGreatDoor
/-
  PLAIN: a source as texts and actions: the document's Split, by places in the bytes.
-/
namespace Go.Proofs.YtjppobeomocgbaaGreatDoor
/-- a piece: a text or an action -/
structure Pc where
  act : Bool
  text : List UInt8
  loc : Nat
  deriving DecidableEq
/-- an action that was found: behind its end, its text, whether it trims, whether it is a comment -/
structure La where
  fin : Nat
  text : List UInt8
  trims : Bool
  com : Bool
def Lx.blank (c : UInt8) : Bool := c == 9 || c == 10 || c == 32
def Lx.left (l : List UInt8) : List UInt8 := l.dropWhile Lx.blank
def Lx.right (l : List UInt8) : List UInt8 := (l.reverse.dropWhile Lx.blank).reverse
/-- where the next '{{' stands, or the end -/
def Lx.text : Nat → List UInt8 → Nat
  | i, [] => i
  | i, a :: l => if a = 123 ∧ l.head? = some 123 then i else Lx.text (i + 1) l
/-- where the blanks end -/
def Lx.skip : Nat → List UInt8 → Nat
  | i, [] => i
  | i, a :: l => if Lx.blank a = true then Lx.skip (i + 1) l else i
/-- where the next comment's end stands -/
def Lx.star : Nat → List UInt8 → Option Nat
  | _, [] => none
  | i, a :: l => if a = 42 ∧ l.head? = some 47 then some i else Lx.star (i + 1) l
/-- where the next '}}' in no text stands -/
def Lx.find : Bool → Bool → Nat → List UInt8 → Option Nat
  | _, _, _, [] => none
  | t, sk, i, c :: l => if sk = true then Lx.find t false (i + 1) l else if t = true ∧ c = 92 then Lx.find t true (i + 1) l else if c = 34 then Lx.find (!t) false (i + 1) l else if t = false ∧ c = 125 ∧ l.head? = some 125 then some i else Lx.find t false (i + 1) l
def Lx.two (S : List UInt8) (k : Nat) (a b : UInt8) : Bool := decide (S[k]? = some a) && decide (S[k + 1]? = some b)
def Lx.comment (S : List UInt8) (k : Nat) : Option La :=
  match Lx.star k (S.drop k) with
  | none => none
  | some f =>
    let i := Lx.skip (f + 2) (S.drop (f + 2))
    let tr := decide (f + 2 < i) && decide (S[i]? = some 45)
    let j := if tr = true then i + 1 else i
    if Lx.two S j 125 125 = true then some ⟨j + 2, [], tr, true⟩ else none
/-- does an action's text end with a trim mark? -/
def Lx.trims (t : List UInt8) : Bool := decide (2 ≤ t.length) && decide (t[t.length - 1]? = some 45) && (t.getD (t.length - 2) 0 |> Lx.blank)
def Lx.plain (S : List UInt8) (k : Nat) : Option La :=
  match Lx.find false false k (S.drop k) with
  | none => none
  | some i =>
    let t := (S.drop k).take (i - k)
    some ⟨i + 2, Lx.right (Lx.left (if Lx.trims t = true then t.take (t.length - 1) else t)), Lx.trims t, false⟩
def Lx.act (S : List UInt8) (k : Nat) : Option La := if Lx.two S k 47 42 = true then Lx.comment S (k + 2) else Lx.plain S k
/-- a text, if there is one -/
def Lx.one (t : List UInt8) (k : Nat) : List Pc := if t = [] then [] else [⟨false, t, k⟩]
/-- does a trim mark stand behind '{{'? -/
def Lx.mark (S : List UInt8) (k : Nat) : Bool := decide (S[k]? = some 45) && decide (k + 1 < S.length) && Lx.blank (S.getD (k + 1) 0)
def Lx.go : Nat → List UInt8 → Nat → Bool → List Pc → Option (List Pc)
  | 0, _, _, _, out => some out
  | n + 1, S, p, tr, out =>
    if S.length ≤ p then some out
    else
      let i := Lx.text p (S.drop p)
      let t := (S.drop p).take (i - p)
      let t := if tr = true then Lx.left t else t
      if S.length ≤ i then some (out ++ Lx.one t p)
      else
        let m := Lx.mark S (i + 2)
        let t := if m = true then Lx.right t else t
        let k := if m = true then i + 3 else i + 2
        match Lx.act S (Lx.skip k (S.drop k)) with
        | none => none
        | some a => Lx.go n S a.fin a.trims (out ++ Lx.one t p ++ if a.com = true then [] else [⟨true, a.text, i⟩])
def Lx.long (ps : List Pc) : Bool := ps.any fun p => p.act && decide (256 < p.text.length)
def Lx.limits (ps : List Pc) : List Pc × Int := if Lx.long ps = true then ([], 1301) else if 1024 < ps.length then ([], 1302) else (ps, 0)
def Lx.all (S : List UInt8) : List Pc × Int :=
  match Lx.go (S.length + 1) S 0 false [] with
  | none => ([], 1300)
  | some ps => Lx.limits ps
def Lx.split (s : ByteArray) : List Pc × Int := if 65536 < s.size then ([], 1301) else Lx.all (Rd.lines s.data.toList)
theorem Lx.text_ge : ∀ (l : List UInt8) (i : Nat), i ≤ Lx.text i l ∧ Lx.text i l ≤ i + l.length := by
  intro l
  induction l with
  | nil => intro i; exact ⟨Nat.le_refl _, Nat.le_refl _⟩
  | cons a l ih =>
    intro i
    unfold Lx.text
    split
    · exact ⟨Nat.le_refl _, Nat.le_add_right _ _⟩
    · have := ih (i + 1)
      simp only [List.length_cons]
      omega
theorem Lx.skip_ge : ∀ (l : List UInt8) (i : Nat), i ≤ Lx.skip i l ∧ Lx.skip i l ≤ i + l.length := by
  intro l
  induction l with
  | nil => intro i; exact ⟨Nat.le_refl _, Nat.le_refl _⟩
  | cons a l ih =>
    intro i
    unfold Lx.skip
    split
    · have := ih (i + 1)
      simp only [List.length_cons]
      omega
    · exact ⟨Nat.le_refl _, Nat.le_add_right _ _⟩
theorem Lx.star_ge : ∀ (l : List UInt8) (i f : Nat), Lx.star i l = some f → i ≤ f ∧ f + 2 ≤ i + l.length := by
  intro l
  induction l with
  | nil => intro i f h; cases h
  | cons a l ih =>
    intro i f h
    unfold Lx.star at h
    split at h
    · rename_i q
      injection h with h
      subst h
      have : l ≠ [] := fun e => by rw [e] at q; cases q.2
      have := List.length_pos_iff.2 this
      simp only [List.length_cons]
      omega
    · have := ih (i + 1) f h
      simp only [List.length_cons]
      omega
theorem Lx.find_ge : ∀ (l : List UInt8) (t sk : Bool) (i f : Nat), Lx.find t sk i l = some f → i ≤ f ∧ f + 2 ≤ i + l.length := by
  intro l
  induction l with
  | nil => intro t sk i f h; cases h
  | cons a l ih =>
    intro t sk i f h
    unfold Lx.find at h
    simp only [List.length_cons]
    repeat' split at h
    · have := ih _ _ _ _ h; omega
    · have := ih _ _ _ _ h; omega
    · have := ih _ _ _ _ h; omega
    · rename_i q
      injection h with h
      subst h
      have : l ≠ [] := fun e => by rw [e] at q; cases q.2.2
      have := List.length_pos_iff.2 this
      omega
    · have := ih _ _ _ _ h; omega
theorem Lx.two_lt {S : List UInt8} {k : Nat} {a b : UInt8} (h : Lx.two S k a b = true) : k + 2 ≤ S.length := by
  unfold Lx.two at h
  simp only [Bool.and_eq_true, decide_eq_true_eq] at h
  have := (List.getElem?_eq_some_iff.1 h.2).1
  omega
/-- an action ends within the source, behind its begin -/
theorem Lx.act_fin {S : List UInt8} {k : Nat} {a : La} (hk : k ≤ S.length) (h : Lx.act S k = some a) : k + 2 ≤ a.fin ∧ a.fin ≤ S.length := by
  unfold Lx.act at h
  split at h
  · rename_i h2
    have h2 := Lx.two_lt h2
    unfold Lx.comment at h
    split at h
    · cases h
    · rename_i f hf
      have h3 := Lx.star_ge _ _ _ hf
      have h4 := Lx.skip_ge (S.drop (f + 2)) (f + 2)
      simp only [List.length_drop] at h3 h4
      simp only at h
      generalize (decide (f + 2 < Lx.skip (f + 2) (S.drop (f + 2))) && decide (S[Lx.skip (f + 2) (S.drop (f + 2))]? = some 45)) = b at h
      have hb : Lx.skip (f + 2) (S.drop (f + 2)) ≤ (if b = true then Lx.skip (f + 2) (S.drop (f + 2)) + 1 else Lx.skip (f + 2) (S.drop (f + 2))) := by split <;> omega
      generalize (if b = true then Lx.skip (f + 2) (S.drop (f + 2)) + 1 else Lx.skip (f + 2) (S.drop (f + 2))) = j at h hb
      cases hj : Lx.two S j 125 125 with
      | true =>
        rw [hj, if_pos rfl] at h
        have hj := Lx.two_lt hj
        injection h with h
        rw [← h]
        simp only
        omega
      | false =>
        rw [hj, if_neg (by decide)] at h
        cases h
  · unfold Lx.plain at h
    split at h
    · cases h
    · rename_i i hi
      have h3 := Lx.find_ge _ _ _ _ _ hi
      simp only [List.length_drop] at h3
      injection h with h
      rw [← h]
      simp only
      omega
theorem Lx.plain_none {S : List UInt8} {k : Nat} (h : Lx.find false false k (S.drop k) = none) : Lx.plain S k = none := by
  unfold Lx.plain
  rw [h]
theorem Lx.plain_some {S T U : List UInt8} {k i : Nat} {tr : Bool} (h : Lx.find false false k (S.drop k) = some i) (hT : T = (S.drop k).take (i - k)) (htr : Lx.trims T = tr) (hU : (if tr = true then T.take (T.length - 1) else T) = U) : Lx.plain S k = some ⟨i + 2, Lx.right (Lx.left U), tr, false⟩ := by
  unfold Lx.plain
  rw [h]
  subst hT
  simp only [htr, hU]
theorem Lx.left_len (l : List UInt8) : (Lx.left l).length ≤ l.length := (List.dropWhile_sublist _).length_le
end Go.Proofs.YtjppobeomocgbaaGreatDoor
/-
  THE WALKS of stoleref13.blank, left, right.
-/
namespace Go.Proofs.YtjppobeomocgbaaGreatDoor
open Go.RowKit
theorem Lr.blank (c : UInt8) (w : World) : Calls Tryz.prog 31 #[.int .u8 (c.toNat : Int)] w fun e w' => e = .returned (.bool (Lx.blank c)) ∧ w' = w := by
  obtain ⟨b, hb⟩ : ∃ b, Lx.blank c = b := ⟨_, rfl⟩
  rw [hb]
  have HB := Lib.hid hb
  clear hb
  by_cases h9 : c = 9
  · have t9 : ((c.toNat : Int) == 9) = true := Tp.eq_true (d := 9) h9
    have hb : true = b := by rw [← HB.out, h9]; rfl
    subst hb
    clear HB h9
    go_enter Tryz.func31, Tryz.ntmps31
    go_wp2
    go_ret
    exact ⟨rfl, rfl⟩
  · have t9 : ((c.toNat : Int) == 9) = false := Tp.eq_false (d := 9) h9
    by_cases h10 : c = 10
    · have t10 : ((c.toNat : Int) == 10) = true := Tp.eq_true (d := 10) h10
      have hb : true = b := by rw [← HB.out, h10]; rfl
      subst hb
      clear HB h9 h10
      go_enter Tryz.func31, Tryz.ntmps31
      go_wp2
      go_ret
      exact ⟨rfl, rfl⟩
    · have t10 : ((c.toNat : Int) == 10) = false := Tp.eq_false (d := 10) h10
      by_cases h32 : c = 32
      · have t32 : ((c.toNat : Int) == 32) = true := Tp.eq_true (d := 32) h32
        have hb : true = b := by rw [← HB.out, h32]; rfl
        subst hb
        clear HB h9 h10 h32
        go_enter Tryz.func31, Tryz.ntmps31
        go_wp2
        go_ret
        exact ⟨rfl, rfl⟩
      · have t32 : ((c.toNat : Int) == 32) = false := Tp.eq_false (d := 32) h32
        have hb : false = b := by
          rw [← HB.out]
          unfold Lx.blank
          rw [beq_eq_false_iff_ne.2 h9, beq_eq_false_iff_ne.2 h10, beq_eq_false_iff_ne.2 h32]
          rfl
        subst hb
        clear HB h9 h10 h32
        go_enter Tryz.func31, Tryz.ntmps31
        go_wp2
        go_ret
        exact ⟨rfl, rfl⟩
theorem Lr.nil (t : ByteArray) : t.toList = [] ↔ t.size = 0 := by
  rw [ByteArray.toList_eq, ← Wk.len_data]
  exact ⟨fun h => by rw [h]; rfl, fun h => List.eq_nil_of_length_eq_zero h⟩
theorem Lr.cons (t : ByteArray) (h : 0 < t.size) : t.data.toList = t[0] :: (t.extract 1 t.size).data.toList := by
  have := Rl.drop t 0 h
  rw [List.drop_zero, Nat.zero_add, ← Wk.rest_data] at this
  exact this
theorem Lr.snoc (t : ByteArray) (h : 0 < t.size) : t.data.toList = (t.extract 0 (t.size - 1)).data.toList ++ [t[t.size - 1]] := by
  have hl : t.size - 1 < t.data.toList.length := by rw [Wk.len_data]; omega
  rw [Lib.extract_data, List.drop_zero, Nat.sub_zero]
  have := List.take_succ_eq_append_getElem hl
  rw [show t.size - 1 + 1 = t.data.toList.length by rw [Wk.len_data]; omega, List.take_length] at this
  exact this
theorem Lx.right_snoc (l : List UInt8) (c : UInt8) : Lx.right (l ++ [c]) = if Lx.blank c = true then Lx.right l else l ++ [c] := by
  unfold Lx.right
  rw [List.reverse_append, List.reverse_singleton, List.singleton_append, List.dropWhile_cons]
  split
  · rfl
  · simp
set_option maxRecDepth 100000 in
theorem Lr.left (s : ByteArray) (w : World) (hs : s.size ≤ 4611686018427387904) : Calls Tryz.prog 30 #[.string s] w fun e w' => e = .returned (.string ⟨(Lx.left s.data.toList).toArray⟩) ∧ w' = w := by
  obtain ⟨X, hX⟩ : ∃ X : ByteArray, X = ⟨(Lx.left s.data.toList).toArray⟩ := ⟨_, rfl⟩
  rw [← hX]
  have HX : Hid (X.data.toList = Lx.left s.data.toList) := by unfold Hid; rw [hX]
  clear hX
  go_enter Tryz.func30, Tryz.ntmps30
  go_wp2_with fail
  go_loopw [0] (fun sv wr => ∃ t : ByteArray, sv = .string t ∧ t.size ≤ 4611686018427387904 ∧ Hid (X.data.toList = Lx.left t.data.toList) ∧ wr = w) (fun sv _ => match sv with | .string t => t.size | _ => 0)
  case atStart => exact ⟨s, rfl, hs, HX, rfl⟩
  case round =>
    clear HX
    obtain ⟨t, rfl, ht, HX, hw⟩ := hrel
    have hw := hw.symm
    subst hw
    have bl := fun (h : 0 < t.size) u => Lr.blank (t[0]) u
    by_cases hz : t.size = 0
    · have n0 : t.toList = [] := (Lr.nil t).2 hz
      have n1 : t.toList.isEmpty = true := by rw [n0]; rfl
      have hX : t = X := by
        have h1 := HX.out
        have h2 : t.data.toList = [] := List.eq_nil_of_length_eq_zero (by rw [Wk.len_data]; exact hz)
        rw [h2] at h1
        exact WideShapes.bytes_inj (h2.trans h1.symm)
      clear HX
      subst hX
      go_wp2
      go_ret
      exact ⟨rfl, rfl⟩
    · have n0 : ¬ t.toList = [] := fun q => hz ((Lr.nil t).1 q)
      have n1 : t.toList.isEmpty = false := by rw [List.isEmpty_eq_false_iff]; exact n0
      have hp : 0 < t.size := by omega
      have bl := bl hp
      have HC := Lib.hid (Lr.cons t hp)
      cases hb : Lx.blank t[0] with
      | true =>
        rw [hb] at bl
        have HX2 : Hid (X.data.toList = Lx.left (t.extract 1 t.size).data.toList) := by
          have h1 := HX.out
          rw [HC.out] at h1
          unfold Lx.left at h1 ⊢
          rw [List.dropWhile_cons, if_pos hb] at h1
          exact h1
        have hsz : (t.extract 1 t.size).size = t.size - 1 := by rw [ByteArray.size_extract]; omega
        clear hb HC HX
        go_wp2_with (go_at_call 31; refine (bl _).mono ?_; rintro e w1 ⟨rfl, hw⟩; have hw := hw.symm; subst hw)
        go_roundw
        case rel => exact ⟨t.extract 1 t.size, rfl, by omega, HX2, by first | rfl | trivial⟩
        case measure => simp only; omega
      | false =>
        rw [hb] at bl
        have hX : t = X := by
          have h1 := HX.out
          rw [HC.out] at h1
          unfold Lx.left at h1
          rw [List.dropWhile_cons, if_neg (by rw [hb]; decide), ← HC.out] at h1
          exact WideShapes.bytes_inj h1.symm
        clear hb HC HX
        subst hX
        go_wp2_with (go_at_call 31; refine (bl _).mono ?_; rintro e w1 ⟨rfl, hw⟩; have hw := hw.symm; subst hw)
        go_ret
        exact ⟨rfl, rfl⟩
set_option maxRecDepth 100000 in
theorem Lr.right (s : ByteArray) (w : World) (hs : s.size ≤ 4611686018427387904) : Calls Tryz.prog 32 #[.string s] w fun e w' => e = .returned (.string ⟨(Lx.right s.data.toList).toArray⟩) ∧ w' = w := by
  obtain ⟨X, hX⟩ : ∃ X : ByteArray, X = ⟨(Lx.right s.data.toList).toArray⟩ := ⟨_, rfl⟩
  rw [← hX]
  have HX : Hid (X.data.toList = Lx.right s.data.toList) := by unfold Hid; rw [hX]
  clear hX
  go_enter Tryz.func32, Tryz.ntmps32
  go_wp2_with fail
  go_loopw [0] (fun sv wr => ∃ t : ByteArray, sv = .string t ∧ t.size ≤ 4611686018427387904 ∧ Hid (X.data.toList = Lx.right t.data.toList) ∧ wr = w) (fun sv _ => match sv with | .string t => t.size | _ => 0)
  case atStart => exact ⟨s, rfl, hs, HX, rfl⟩
  case round =>
    clear HX
    obtain ⟨t, rfl, ht, HX, hw⟩ := hrel
    have hw := hw.symm
    subst hw
    have bl := fun (h : t.size - 1 < t.size) u => Lr.blank (t[t.size - 1]) u
    by_cases hz : t.size = 0
    · have n0 : t.toList = [] := (Lr.nil t).2 hz
      have n1 : t.toList.isEmpty = true := by rw [n0]; rfl
      have hX : t = X := by
        have h1 := HX.out
        have h2 : t.data.toList = [] := List.eq_nil_of_length_eq_zero (by rw [Wk.len_data]; exact hz)
        rw [h2] at h1
        exact WideShapes.bytes_inj (h2.trans h1.symm)
      clear HX
      subst hX
      go_wp2
      go_ret
      exact ⟨rfl, rfl⟩
    · have n0 : ¬ t.toList = [] := fun q => hz ((Lr.nil t).1 q)
      have n1 : t.toList.isEmpty = false := by rw [List.isEmpty_eq_false_iff]; exact n0
      have hp : 0 < t.size := by omega
      have bl := bl (by omega)
      have HC := Lib.hid (Lr.snoc t hp)
      have em : (t.size : Int) - 1 = ((t.size - 1 : Nat) : Int) := by omega
      cases hb : Lx.blank t[t.size - 1] with
      | true =>
        rw [hb] at bl
        have HX2 : Hid (X.data.toList = Lx.right (t.extract 0 (t.size - 1)).data.toList) := by
          have h1 := HX.out
          rw [HC.out, Lx.right_snoc, if_pos hb] at h1
          exact h1
        have hsz : (t.extract 0 (t.size - 1)).size = t.size - 1 := by rw [ByteArray.size_extract]; omega
        clear hb HC HX
        go_wp2_with (go_at_call 31; refine (bl _).mono ?_; rintro e w1 ⟨rfl, hw⟩; have hw := hw.symm; subst hw)
        go_roundw
        case rel => exact ⟨t.extract 0 (t.size - 1), rfl, by omega, HX2, by first | rfl | trivial⟩
        case measure => simp only; omega
      | false =>
        rw [hb] at bl
        have hX : t = X := by
          have h1 := HX.out
          rw [HC.out, Lx.right_snoc, if_neg (by rw [hb]; decide), ← HC.out] at h1
          exact WideShapes.bytes_inj h1.symm
        clear hb HC HX
        subst hX
        go_wp2_with (go_at_call 31; refine (bl _).mono ?_; rintro e w1 ⟨rfl, hw⟩; have hw := hw.symm; subst hw)
        go_ret
        exact ⟨rfl, rfl⟩
end Go.Proofs.YtjppobeomocgbaaGreatDoor

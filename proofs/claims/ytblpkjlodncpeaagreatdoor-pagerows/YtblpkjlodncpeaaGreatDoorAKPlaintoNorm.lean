/-
  PLAIN: what a page is made of: nodes that may be, their lines; the lines of a tree hang on the tags and the comments of its tokens alone.
-/
import Derived.Test.YtblpkjlodncpeaaGreatDoorAPlaintoUShape
import Derived.Lib.ItoaNum
import Derived.Test.YtblpkjlodncpeaaGreatDoorChecked
import Derived.WalkKit
import Derived.OwnWalk
import Derived.Lib.Hide
import Derived.Below
import Derived.Shelf.Strings.Builder2
import Derived.Shelf.Strings.BuilderK
import Derived.Shelf.Strings.Prefix
import Derived.Test.YtblpkjlodncpeaaGreatDoorProg
import Derived.BigCall
import Derived.Laws.IdiomStrings
namespace Go.Proofs.YtblpkjlodncpeaaGreatDoor
/-- may a node be, at its place? -/
def Sk.At (ns : List Nd) (i : Nat) (x : Nd) : Prop :=
  (i = 0 ∧ x.kind = 0 ∧ x.parent = -1 ∧ x.name = Ts.e ∧ x.text = Ts.e ∧ x.attrs = []) ∨
  (0 < i ∧ 0 ≤ x.parent ∧ x.parent < (i : Int) ∧ (∃ y, ns[x.parent.toNat]? = some y ∧ (y.kind = 0 ∨ y.kind = 1)) ∧ ((x.kind = 1 ∧ x.text = Ts.e) ∨ ((x.kind = 2 ∨ x.kind = 3) ∧ x.name = Ts.e ∧ x.attrs = [])))
def Sk.May (ns : List Nd) : Prop := 0 < ns.length ∧ ∀ i x, ns[i]? = some x → Sk.At ns i x
def Sk.told (x : Nd) : Bool := x.kind != 2
/-- the number of a node among those that are told -/
def Sk.num (ns : List Nd) (q : Nat) : Nat := (ns.take (q + 1)).tail.countP Sk.told
def Sk.line (p : Nat) (x : Nd) : List UInt8 := Lib.decDigits p ++ ((if x.kind = 3 then [32, 99, 32] ++ x.text.data.toList else [32, 101, 32] ++ x.name.data.toList) ++ (x.attrs.flatMap (fun a => 32 :: a.1.data.toList) ++ [10]))
def Sk.one (ns : List Nd) (x : Nd) : List UInt8 := if x.kind = 2 then [] else Sk.line (Sk.num ns x.parent.toNat) x
def Sk.linesFrom (pre : List Nd) : List Nd → List UInt8
  | [] => []
  | x :: l => Sk.one pre x ++ Sk.linesFrom (pre ++ [x]) l
def Sk.skel : List Nd → List UInt8
  | [] => []
  | r :: l => Sk.linesFrom [r] l
/-- the texts -/
def Sk.texts (ns : List Nd) : List ByteArray := ns.filterMap fun x => if x.kind = 2 then some x.text else none
theorem Sk.linesFrom_snoc : ∀ (l : List Nd) (pre : List Nd) (x : Nd), Sk.linesFrom pre (l ++ [x]) = Sk.linesFrom pre l ++ Sk.one (pre ++ l) x
  | [], pre, x => by simp [Sk.linesFrom]
  | y :: l, pre, x => by
    show Sk.one pre y ++ Sk.linesFrom (pre ++ [y]) (l ++ [x]) = Sk.one pre y ++ Sk.linesFrom (pre ++ [y]) l ++ _
    rw [Sk.linesFrom_snoc l (pre ++ [y]) x, List.append_assoc, List.append_assoc]
    rfl
theorem Sk.skel_snoc {ns : List Nd} (h : 0 < ns.length) (x : Nd) : Sk.skel (ns ++ [x]) = Sk.skel ns ++ Sk.one ns x := by
  cases ns with
  | nil => exact absurd h (by decide)
  | cons r l => exact Sk.linesFrom_snoc l [r] x
theorem Sk.num_snoc (ns : List Nd) (x : Nd) {q : Nat} (h : q < ns.length) : Sk.num (ns ++ [x]) q = Sk.num ns q := by
  unfold Sk.num
  rw [List.take_append_of_le_length (by omega)]
theorem Sk.num_last {ns : List Nd} (h : 0 < ns.length) (x : Nd) : Sk.num (ns ++ [x]) ns.length = ns.tail.countP Sk.told + (if x.kind = 2 then 0 else 1) := by
  unfold Sk.num
  rw [List.take_of_length_le (by simp), List.tail_append_of_ne_nil (fun e => by rw [e] at h; exact absurd h (by decide)), List.countP_append]
  congr 1
  by_cases q : x.kind = 2
  · simp [Sk.told, q]
  · simp [Sk.told, q]
theorem Sk.count_snoc {ns : List Nd} (h : 0 < ns.length) (x : Nd) : (ns ++ [x]).tail.countP Sk.told = ns.tail.countP Sk.told + (if x.kind = 2 then 0 else 1) := by
  rw [List.tail_append_of_ne_nil (fun e => by rw [e] at h; exact absurd h (by decide)), List.countP_append]
  congr 1
  by_cases q : x.kind = 2
  · simp [Sk.told, q]
  · simp [Sk.told, q]
/-- tags and comments in their row, and nothing else -/
structure Sb where
  count : Nat
  opn : List (Nat × ByteArray)
  out : List UInt8
def Sb.start : Sb := ⟨0, [(0, Ts.e)], []⟩
def Sb.top (b : Sb) : Nat := (b.opn.getLastD (0, Ts.e)).1
def Sb.find (b : Sb) (n : ByteArray) : Nat → Nat
  | 0 => 0
  | k + 1 => if k = 0 then 0 else if (b.opn.getD k (0, Ts.e)).2 = n then k else Sb.find b n k
def Sb.node (b : Sb) (x : Nd) : Sb := { b with count := b.count + 1, out := b.out ++ Sk.line b.top x }
def Sb.token (b : Sb) (t : Tk) : Sb :=
  if t.kind = 3 then b.node ⟨3, Ts.e, t.text, [], 0⟩
  else if t.kind = 1 then
    if Ts.kind t.name ≠ 1 ∧ b.opn.length ≤ 32 then { b.node ⟨1, t.name, Ts.e, t.attrs, 0⟩ with opn := b.opn ++ [(b.count + 1, t.name)] }
    else b.node ⟨1, t.name, Ts.e, t.attrs, 0⟩
  else if t.kind = 2 then
    if b.find t.name b.opn.length = 0 then b else { b with opn := b.opn.take (b.find t.name b.opn.length) }
  else b
def Sb.run (b : Sb) : List Tk → Sb
  | [] => b
  | t :: ts => Sb.run (b.token t) ts
structure Sb.Rel (m : Bt) (b : Sb) : Prop where
  root : m.out[0]? = some ⟨0, Ts.e, Ts.e, [], -1⟩
  count : b.count = m.out.tail.countP Sk.told
  opn : b.opn = m.opn.map fun q => (Sk.num m.out q, (m.nth q).name)
  out : b.out = Sk.skel m.out
theorem Sb.Rel.start : Sb.Rel Bt.start Sb.start := ⟨rfl, rfl, rfl, rfl⟩
theorem Sb.Rel.top {m : Bt} {b : Sb} (h : Sb.Rel m b) (ok : Bt.Ok m) : b.top = Sk.num m.out m.top := by
  unfold Sb.top Bt.top
  rw [h.opn, List.getLastD_eq_getLast?, List.getLastD_eq_getLast?, List.getLast?_map]
  have hne : m.opn ≠ [] := fun e => by have := ok.opn; rw [e] at this; exact absurd this (by decide)
  rw [List.getLast?_eq_some_getLast hne]
  rfl
theorem Sb.nth_snoc (m : Bt) (x : Nd) (o : List Nat) {q : Nat} (h : q < m.out.length) : Bt.nth ⟨m.out ++ [x], o⟩ q = m.nth q := by
  unfold Bt.nth
  show ((m.out ++ [x])[q]?).getD Nd.zero = _
  rw [List.getElem?_append_left h]
/-- the open ones' numbers and names stay -/
theorem Sb.Rel.opn_snoc {m : Bt} {b : Sb} (h : Sb.Rel m b) (ok : Bt.Ok m) (x : Nd) (o : List Nat) : b.opn = m.opn.map fun q => (Sk.num (m.out ++ [x]) q, (Bt.nth ⟨m.out ++ [x], o⟩ q).name) := by
  rw [h.opn]
  refine List.map_congr_left fun q hq => ?_
  have := ok.lt q hq
  rw [Sk.num_snoc _ _ this, Sb.nth_snoc m x o this]
theorem Sb.one_line {ns : List Nd} {x : Nd} (hk : x.kind ≠ 2) (p : Nat) : Sk.one ns { x with parent := (p : Int) } = Sk.line (Sk.num ns p) x := by
  unfold Sk.one
  rw [if_neg hk]
  rfl
theorem Sb.Rel.node {m : Bt} {b : Sb} (h : Sb.Rel m b) (ok : Bt.Ok m) (x : Nd) (hk : x.kind ≠ 2) : Sb.Rel (m.node x) (b.node x) := by
  have hs := ok.some
  refine ⟨?_, ?_, h.opn_snoc ok _ _, ?_⟩
  · show (m.out ++ [_])[0]? = _
    rw [List.getElem?_append_left hs]
    exact h.root
  · show b.count + 1 = (m.out ++ [_]).tail.countP Sk.told
    rw [Sk.count_snoc hs, h.count, if_neg hk]
  · show b.out ++ Sk.line b.top x = Sk.skel (m.out ++ [_])
    rw [Sk.skel_snoc hs, h.out, h.top ok, Sb.one_line hk]
theorem Sb.Rel.text {m : Bt} {b : Sb} (h : Sb.Rel m b) (ok : Bt.Ok m) (x : Nd) (hk : x.kind = 2) : Sb.Rel (m.node x) b := by
  have hs := ok.some
  refine ⟨?_, ?_, h.opn_snoc ok _ _, ?_⟩
  · show (m.out ++ [_])[0]? = _
    rw [List.getElem?_append_left hs]
    exact h.root
  · show b.count = (m.out ++ [_]).tail.countP Sk.told
    rw [Sk.count_snoc hs, h.count, if_pos hk]
    rfl
  · show b.out = Sk.skel (m.out ++ [_])
    rw [Sk.skel_snoc hs, h.out]
    unfold Sk.one
    rw [if_pos hk, List.append_nil]
theorem Sb.Rel.put {m : Bt} {b : Sb} (h : Sb.Rel m b) (ok : Bt.Ok m) (hk : (m.nth m.last).kind = 2) (s : ByteArray) : Sb.Rel (m.put s) b := by
  obtain ⟨i, z, e⟩ := Bt.snoc ok.some
  have hz : m.nth m.last = z := by
    unfold Bt.nth Bt.last
    rw [e, List.length_append, List.getElem?_append_right (by simp)]
    simp
  rw [hz] at hk
  have hi : 0 < i.length := by
    cases i with
    | nil =>
      have := h.root
      rw [e] at this
      have : z = ⟨0, Ts.e, Ts.e, [], -1⟩ := by simpa using this
      rw [this] at hk
      exact absurd hk (by decide)
    | cons a l => exact Nat.succ_pos _
  have hp : (m.put s).out = i ++ [{ z with text := z.text ++ s }] := by
    unfold Bt.put
    rw [hz]
    show m.out.set m.last _ = _
    unfold Bt.last
    rw [e, show (i ++ [z]).length - 1 = i.length by simp, List.set_append_right _ _ (Nat.le_refl _), Nat.sub_self]
    rfl
  have hl : m.out.length = i.length + 1 := by rw [e]; simp
  refine ⟨?_, ?_, ?_, ?_⟩
  · rw [hp, List.getElem?_append_left hi]
    have := h.root
    rw [e, List.getElem?_append_left hi] at this
    exact this
  · rw [hp, Sk.count_snoc hi, h.count, e, Sk.count_snoc hi]
  · rw [h.opn]
    show _ = m.opn.map _
    refine List.map_congr_left fun q hq => ?_
    have hlt := ok.lt q hq
    have hnum : Sk.num (m.put s).out q = Sk.num m.out q := by
      rw [hp, e]
      by_cases c : q < i.length
      · rw [Sk.num_snoc _ _ c, Sk.num_snoc _ _ c]
      · have : q = i.length := by omega
        subst this
        rw [Sk.num_last hi, Sk.num_last hi]
    have hnam : ((m.put s).nth q).name = (m.nth q).name := by
      unfold Bt.nth
      rw [hp, e]
      by_cases c : q < i.length
      · rw [List.getElem?_append_left c, List.getElem?_append_left c]
      · have : q = i.length := by omega
        subst this
        simp
    rw [hnum, hnam]
  · rw [hp, Sk.skel_snoc hi, h.out, e, Sk.skel_snoc hi]
    unfold Sk.one
    rw [if_pos hk, if_pos hk]
theorem Sb.Rel.find {m : Bt} {b : Sb} (h : Sb.Rel m b) (n : ByteArray) : ∀ k, k ≤ m.opn.length → b.find n k = m.find n k
  | 0, _ => rfl
  | k + 1, hk => by
    unfold Sb.find Bt.find
    have e : (b.opn.getD k (0, Ts.e)).2 = (m.nth (m.opn.getD k 0)).name := by
      rw [h.opn, List.getD_eq_getElem?_getD, List.getElem?_map, List.getD_eq_getElem?_getD, List.getElem?_eq_getElem (by omega)]
      rfl
    rw [e, Sb.Rel.find h n k (by omega)]
theorem Sb.Rel.token {m : Bt} {b : Sb} (h : Sb.Rel m b) (ok : Bt.Ok m) (t : Tk) : Sb.Rel (m.token t) (b.token t) := by
  have hol : b.opn.length = m.opn.length := by rw [h.opn, List.length_map]
  unfold Bt.token Sb.token
  by_cases k0 : t.kind = 0
  · rw [if_pos k0, if_neg (show ¬ t.kind = 3 by omega), if_neg (show ¬ t.kind = 1 by omega), if_neg (show ¬ t.kind = 2 by omega)]
    split
    · exact h
    · split
      · next q => exact h.put ok q.1 _
      · exact h.text ok _ rfl
  rw [if_neg k0]
  by_cases k3 : t.kind = 3
  · rw [if_pos k3, if_pos k3]
    exact h.node ok _ (show (3 : Int) ≠ 2 by decide)
  rw [if_neg k3, if_neg k3]
  by_cases k1 : t.kind = 1
  · rw [if_pos k1, if_pos k1, hol]
    have hn := h.node ok ⟨1, t.name, Ts.e, t.attrs, 0⟩ (show (1 : Int) ≠ 2 by decide)
    split
    · refine ⟨hn.root, hn.count, ?_, hn.out⟩
      show b.opn ++ [(b.count + 1, t.name)] = (m.opn ++ [m.out.length]).map (fun q => (Sk.num (m.out ++ [⟨1, t.name, Ts.e, t.attrs, (m.top : Int)⟩]) q, (Bt.nth ⟨m.out ++ [⟨1, t.name, Ts.e, t.attrs, (m.top : Int)⟩], m.opn ++ [m.out.length]⟩ q).name))
      rw [List.map_append, ← h.opn_snoc ok ⟨1, t.name, Ts.e, t.attrs, (m.top : Int)⟩ (m.opn ++ [m.out.length])]
      congr 1
      show [(b.count + 1, t.name)] = [(Sk.num (m.out ++ [_]) m.out.length, _)]
      rw [Sk.num_last ok.some, h.count]
      congr 1
      unfold Bt.nth
      show _ = (_, ((m.out ++ [_])[m.out.length]?.getD Nd.zero).name)
      rw [List.getElem?_append_right (Nat.le_refl _), Nat.sub_self]
      rfl
    · exact hn
  rw [if_neg k1, if_neg k1]
  by_cases k2 : t.kind = 2
  · rw [if_pos k2, if_pos k2, hol, h.find _ _ (Nat.le_refl _)]
    split
    · exact h
    · refine ⟨h.root, h.count, ?_, h.out⟩
      show b.opn.take _ = (m.opn.take _).map _
      rw [h.opn, List.map_take]
      rfl
  · rw [if_neg k2, if_neg k2]
    exact h
theorem Sb.Rel.run : ∀ (ts : List Tk) {m : Bt} {b : Sb}, Sb.Rel m b → Bt.Ok m → (Bt.run m ts).2 = true → Sb.Rel (Bt.run m ts).1 (b.run ts)
  | [], m, b, h, _, _ => h
  | t :: ts, m, b, h, ok, hr => by
    unfold Bt.run at hr ⊢
    by_cases q : 4096 < (m.token t).out.length
    · rw [if_pos q] at hr; cases hr
    · rw [if_neg q] at hr ⊢
      exact Sb.Rel.run ts (h.token ok t) (ok.token t) hr
/-- the tree's lines are those of its tokens -/
theorem Sb.skel (ts : List Tk) (hr : (Bt.run Bt.start ts).2 = true) : Sk.skel (Bt.run Bt.start ts).1.out = (Sb.start.run ts).out := (Sb.Rel.run ts Sb.Rel.start Bt.Ok.start hr).out.symm
/-- texts left away -/
def Sb.bare (ts : List Tk) : List Tk := ts.filter fun t => t.kind != 0
theorem Sb.run_bare : ∀ (ts : List Tk) (b : Sb), b.run ts = b.run (Sb.bare ts)
  | [], _ => rfl
  | t :: ts, b => by
    unfold Sb.bare
    rw [List.filter_cons]
    by_cases q : t.kind = 0
    · rw [if_neg (by simp [q])]
      show (b.token t).run ts = _
      have : b.token t = b := by
        unfold Sb.token
        rw [if_neg (by omega), if_neg (by omega), if_neg (by omega)]
      rw [this]
      exact Sb.run_bare ts b
    · rw [if_pos (by simp [q])]
      exact Sb.run_bare ts (b.token t)
theorem Sb.same {ts us : List Tk} (h : Sb.bare ts = Sb.bare us) (h1 : (Bt.run Bt.start ts).2 = true) (h2 : (Bt.run Bt.start us).2 = true) : Sk.skel (Bt.run Bt.start ts).1.out = Sk.skel (Bt.run Bt.start us).1.out := by
  rw [Sb.skel ts h1, Sb.skel us h2, Sb.run_bare ts, Sb.run_bare us, h]
end Go.Proofs.YtblpkjlodncpeaaGreatDoor
/-
  SMALL THINGS for the walks of package tok; the walks of tok.inTag, tok.isBlank, tok.isLetter, tok.to.
-/
namespace Go.Proofs.YtblpkjlodncpeaaGreatDoor
open Go.RowKit
theorem Tp.cells {W w1 : World} (hb : Below W.heap.size W w1) : (∀ b o, b < W.heap.size → w1.cell? ⟨b, o, none⟩ = W.cell? ⟨b, o, none⟩) ∧ (∀ b o, b < W.heap.size → w1.frozen? ⟨b, o, none⟩ = W.frozen? ⟨b, o, none⟩) :=
  ⟨fun b o h => hb.cell (p := ⟨b, o, none⟩) h, fun b o h => hb.frozen (p := ⟨b, o, none⟩) h⟩
theorem Tp.eq_true {c : UInt8} {d : UInt8} (h : c = d) : ((c.toNat : Int) == (d.toNat : Int)) = true := by rw [h]; simp
theorem Tp.eq_false {c : UInt8} {d : UInt8} (h : ¬ c = d) : ((c.toNat : Int) == (d.toNat : Int)) = false := beq_eq_false_iff_ne.2 (fun e => h (UInt8.toNat_inj.1 (by omega)))
/-- behind a store of a state into the variable that is the result -/
theorem Tp.set6 (w : World) (g : Nat) (v0 v1 v2 v3 v4 v5 : Value) {B : Nat} {a : World} (hb : Below B a w) (hg : B ≤ g) : Below B a ((((((w.setCell ⟨g, 0, none⟩ v0).setCell ⟨g, 1, none⟩ v1).setCell ⟨g, 2, none⟩ v2).setCell ⟨g, 3, none⟩ v3).setCell ⟨g, 4, none⟩ v4).setCell ⟨g, 5, none⟩ v5) :=
  (((((hb.setCell (p := ⟨g, 0, none⟩) hg _).setCell (p := ⟨g, 1, none⟩) hg _).setCell (p := ⟨g, 2, none⟩) hg _).setCell (p := ⟨g, 3, none⟩) hg _).setCell (p := ⟨g, 4, none⟩) hg _).setCell (p := ⟨g, 5, none⟩) hg _

structure Vm.Still (p : Prop) : Prop where
  out : p
/-- A PLACE AT WHICH THE WALK STANDS STILL: ahead of the operation that fills this slot -/
theorem Vm.stop (n : Nat) {P : Program} {ops : Array Oper} {Q : Exit → Act → World → Prop} {op : Op} {ty : TypeId} {pos : String} {after : Array Edge} {gd : Option (Nat × Bool)} {rest : List Oper} {a : Act} {w : World} (h : Vm.Still (wpList P ops Q ({ dst := some n, op := op, type := ty, pos := pos, after := after, guard := gd } :: rest) a w)) : wpList P ops Q ({ dst := some n, op := op, type := ty, pos := pos, after := after, guard := gd } :: rest) a w := h.out
/-- .. ahead of a store of this type -/
theorem Vm.stopS (t : TypeId) {P : Program} {ops : Array Oper} {Q : Exit → Act → World → Prop} {x y : Operand} {ty : TypeId} {pos : String} {after : Array Edge} {gd : Option (Nat × Bool)} {rest : List Oper} {a : Act} {w : World} (h : Vm.Still (wpList P ops Q ({ dst := none, op := .store t x y, type := ty, pos := pos, after := after, guard := gd } :: rest) a w)) : wpList P ops Q ({ dst := none, op := .store t x y, type := ty, pos := pos, after := after, guard := gd } :: rest) a w := h.out
/-- six stores into one variable -/
theorem Tp.six (w1 : World) (g : Nat) {u0 u1 u2 u3 u4 u5 : Value} (v0 v1 v2 v3 v4 v5 : Value) (c0 : w1.cell? ⟨g, 0, none⟩ = some u0) (c1 : w1.cell? ⟨g, 1, none⟩ = some u1) (c2 : w1.cell? ⟨g, 2, none⟩ = some u2) (c3 : w1.cell? ⟨g, 3, none⟩ = some u3) (c4 : w1.cell? ⟨g, 4, none⟩ = some u4) (c5 : w1.cell? ⟨g, 5, none⟩ = some u5) (f : ∀ i, w1.frozen? ⟨g, i, none⟩ = false) :
    ∃ W, ((((((w1.setCell ⟨g, 0, none⟩ v0).setCell ⟨g, 1, none⟩ v1).setCell ⟨g, 2, none⟩ v2).setCell ⟨g, 3, none⟩ v3).setCell ⟨g, 4, none⟩ v4).setCell ⟨g, 5, none⟩ v5) = W ∧ W.cell? ⟨g, 0, none⟩ = some v0 ∧ W.cell? ⟨g, 1, none⟩ = some v1 ∧ W.cell? ⟨g, 2, none⟩ = some v2 ∧ W.cell? ⟨g, 3, none⟩ = some v3 ∧ W.cell? ⟨g, 4, none⟩ = some v4 ∧ W.cell? ⟨g, 5, none⟩ = some v5 ∧ (∀ i, W.frozen? ⟨g, i, none⟩ = false) ∧
      (∀ b o, b ≠ g → W.cell? ⟨b, o, none⟩ = w1.cell? ⟨b, o, none⟩) ∧ (∀ b o, W.frozen? ⟨b, o, none⟩ = w1.frozen? ⟨b, o, none⟩) ∧ W.heap.size = w1.heap.size ∧ ∀ B a, B ≤ g → Below B a w1 → Below B a W := by
  refine ⟨_, rfl, ?_, ?_, ?_, ?_, ?_, ?_, ?_, ?_, ?_, by simp, fun B a hB hb => Tp.set6 _ _ _ _ _ _ _ _ hb hB⟩
  · simp [go_sem, c0]
  · simp [go_sem, c1]
  · simp [go_sem, c2]
  · simp [go_sem, c3]
  · simp [go_sem, c4]
  · simp [go_sem, c5]
  · intro i; simp [f]
  · intro b o hb
    have e : ∀ j, (⟨g, j, none⟩ : Addr) ≠ ⟨b, o, none⟩ := fun j e => hb (by injection e with e1; exact e1.symm)
    rw [World.cell?_setCell_other (h := e 5), World.cell?_setCell_other (h := e 4), World.cell?_setCell_other (h := e 3), World.cell?_setCell_other (h := e 2), World.cell?_setCell_other (h := e 1), World.cell?_setCell_other (h := e 0)]
  · intro b o; simp
/-- a cell that was there is as it was -/
theorem Tp.keep {W w1 : World} (hb : Below W.heap.size W w1) {b o : Nat} {v : Value} (h : W.cell? ⟨b, o, none⟩ = some v) : w1.cell? ⟨b, o, none⟩ = some v :=
  (hb.cell (p := ⟨b, o, none⟩) (World.block_lt_of_cell? _ _ h)).trans h
theorem Tp.keepF {W w1 : World} (hb : Below W.heap.size W w1) {b : Nat} (hlt : b < W.heap.size) (h : ∀ i, W.frozen? ⟨b, i, none⟩ = false) : ∀ i, w1.frozen? ⟨b, i, none⟩ = false :=
  fun i => (hb.frozen (p := ⟨b, i, none⟩) hlt).trans (h i)
theorem Tp.inTag (a : Int) (w : World) : Calls Tryz.prog 76 #[.int .i64 a] w fun e w' => e = .returned (.bool (Ts.inTag a)) ∧ w' = w := by
  unfold Ts.inTag
  by_cases g1 : 3 ≤ a
  · have d1 : decide (3 ≤ a) = true := decide_eq_true g1
    by_cases g2 : a ≤ 12
    · have d2 : decide (a ≤ 12) = true := decide_eq_true g2
      go_enter Tryz.func76, Tryz.ntmps76
      go_wp2
      go_ret
      simp [g1, g2]
    · have d2 : decide (a ≤ 12) = false := decide_eq_false g2
      go_enter Tryz.func76, Tryz.ntmps76
      go_wp2
      go_ret
      simp
  · have d1 : decide (3 ≤ a) = false := decide_eq_false g1
    go_enter Tryz.func76, Tryz.ntmps76
    go_wp2
    go_ret
    simp
end Go.Proofs.YtblpkjlodncpeaaGreatDoor
/-
  THE WALK of tok.to.
-/
namespace Go.Proofs.YtblpkjlodncpeaaGreatDoor
open Go.RowKit
theorem Tp.ret {a b : Ts} (h : a = b) : Ending.returned (.agg #[.int .i64 a.pl, .string a.name, .bool a.fin, .string a.attr, .string a.held, .int .i64 a.read]) = .returned (.agg #[.int .i64 b.pl, .string b.name, .bool b.fin, .string b.attr, .string b.held, .int .i64 b.read]) := by rw [h]
theorem Tp.two (w : World) (o o' : Obj) : Below w.heap.size w ((w.alloc o).alloc o') := ((Below.refl _ _).alloc (Nat.le_refl _) _).alloc (by simp) _
/-- what lies in two boxes of six cells, behind a call -/
theorem Tp.kp {w w1 : World} {v0 v1 v2 v3 v4 v5 u0 u1 u2 u3 u4 u5 : Value} {T U : TypeId} (hb1 : Below ((w.alloc (.cells #[v0, v1, v2, v3, v4, v5] T)).alloc (.cells #[u0, u1, u2, u3, u4, u5] U)).heap.size ((w.alloc (.cells #[v0, v1, v2, v3, v4, v5] T)).alloc (.cells #[u0, u1, u2, u3, u4, u5] U)) w1) :
    w.heap.size < w1.heap.size ∧ w.heap.size + 1 < w1.heap.size ∧ w1.cell? ⟨w.heap.size, 0, none⟩ = some v0 ∧ w1.cell? ⟨w.heap.size, 1, none⟩ = some v1 ∧ w1.cell? ⟨w.heap.size, 2, none⟩ = some v2 ∧ w1.cell? ⟨w.heap.size, 3, none⟩ = some v3 ∧ w1.cell? ⟨w.heap.size, 4, none⟩ = some v4 ∧ w1.cell? ⟨w.heap.size, 5, none⟩ = some v5 ∧ (∀ i, w1.frozen? ⟨w.heap.size, i, none⟩ = false) ∧ w1.cell? ⟨w.heap.size + 1, 0, none⟩ = some u0 ∧ w1.cell? ⟨w.heap.size + 1, 1, none⟩ = some u1 ∧ w1.cell? ⟨w.heap.size + 1, 2, none⟩ = some u2 ∧ w1.cell? ⟨w.heap.size + 1, 3, none⟩ = some u3 ∧ w1.cell? ⟨w.heap.size + 1, 4, none⟩ = some u4 ∧ w1.cell? ⟨w.heap.size + 1, 5, none⟩ = some u5 ∧ (∀ i, w1.frozen? ⟨w.heap.size + 1, i, none⟩ = false) ∧ Below w.heap.size w w1 := by
  have hz := hb1.size
  simp at hz
  refine ⟨by omega, by omega, ?_, ?_, ?_, ?_, ?_, ?_, fun i => (hb1.frozen (p := ⟨w.heap.size, i, none⟩) (by simp; omega)).trans (by simp), ?_, ?_, ?_, ?_, ?_, ?_, fun i => (hb1.frozen (p := ⟨w.heap.size + 1, i, none⟩) (by simp)).trans (by simp), (Tp.two _ _ _).trans (hb1.mono (by simp; omega))⟩
  all_goals first | exact (hb1.cell (p := ⟨w.heap.size, _, none⟩) (by simp; omega)).trans (by simp) | exact (hb1.cell (p := ⟨w.heap.size + 1, _, none⟩) (by simp)).trans (by simp)
theorem Tp.to (s : Ts) (a : Int) (w : World) : Calls Tryz.prog 98 #[.agg #[.int .i64 s.pl, .string s.name, .bool s.fin, .string s.attr, .string s.held, .int .i64 s.read], .int .i64 a] w fun e w' => e = .returned (.agg #[.int .i64 (s.to a).pl, .string (s.to a).name, .bool (s.to a).fin, .string (s.to a).attr, .string (s.to a).held, .int .i64 (s.to a).read]) ∧ Below w.heap.size w w' := by
  cases ht : Ts.inTag a
  all_goals
    by_cases g1 : a < 5
    all_goals
      by_cases g2 : 10 < a
      all_goals
        by_cases g3 : a < 19
        all_goals
          by_cases g4 : a = 22
          all_goals first | (exfalso; omega) | skip
  all_goals
    have H1 := Lib.hid g1
    have H2 := Lib.hid g2
    have H3 := Lib.hid g3
    have H4 := Lib.hid g4
    try (have d1 : decide (a < 5) = true := decide_eq_true g1)
    try (have d1 : decide (a < 5) = false := decide_eq_false g1)
    try (have d2 : decide (10 < a) = true := decide_eq_true g2)
    try (have d2 : decide (10 < a) = false := decide_eq_false g2)
    try (have d3 : decide (a < 19) = true := decide_eq_true g3)
    try (have d3 : decide (a < 19) = false := decide_eq_false g3)
    try (have d4 : (a != 22) = false := by simp [g4])
    try (have d4 : (a != 22) = true := by simp [g4])
    clear g4
    go_enter Tryz.func98, Tryz.ntmps98
    go_wp2_with (go_at_call 76; refine (Tp.inTag a _).mono ?_; rintro e w' ⟨rfl, rfl⟩)
    refine bodyPost_ret (v := .agg #[.int .i64 (s.to a).pl, .string (s.to a).name, .bool (s.to a).fin, .string (s.to a).attr, .string (s.to a).held, .int .i64 (s.to a).read]) ?_ rfl ⟨rfl, Tp.two _ _ _⟩
    have K1 := H1.out
    have K2 := H2.out
    have K3 := H3.out
    have K4 := H4.out
    have ha : Ts.hasAttr a = (!decide (a < 5) && !decide (10 < a)) := by unfold Ts.hasAttr; rw [Bool.eq_iff_iff]; simp
    have hh : decide (19 ≤ a) = !decide (a < 19) := by rw [Bool.eq_iff_iff]; simp
    clear K1 K2 H1 H2 H3 H4
    rw [d1, d2] at ha
    rw [d3] at hh
    simp only [Bool.not_true, Bool.not_false, Bool.and_true, Bool.and_false, decide_eq_true_eq, decide_eq_false_iff_not] at hh ha
    simp [results, Tryz.results98, go_sem, Ts.to, ht, ha, hh, K4, Ts.e] <;> first | (rw [K4] at ht; exact absurd ht (by decide)) | simp [Ts.inTag, Ts.hasAttr]
end Go.Proofs.YtblpkjlodncpeaaGreatDoor
/-
  The library's contracts that the walks lean on, laid at this program's own numbers: strings.Builder's Grow, WriteString and String, and strings.HasPrefix; each is one application of a theorem of the library.
-/
namespace Go.Proofs.YtblpkjlodncpeaaGreatDoor
open Go.Shelf
def Sh.lays169_ren : Go.Shelf.Ren := ⟨fun | 169 => 114 | n => n, fun | 70 => 122 | 9 => 9 | 0 => 0 | 72 => 124 | 37 => 43 | 127 => 111 | 3 => 3 | 5 => 5 | n => n, fun | n => n⟩
theorem Sh.lays169 : Go.Proofs.Lays.n169 Tryz.prog Sh.lays169_ren := {
  mixed := by kernel_rfl
  f169 := Tryz.func114.trans (congrArg some (by kernel_rfl))
  t0 := Tryz.underlying0
  a0 := Tryz.isAgg0
  z0 := Tryz.sizeOf0
  v0 := Tryz.zeroValue0
  t3 := Tryz.underlying3
  a3 := Tryz.isAgg3
  z3 := Tryz.sizeOf3
  v3 := Tryz.zeroValue3
  t9 := Tryz.underlying9
  a9 := Tryz.isAgg9
  z9 := Tryz.sizeOf9
  v9 := Tryz.zeroValue9
  t37 := Tryz.underlying43
  a37 := Tryz.isAgg43
  z37 := Tryz.sizeOf43
  v37 := Tryz.zeroValue43
  t70 := Tryz.underlying122
  a70 := Tryz.isAgg122
  z70 := Tryz.sizeOf122
  v70 := Tryz.zeroValue122
  t72 := Tryz.underlying124
  a72 := Tryz.isAgg124
  z72 := Tryz.sizeOf124
  v72 := Tryz.zeroValue124
  t127 := Tryz.underlying111
  a127 := Tryz.isAgg111
  z127 := Tryz.sizeOf111
  v127 := Tryz.zeroValue111 }
theorem Sh.Builder_Extra_169 : Builder.Extra Tryz.prog Sh.lays169_ren := {
  sizeBuilder := by kernel_rfl
  liesBuilder := by kernel_rfl
  t5 := Tryz.underlying5
  a5 := Tryz.isAgg5
  z5 := Tryz.sizeOf5
  v5 := Tryz.zeroValue5
  infoByte := by kernel_rfl
  cellsByte := by kernel_rfl
  sizeByte := by kernel_rfl
  neB5 := by decide }
def Sh.lays165_ren : Go.Shelf.Ren := ⟨fun | 165 => 110 | 240 => 135 | 241 => 136 | 276 => 158 | 277 => 159 | n => n, fun | 70 => 122 | 3 => 3 | 0 => 0 | 4 => 4 | 9 => 9 | 20 => 20 | 72 => 124 | 37 => 43 | 164 => 157 | 5 => 5 | n => n, fun | n => n⟩
theorem Sh.lays165 : Go.Proofs.Lays.n165 Tryz.prog Sh.lays165_ren := {
  mixed := by kernel_rfl
  f165 := Tryz.func110.trans (congrArg some (by kernel_rfl))
  f240 := Tryz.func135.trans (congrArg some (by kernel_rfl))
  f241 := Tryz.func136.trans (congrArg some (by kernel_rfl))
  f276 := Tryz.func158.trans (congrArg some (by kernel_rfl))
  f277 := Tryz.func159.trans (congrArg some (by kernel_rfl))
  t0 := Tryz.underlying0
  a0 := Tryz.isAgg0
  z0 := Tryz.sizeOf0
  v0 := Tryz.zeroValue0
  t3 := Tryz.underlying3
  a3 := Tryz.isAgg3
  z3 := Tryz.sizeOf3
  v3 := Tryz.zeroValue3
  t4 := Tryz.underlying4
  a4 := Tryz.isAgg4
  z4 := Tryz.sizeOf4
  v4 := Tryz.zeroValue4
  t9 := Tryz.underlying9
  a9 := Tryz.isAgg9
  z9 := Tryz.sizeOf9
  v9 := Tryz.zeroValue9
  t20 := Tryz.underlying20
  a20 := Tryz.isAgg20
  z20 := Tryz.sizeOf20
  v20 := Tryz.zeroValue20
  t37 := Tryz.underlying43
  a37 := Tryz.isAgg43
  z37 := Tryz.sizeOf43
  v37 := Tryz.zeroValue43
  t70 := Tryz.underlying122
  a70 := Tryz.isAgg122
  z70 := Tryz.sizeOf122
  v70 := Tryz.zeroValue122
  t72 := Tryz.underlying124
  a72 := Tryz.isAgg124
  z72 := Tryz.sizeOf124
  v72 := Tryz.zeroValue124
  t164 := Tryz.underlying157
  a164 := Tryz.isAgg157
  z164 := Tryz.sizeOf157
  v164 := Tryz.zeroValue157 }
theorem Sh.Builder_Extra_165 : Builder.Extra Tryz.prog Sh.lays165_ren := {
  sizeBuilder := by kernel_rfl
  liesBuilder := by kernel_rfl
  t5 := Tryz.underlying5
  a5 := Tryz.isAgg5
  z5 := Tryz.sizeOf5
  v5 := Tryz.zeroValue5
  infoByte := by kernel_rfl
  cellsByte := by kernel_rfl
  sizeByte := by kernel_rfl
  neB5 := by decide }
open Go.RowKit in
theorem Sh.Builder_Grow_fresh (B b n : Nat) (w : World) (hB : B ≤ b) (hbk : w.heap[b]? = some (.cells #[.pointer none, .slice none 0 0] 124 (0, 0))) (hBw : B ≤ w.heap.size) (hn : n ≤ 281474976710656) :
    Calls Tryz.prog 110 #[.pointer (some ⟨b, 0, none⟩), .int .i64 n] w fun e w' => e = .returned (.tuple #[]) ∧ (Lib.BuilderAt 124 5 B b (.pointer (some ⟨b, 0, none⟩)) [] w' ∧ Below B w w') := Any.Builder_Grow_fresh Sh.lays165 Sh.Builder_Extra_165 B b n w hB hbk hBw hn
open Go.RowKit in
theorem Sh.Builder_String_any_k (B b : Nat) (l : List UInt8) (w : World) (h : Lib.IsBuilderF 124 5 B b (Lib.byteCells l) w) (hBw : B ≤ w.heap.size) :
    Calls Tryz.prog 114 #[.pointer (some ⟨b, 0, none⟩)] w fun e w' => e = .returned (.string ⟨l.toArray⟩) ∧ (Lib.IsBuilderF 124 5 B b (Lib.byteCells l) w' ∧ Below B w w' ∧ Lib.OthersKept 5 (some b) w w') := Any.Builder_String_any_k Sh.lays169 Sh.Builder_Extra_169 B b l w h hBw
def Sh.lays166_ren : Go.Shelf.Ren := ⟨fun | 166 => 113 | 240 => 135 | 276 => 158 | n => n, fun | 70 => 122 | 3 => 3 | 0 => 0 | 4 => 4 | 9 => 9 | 20 => 20 | 72 => 124 | 37 => 43 | 164 => 157 | 5 => 5 | 75 => 128 | 80 => 132 | n => n, fun | n => n⟩
theorem Sh.lays166 : Go.Proofs.Lays.n166 Tryz.prog Sh.lays166_ren := {
  mixed := by kernel_rfl
  f166 := Tryz.func113.trans (congrArg some (by kernel_rfl))
  f240 := Tryz.func135.trans (congrArg some (by kernel_rfl))
  f276 := Tryz.func158.trans (congrArg some (by kernel_rfl))
  t0 := Tryz.underlying0
  a0 := Tryz.isAgg0
  z0 := Tryz.sizeOf0
  v0 := Tryz.zeroValue0
  t3 := Tryz.underlying3
  a3 := Tryz.isAgg3
  z3 := Tryz.sizeOf3
  v3 := Tryz.zeroValue3
  t4 := Tryz.underlying4
  a4 := Tryz.isAgg4
  z4 := Tryz.sizeOf4
  v4 := Tryz.zeroValue4
  t9 := Tryz.underlying9
  a9 := Tryz.isAgg9
  z9 := Tryz.sizeOf9
  v9 := Tryz.zeroValue9
  t20 := Tryz.underlying20
  a20 := Tryz.isAgg20
  z20 := Tryz.sizeOf20
  v20 := Tryz.zeroValue20
  t37 := Tryz.underlying43
  a37 := Tryz.isAgg43
  z37 := Tryz.sizeOf43
  v37 := Tryz.zeroValue43
  t70 := Tryz.underlying122
  a70 := Tryz.isAgg122
  z70 := Tryz.sizeOf122
  v70 := Tryz.zeroValue122
  t72 := Tryz.underlying124
  a72 := Tryz.isAgg124
  z72 := Tryz.sizeOf124
  v72 := Tryz.zeroValue124
  t75 := Tryz.underlying128
  a75 := Tryz.isAgg128
  z75 := Tryz.sizeOf128
  v75 := Tryz.zeroValue128
  t164 := Tryz.underlying157
  a164 := Tryz.isAgg157
  z164 := Tryz.sizeOf157
  v164 := Tryz.zeroValue157 }
theorem Sh.Builder_Extra_166 : Builder.Extra Tryz.prog Sh.lays166_ren := {
  sizeBuilder := by kernel_rfl
  liesBuilder := by kernel_rfl
  t5 := Tryz.underlying5
  a5 := Tryz.isAgg5
  z5 := Tryz.sizeOf5
  v5 := Tryz.zeroValue5
  infoByte := by kernel_rfl
  cellsByte := by kernel_rfl
  sizeByte := by kernel_rfl
  neB5 := by decide }
open Go.RowKit in
theorem Sh.Builder_WriteString_k (B b : Nat) (bs : List Value) (s : ByteArray) (w : World) (h : Lib.IsBuilderF 124 5 B b bs w) (hlen : bs.length + s.size ≤ 140737488355328) (hBw : B ≤ w.heap.size) :
    Calls Tryz.prog 113 #[.pointer (some ⟨b, 0, none⟩), .string s] w fun e w' => e = .returned (.tuple #[.int .i64 s.size, .nilIface]) ∧ (Lib.BuilderAtF 124 5 B b (.pointer (some ⟨b, 0, none⟩)) (bs ++ Lib.strCells s) w' ∧ Below B w w' ∧ Lib.OthersKept 5 (some b) w w') := Any.Builder_WriteString_k Sh.lays166 Sh.Builder_Extra_166 B b bs s w h hlen hBw
def Sh.lays167_ren : Go.Shelf.Ren := ⟨fun | 167 => 112 | 240 => 135 | 276 => 158 | n => n, fun | 70 => 122 | 3 => 3 | 0 => 0 | 4 => 4 | 9 => 9 | 20 => 20 | 72 => 124 | 37 => 43 | 164 => 157 | 5 => 5 | 75 => 128 | 80 => 132 | n => n, fun | n => n⟩
theorem Sh.lays167 : Go.Proofs.Lays.n167 Tryz.prog Sh.lays167_ren := {
  mixed := by kernel_rfl
  f167 := Tryz.func112.trans (congrArg some (by kernel_rfl))
  f240 := Tryz.func135.trans (congrArg some (by kernel_rfl))
  f276 := Tryz.func158.trans (congrArg some (by kernel_rfl))
  t0 := Tryz.underlying0
  a0 := Tryz.isAgg0
  z0 := Tryz.sizeOf0
  v0 := Tryz.zeroValue0
  t4 := Tryz.underlying4
  a4 := Tryz.isAgg4
  z4 := Tryz.sizeOf4
  v4 := Tryz.zeroValue4
  t5 := Tryz.underlying5
  a5 := Tryz.isAgg5
  z5 := Tryz.sizeOf5
  v5 := Tryz.zeroValue5
  t9 := Tryz.underlying9
  a9 := Tryz.isAgg9
  z9 := Tryz.sizeOf9
  v9 := Tryz.zeroValue9
  t20 := Tryz.underlying20
  a20 := Tryz.isAgg20
  z20 := Tryz.sizeOf20
  v20 := Tryz.zeroValue20
  t37 := Tryz.underlying43
  a37 := Tryz.isAgg43
  z37 := Tryz.sizeOf43
  v37 := Tryz.zeroValue43
  t70 := Tryz.underlying122
  a70 := Tryz.isAgg122
  z70 := Tryz.sizeOf122
  v70 := Tryz.zeroValue122
  t72 := Tryz.underlying124
  a72 := Tryz.isAgg124
  z72 := Tryz.sizeOf124
  v72 := Tryz.zeroValue124
  t75 := Tryz.underlying128
  a75 := Tryz.isAgg128
  z75 := Tryz.sizeOf128
  v75 := Tryz.zeroValue128
  t164 := Tryz.underlying157
  a164 := Tryz.isAgg157
  z164 := Tryz.sizeOf157
  v164 := Tryz.zeroValue157 }
theorem Sh.Builder_Extra_167 : Builder.Extra Tryz.prog Sh.lays167_ren := {
  sizeBuilder := by kernel_rfl
  liesBuilder := by kernel_rfl
  t5 := Tryz.underlying5
  a5 := Tryz.isAgg5
  z5 := Tryz.sizeOf5
  v5 := Tryz.zeroValue5
  infoByte := by kernel_rfl
  cellsByte := by kernel_rfl
  sizeByte := by kernel_rfl
  neB5 := by decide }
open Go.RowKit in
theorem Sh.Builder_WriteByte_k (B b : Nat) (bs : List Value) (c : Int) (w : World) (h : Lib.IsBuilderF 124 5 B b bs w) (hlen : bs.length + 1 ≤ 140737488355328) (hBw : B ≤ w.heap.size) :
    Calls Tryz.prog 112 #[.pointer (some ⟨b, 0, none⟩), .int .u8 c] w fun e w' => e = .returned .nilIface ∧ (Lib.BuilderAtF 124 5 B b (.pointer (some ⟨b, 0, none⟩)) (bs ++ [.int .u8 c]) w' ∧ Below B w w' ∧ Lib.OthersKept 5 (some b) w w') := Any.Builder_WriteByte_k Sh.lays167 Sh.Builder_Extra_167 B b bs c w h hlen hBw
def Sh.lays99_ren : Go.Shelf.Ren := ⟨fun | 99 => 137 | 206 => 160 | n => n, fun | 9 => 9 | 3 => 3 | 4 => 4 | n => n, fun | n => n⟩
theorem Sh.lays99 : Go.Proofs.Lays.n99 Tryz.prog Sh.lays99_ren := {
  mixed := by kernel_rfl
  f99 := Tryz.func137.trans (congrArg some (by kernel_rfl))
  f206 := Tryz.func160.trans (congrArg some (by kernel_rfl))
  t3 := Tryz.underlying3
  a3 := Tryz.isAgg3
  z3 := Tryz.sizeOf3
  v3 := Tryz.zeroValue3
  t4 := Tryz.underlying4
  a4 := Tryz.isAgg4
  z4 := Tryz.sizeOf4
  v4 := Tryz.zeroValue4
  t9 := Tryz.underlying9
  a9 := Tryz.isAgg9
  z9 := Tryz.sizeOf9
  v9 := Tryz.zeroValue9 }
open Go.RowKit in
theorem Sh.strings_HasPrefix (s p : ByteArray) (w : World) :
    Calls Tryz.prog 137 #[.string s, .string p] w fun e w' => e = .returned (.bool (Lib.hasPrefix s.data.toList p.data.toList)) ∧ w' = w := Any.strings_HasPrefix Sh.lays99 s p w
end Go.Proofs.YtblpkjlodncpeaaGreatDoor
/-
  SMALL THINGS for walks over strings; the walk of stolelaw0.Num at 0.
-/
namespace Go.Proofs.YtblpkjlodncpeaaGreatDoor
open Go.RowKit
theorem Wk.rest_data (s : ByteArray) (k : Nat) : (s.extract k s.size).data.toList = s.data.toList.drop k := by
  rw [Lib.extract_data, List.take_of_length_le]
  rw [List.length_drop, Array.length_toList]
  exact Nat.le_refl _
theorem Wk.len_data (s : ByteArray) : s.data.toList.length = s.size := by rw [Array.length_toList]; rfl
theorem Wk.ret_bool {a b : Bool} (h : a = b) : Ending.returned (.bool a) = .returned (.bool b) := by rw [h]
theorem Wk.info5 : (Tryz.prog.info? 5).map (fun i => (i.zero, i.size, i.bytes)) = some (some (.int .u8 0), 1, 1) := by kernel_rfl
theorem Wk.low (c : UInt8) (w : World) :
    Calls Tryz.prog 173 #[.int .u8 c.toNat] w fun e w' => e = .returned (.int .u8 (Pl.lowB c).toNat) ∧ w' = w := by
  have hc := c.toNat_lt
  have hl := Pl.lowB_toNat c
  generalize (Pl.lowB c).toNat = m at *
  generalize c.toNat = k at *
  by_cases h1 : 65 ≤ k
  · by_cases h2 : k ≤ 90
    · rw [if_pos ⟨h1, h2⟩] at hl
      subst hl
      go_enter Tryz.func173, Tryz.ntmps173
      go_wp2
      go_ret
      exact ⟨by simp, rfl⟩
    · rw [if_neg (by omega)] at hl
      subst hl
      go_enter Tryz.func173, Tryz.ntmps173
      go_wp2
      go_ret
      exact ⟨rfl, rfl⟩
  · rw [if_neg (by omega)] at hl
    subst hl
    go_enter Tryz.func173, Tryz.ntmps173
    go_wp2
    go_ret
    exact ⟨rfl, rfl⟩
end Go.Proofs.YtblpkjlodncpeaaGreatDoor
/-
  SMALL THINGS: a Builder in a world that has grown; a text from one place to another.
-/
namespace Go.Proofs.YtblpkjlodncpeaaGreatDoor
open Go.RowKit

theorem Wk.atF_below {T e : TypeId} {B b : Nat} {p : Value} {bs : List Value} {W W' : World} (h : Lib.BuilderAtF T e B b p bs W) (hb : Below W.heap.size W W') : Lib.BuilderAtF T e B b p bs W' := by
  have hlt := h.lt
  obtain ⟨hB, v, hv, hown, hne⟩ := h
  exact ⟨hB, v, (hb.block b hlt).trans hv, hown.kept (row := none) ⟨hb.os, hb.tape, hb.output, hb.size, fun k hk _ => hb.block k hk⟩ (Classical.em _), hne⟩
theorem Wk.isF_below {T e : TypeId} {B b : Nat} {bs : List Value} {W W' : World} (h : Lib.IsBuilderF T e B b bs W) (hb : Below W.heap.size W W') : Lib.IsBuilderF T e B b bs W' :=
  h.elim (fun x => .inl (Wk.atF_below x hb)) (fun x => .inr (Wk.atF_below x hb))
/-- a text from one place to another -/
theorem Wk.run_cut (w : World) (s : ByteArray) (l h : Int) (h0 : 0 ≤ l) (h1 : l ≤ h) (h2 : h ≤ s.size) :
    (Instr.slice 9 (.string s) (some (.int .i64 l)) (some (.int .i64 h)) none).run Tryz.prog w = .ok (.string (s.extract l.toNat h.toNat)) w := by
  have eh : (h.toNat : Int) = h := Int.toNat_of_nonneg (by omega)
  simp [Instr.slice, run_underlying Tryz.underlying9, Instr.sliceBounds, run_sliceBound, h0, h1, h2, eh, (by omega : 0 ≤ h)]
theorem Wk.ret_str {a b : List UInt8} (h : a = b) : Ending.returned (.string ⟨a.toArray⟩) = .returned (.string ⟨b.toArray⟩) := by rw [h]

end Go.Proofs.YtblpkjlodncpeaaGreatDoor

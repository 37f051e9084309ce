/-
  ROWS OF COMMANDS, each one's arguments in another row; what is known of the arguments' paths is P.
-/
import Derived.Test.YtjppobeomocgbaaGreatDoorTKArg2toKRow
import Derived.Test.YtjppobeomocgbaaGreatDoorTIParsetoOCur
import Derived.Test.YtjppobeomocgbaaGreatDoorTMNesttoNPlain
import Derived.Test.YtjppobeomocgbaaGreatDoorTMPlaintoISame
import Derived.Test.YtjppobeomocgbaaGreatDoorTMSametoMRow1
import Derived.Laws.OwnMore
import Derived.Deep.QuietTactic
import Derived.Deep.RegionLaw
namespace Go.Proofs.YtjppobeomocgbaaGreatDoor
open Go.RowKit
/-- arguments in a row of their own -/
structure Ko.Args (w : World) (base : Nat) (P : Nat → List (List UInt8) → Value → Prop) (l : List Ar) (v : Value) (xs : List Value) : Prop where
  own : w.ownsRow base 43 5 v l.length xs
  arg : ∀ i x, l[i]? = some x → ∃ pv, P i x.path pv ∧ ∀ r u, (Ar.five x pv)[r]? = some u → xs[i * 5 + r]? = some u
section
variable {w w' : World} {base : Nat} {P : Nat → List (List UInt8) → Value → Prop} {l : List Ar} {v : Value} {xs : List Value}
theorem Ko.Args.on (h : Ko.Args w base P l v xs) (hb : ∀ k, v.ownBlock = some k → w'.heap[k]? = w.heap[k]?) : Ko.Args w' base P l v xs := ⟨Rm.own_on h.own hb, h.arg⟩
theorem Ko.Args.below (h : Ko.Args w base P l v xs) (hb : Below w.heap.size w w') : Ko.Args w' base P l v xs := h.on fun k hk => hb.block k (h.own.lt k hk).2
theorem Ko.Args.imp (h : Ko.Args w base P l v xs) {Q : Nat → List (List UInt8) → Value → Prop} (hq : ∀ i p pv, i < l.length → P i p pv → Q i p pv) : Ko.Args w base Q l v xs :=
  ⟨h.own, fun i x hi => by
    obtain ⟨pv, h1, h2⟩ := h.arg i x hi
    exact ⟨pv, hq i _ _ (List.getElem?_eq_some_iff.1 hi).1 h1, h2⟩⟩
theorem Ko.Args.lower (h : Ko.Args w base P l v xs) {b2 : Nat} (hb : b2 ≤ base) : Ko.Args w b2 P l v xs := ⟨Kr.low h.own hb, h.arg⟩
theorem Kr.Args.gen {w0 : World} (h : Kr.Args w0 w base l v xs) : Ko.Args w base (fun _ => St.Lies w0 (fun _ => True)) l v xs := ⟨h.own, h.arg⟩
/-- a row's cells lie in memory -/
theorem Kr.put {α : Type} {k : Nat} {f : α → List Dt} {R : Nat → Prop} {l : List α} {e : TypeId} (hk : ∀ x, (f x).length = k) (hk0 : 0 < k) (h : w.ownsRow base e k v l.length xs) (hR : ∀ b, v.ownBlock = some b → R b)
    (hc : ∀ i x, l[i]? = some x → ∀ r y, (f x)[r]? = some y → ∃ u, xs[i * k + r]? = some u ∧ Dt.Lies w R y u) : Dt.Lies w R (Dt.rows k f l) v := by
  have hce := fun g hg => h.cells (g := g) hg
  rcases h.2 with ⟨rfl, hn⟩ | ⟨b, cap, cur, rfl, hbg, hg, hnc, hcm, hcs, htake⟩
  · have : l = [] := List.eq_nil_of_length_eq_zero hn
    subst this
    exact Dt.Lies.nil _ _ _ _
  · refine Dt.Lies.put hk hk0 hnc hcm fun i x hi => ⟨b, 0, rfl, hR b rfl, fun r y hr => ?_⟩
    obtain ⟨u, h1, h2⟩ := hc i x hi r y hr
    have c0 := hce b rfl _ _ h1
    rw [Ro.add] at c0
    rw [Nat.zero_add] at c0
    exact ⟨u, by rw [Nat.zero_add]; exact c0, h2⟩
theorem Ko.Args.lies {R : Nat → Prop} (h : Ko.Args w base (fun _ => St.Lies w R) l v xs) (hR : ∀ b, v.ownBlock = some b → R b) : Dt.Lies w R (Ar.rows l) v :=
  Kr.put (fun _ => rfl) (by decide) h.own hR fun i x hi r y hr => by
    obtain ⟨pv, h1, h2⟩ := h.arg i x hi
    obtain ⟨u, h3, h4⟩ := Ar.cells h1 r y hr
    exact ⟨u, h2 r u h3, h4⟩
end
/-- commands in a row of their own, each one's arguments in another -/
structure Kr.Cmds (w : World) (base : Nat) (P : Nat → Nat → List (List UInt8) → Value → Prop) (cs : List Cm) (v : Value) (xs : List Value) (av : Nat → Value) (ys : Nat → List Value) : Prop where
  own : w.ownsRow base 46 2 v cs.length xs
  cell : ∀ i c, cs[i]? = some c → xs[i * 2]? = some (.string ⟨c.fn.toArray⟩) ∧ xs[i * 2 + 1]? = some (av i)
  args : ∀ i c, cs[i]? = some c → Ko.Args w base (P i) c.args (av i) (ys i)
  apart : ∀ i, i < cs.length → ∀ b, (av i).ownBlock = some b → v.ownBlock ≠ some b
  apart2 : ∀ i j, i < cs.length → j < cs.length → i ≠ j → ∀ b, (av i).ownBlock = some b → (av j).ownBlock ≠ some b
/-- a function that has one value more -/
def Kr.more {α : Type} (n : Nat) (f : Nat → α) (x : α) : Nat → α := fun i => if i = n then x else f i
section
variable {w w' : World} {base : Nat} {P : Nat → Nat → List (List UInt8) → Value → Prop} {cs : List Cm} {v : Value} {xs : List Value} {av : Nat → Value} {ys : Nat → List Value}
theorem Kr.Cmds.on (h : Kr.Cmds w base P cs v xs av ys) (hb : ∀ k, base ≤ k → k < w.heap.size → w'.heap[k]? = w.heap[k]?) : Kr.Cmds w' base P cs v xs av ys :=
  ⟨Rm.own_on h.own (fun k hk => hb k (h.own.lt k hk).1 (h.own.lt k hk).2), h.cell, fun i c hi => (h.args i c hi).on fun k hk => hb k ((h.args i c hi).own.lt k hk).1 ((h.args i c hi).own.lt k hk).2, h.apart, h.apart2⟩
theorem Kr.Cmds.kept (h : Kr.Cmds w base P cs v xs av ys) {g : Nat} (hk : Kc.Kept w w' g) (hg : g < base) : Kr.Cmds w' base P cs v xs av ys := h.on fun k h1 h2 => hk.block k h2 (by omega)
theorem Kr.Cmds.below (h : Kr.Cmds w base P cs v xs av ys) (hb : Below w.heap.size w w') : Kr.Cmds w' base P cs v xs av ys := h.on fun k _ h2 => hb.block k h2
/-- one command, laid anew -/
theorem Kr.Cmds.one {w1 : World} {c : Cm} {a1 : Option Addr} {n1 d1 : Nat} {zs : List Value} (ha : Ko.Args w1 base (P 0) c.args (.slice a1 n1 d1) zs) (hb : base ≤ w1.heap.size) :
    Kr.Cmds (w1.alloc (.cells #[.string ⟨c.fn.toArray⟩, .slice a1 n1 d1] 46)) base P [c] (.slice (some ⟨w1.heap.size, 0, none⟩) 1 1) [.string ⟨c.fn.toArray⟩, .slice a1 n1 d1] (fun _ => .slice a1 n1 d1) (fun _ => zs) := by
  refine ⟨World.ownsRow_lit w1 #[.string ⟨c.fn.toArray⟩, .slice a1 n1 d1] 1 hb (by decide) rfl, fun i x hi => ?_, fun i x hi => ?_, fun i _ b hb q => ?_, fun i j hi hj hne => ?_⟩
  · match i, hi with
    | 0, hi =>
      have hi : c = x := Option.some.inj hi
      subst hi
      exact ⟨rfl, rfl⟩
    | i + 1, hi => simp at hi
  · match i, hi with
    | 0, hi =>
      have hi : c = x := Option.some.inj hi
      subst hi
      exact ha.below ((Below.refl _ _).alloc (Nat.le_refl _) _)
    | i + 1, hi => simp at hi
  · have e : w1.heap.size = b := Option.some.inj q
    have := (ha.own.lt b hb).2
    omega
  · simp at hi hj
    omega
/-- a command more -/
theorem Kr.Cmds.push {w1 : World} {c : Cm} {a1 : Option Addr} {n1 d1 : Nat} {zs : List Value} {v' : Value} (h : Kr.Cmds w base P cs v xs av ys) (ha : Ko.Args w base (P cs.length) c.args (.slice a1 n1 d1) zs) (hap : ∀ b, (Value.slice a1 n1 d1).ownBlock = some b → v.ownBlock ≠ some b ∧ ∀ i, i < cs.length → (av i).ownBlock ≠ some b)
    (hb : Below w.heap.size w w1) (hown : w'.ownsRow base 46 2 v' (cs.length + 1) (xs ++ Cm.two ⟨c.fn.toArray⟩ (.slice a1 n1 d1))) (hg : w1.grownBy w' v.ownBlock) (hf : v'.ownBlock = v.ownBlock ∨ v'.ownBlock = some w1.heap.size) :
    Kr.Cmds w' base P (cs ++ [c]) v' (xs ++ Cm.two ⟨c.fn.toArray⟩ (.slice a1 n1 d1)) (Kr.more cs.length av (.slice a1 n1 d1)) (Kr.more cs.length ys zs) := by
  have hl : xs.length = cs.length * 2 := h.own.1
  have hst : ∀ b, b < w.heap.size → v.ownBlock ≠ some b → w'.heap[b]? = w.heap[b]? := fun b hk hne => (hg.block b (Nat.lt_of_lt_of_le hk hb.size) (fun e => hne e.symm)).trans (hb.block b hk)
  have hv' : ∀ b, b < w.heap.size → v.ownBlock ≠ some b → v'.ownBlock ≠ some b := fun b hk hne e => by
    rcases hf with q | q
    · rw [q] at e; exact hne e
    · rw [q] at e; have := Option.some.inj e; have := hb.size; omega
  have hmo : ∀ {α : Type} (f : Nat → α) (x : α) i, i < cs.length → Kr.more cs.length f x i = f i := fun f x i hi => if_neg (by omega)
  have hme : ∀ {α : Type} (f : Nat → α) (x : α), Kr.more cs.length f x cs.length = x := fun f x => if_pos rfl
  have hidx : ∀ i x, (cs ++ [c])[i]? = some x → (i < cs.length ∧ cs[i]? = some x) ∨ (i = cs.length ∧ c = x) := fun i x hi => by
    by_cases hlt : i < cs.length
    · rw [List.getElem?_append_left hlt] at hi
      exact .inl ⟨hlt, hi⟩
    · rw [List.getElem?_append_right (by omega)] at hi
      have h0 : i - cs.length = 0 := by
        have := (List.getElem?_eq_some_iff.1 hi).1
        simp at this
        omega
      rw [h0] at hi
      exact .inr ⟨by omega, Option.some.inj hi⟩
  have hnew : ∀ b, (Value.slice a1 n1 d1).ownBlock = some b → b < w.heap.size := fun b hk => (ha.own.lt b hk).2
  have hold : ∀ i, i < cs.length → ∀ b, (av i).ownBlock = some b → b < w.heap.size := fun i hi b hk => ((h.args i cs[i] (List.getElem?_eq_getElem hi)).own.lt b hk).2
  refine ⟨by rw [List.length_append]; exact hown, fun i x hi => ?_, fun i x hi => ?_, fun i hi b hk => ?_, fun i j hi hj hne b hk => ?_⟩
  · rcases hidx i x hi with ⟨hlt, hi⟩ | ⟨rfl, rfl⟩
    · rw [hmo _ _ _ hlt, List.getElem?_append_left (by omega), List.getElem?_append_left (by omega)]
      exact h.cell i x hi
    · rw [hme, List.getElem?_append_right (by omega), List.getElem?_append_right (by omega), hl, Nat.sub_self, show cs.length * 2 + 1 - cs.length * 2 = 1 by omega]
      exact ⟨rfl, rfl⟩
  · rcases hidx i x hi with ⟨hlt, hi⟩ | ⟨rfl, rfl⟩
    · rw [hmo _ _ _ hlt, hmo _ _ _ hlt]
      exact (h.args i x hi).on fun b hk => hst b (hold i hlt b hk) (h.apart i hlt b hk)
    · rw [hme, hme]
      exact ha.on fun b hk => hst b (hnew b hk) (hap b hk).1
  · rw [List.length_append, show [c].length = 1 from rfl] at hi
    by_cases hlt : i < cs.length
    · rw [hmo _ _ _ hlt] at hk
      exact hv' b (hold i hlt b hk) (h.apart i hlt b hk)
    · have : i = cs.length := by omega
      subst this
      rw [hme] at hk
      exact hv' b (hnew b hk) (hap b hk).1
  · rw [List.length_append, show [c].length = 1 from rfl] at hi hj
    by_cases h1 : i < cs.length
    · rw [hmo _ _ _ h1] at hk
      by_cases h2 : j < cs.length
      · rw [hmo _ _ _ h2]
        exact h.apart2 i j h1 h2 hne b hk
      · have : j = cs.length := by omega
        subst this
        rw [hme]
        exact fun q => (hap b q).2 i h1 hk
    · have : i = cs.length := by omega
      subst this
      rw [hme] at hk
      have h2 : j < cs.length := by omega
      rw [hmo _ _ _ h2]
      exact (hap b hk).2 j h2
theorem Kr.Cmds.imp (h : Kr.Cmds w base P cs v xs av ys) {Q : Nat → Nat → List (List UInt8) → Value → Prop} (hq : ∀ i c j p pv, cs[i]? = some c → j < c.args.length → P i j p pv → Q i j p pv) : Kr.Cmds w base Q cs v xs av ys :=
  ⟨h.own, h.cell, fun i c hi => (h.args i c hi).imp fun j p pv hj hp => hq i c j p pv hi hj hp, h.apart, h.apart2⟩
/-- they lie in memory -/
theorem Kr.Cmds.lies {R : Nat → Prop} (h : Kr.Cmds w base (fun _ _ => St.Lies w R) cs v xs av ys) (hR : ∀ b, base ≤ b → b < w.heap.size → Rm.Ub w b → R b) : Dt.Lies w R (Cm.rows cs) v :=
  Kr.put (fun _ => rfl) (by decide) h.own (fun b hb => hR b (h.own.lt b hb).1 (h.own.lt b hb).2 (Rm.Ub.own h.own hb)) fun i c hi r y hr => by
    obtain ⟨c0, c1⟩ := h.cell i c hi
    have ha := h.args i c hi
    have hl := ha.lies fun b hb => hR b (ha.own.lt b hb).1 (ha.own.lt b hb).2 (Rm.Ub.own ha.own hb)
    obtain ⟨u, h3, h4⟩ := Cm.cells rfl hl r y hr
    match r, h3 with
    | 0, h3 => exact ⟨u, by rw [← h3]; exact c0, h4⟩
    | 1, h3 => exact ⟨u, by rw [← h3]; exact c1, h4⟩
end
end Go.Proofs.YtjppobeomocgbaaGreatDoor
/-
  THE LANDED STACK OF BLOCKS in memory: which block of memory is whose (own: 0 the reader's, 1 the items' outside blocks, 3 i + 2, 3 i + 3, 3 i + 4 a block's Then, Else and pipe, 100 what waits for its place).
-/
namespace Go.Proofs.YtjppobeomocgbaaGreatDoor
open Go.RowKit
/-- blocks of owner j -/
def Ml.P (own : Nat → Nat) (base j : Nat) (w : World) (b : Nat) : Prop := base ≤ b ∧ b < w.heap.size ∧ own b = j ∧ Rm.Ub w b
/-- a row of items in blocks of owner j -/
def Ml.Row (own : Nat → Nat) (base j : Nat) (l : List It) (w : World) (v : Value) : Prop :=
  (∃ xs, Gr.Own base (fun b => own b ≠ j) 37 5 l.length (l.flatMap It.dt) w v xs) ∧ ∀ b, v.ownBlock = some b → own b = j
section
variable {own own2 : Nat → Nat} {base j : Nat} {l : List It} {w w' : World} {v : Value}
theorem Ml.P.on {i b : Nat} (h : Ml.P own base j w b) (hz : w.heap.size ≤ w'.heap.size) (ho : own2 b = i) (he : w'.heap[b]? = w.heap[b]?) : Ml.P own2 base i w' b := ⟨h.1, Nat.lt_of_lt_of_le h.2.1 hz, ho, h.2.2.2.on he⟩
theorem Ml.Row.nil (own : Nat → Nat) (base j : Nat) (w : World) : Ml.Row own base j [] w (.slice none 0 0) := ⟨⟨[], Gr.Own.nil _ _ _ _ _⟩, fun b h => by cases h⟩
theorem Ml.Row.form (h : Ml.Row own base j l w v) : ∃ a d, v = .slice a l.length d := by
  obtain ⟨⟨xs, h⟩, _⟩ := h
  exact Gr.form h.own
theorem Ml.Row.lt (h : Ml.Row own base j l w v) : ∀ b, v.ownBlock = some b → base ≤ b ∧ b < w.heap.size ∧ own b = j := fun b hb => by
  obtain ⟨⟨xs, h⟩, h2⟩ := h
  exact ⟨(h.own.lt b hb).1, (h.own.lt b hb).2, h2 b hb⟩
theorem Ml.no_eq {a b : Nat} (h : ¬ a ≠ b) : a = b := by simpa using h
/-- what turns no block of owner j leaves the row; owner i takes j's place -/
theorem Ml.Row.on {i : Nat} (h : Ml.Row own base j l w v) (hz : w.heap.size ≤ w'.heap.size) (hw : ∀ b, base ≤ b → b < w.heap.size → own b = j → own2 b = i ∧ w'.heap[b]? = w.heap[b]?) : Ml.Row own2 base i l w' v := by
  obtain ⟨⟨xs, h⟩, h2⟩ := h
  refine ⟨⟨xs, h.len, Rm.own_on h.own (fun b hb => (hw b (h.own.lt b hb).1 (h.own.lt b hb).2 (h2 b hb)).2), fun q d hq => ?_⟩, fun b hb => (hw b (h.own.lt b hb).1 (h.own.lt b hb).2 (h2 b hb)).1⟩
  obtain ⟨u, u1, u2⟩ := h.cells q d hq
  refine ⟨u, u1, u2.on fun b hb => ?_⟩
  obtain ⟨e1, e2⟩ := hw b hb.1 hb.2.1 (Ml.no_eq hb.2.2.2.1)
  exact ⟨⟨hb.1, Nat.lt_of_lt_of_le hb.2.1 hz, hb.2.2.1, fun q => q e1, hb.2.2.2.2.on e2⟩, e2⟩
/-- the row, as data -/
theorem Ml.Row.lies (h : Ml.Row own base j l w v) : Dt.Lies w (Ml.P own base j w) (It.rows l) v := by
  obtain ⟨⟨xs, h⟩, h2⟩ := h
  refine Kr.put It.dt_len (by decide) h.own (fun b hb => ⟨(h.own.lt b hb).1, (h.own.lt b hb).2, h2 b hb, Rm.Ub.own h.own hb⟩) fun i x hi r y hr => ?_
  have hrk : r < 5 := by rw [← It.dt_len x]; exact (List.getElem?_eq_some_iff.1 hr).1
  obtain ⟨u, u1, u2⟩ := h.cells (i * 5 + r) y (by rw [Dt.at It.dt_len l i r x hi hrk]; exact hr)
  exact ⟨u, u1, u2.on fun b hb => ⟨⟨hb.1, hb.2.1, Ml.no_eq hb.2.2.2.1, hb.2.2.2.2⟩, rfl⟩⟩
end
/-- five cells of a row, behind one another, are written over -/
theorem Ml.sets {w : World} {base b d n : Nat} {T : TypeId} {xs : List Value} {z0 z1 z2 z3 z4 : Value} (h : w.ownsRow base T 5 (.slice (some ⟨b, 0, none⟩) (n + 1) d) (n + 1) (xs ++ [z0, z1, z2, z3, z4])) (v0 v1 v2 v3 v4 : Value) :
    (((((xs ++ [z0, z1, z2, z3, z4]).set (n * 5) v0).set (n * 5 + 1) v1).set (n * 5 + 2) v2).set (n * 5 + 3) v3).set (n * 5 + 4) v4 = xs ++ [v0, v1, v2, v3, v4] := by
  have hl : xs.length = n * 5 := by
    have := h.1
    simp at this
    omega
  rw [← hl]
  simp
set_option maxHeartbeats 1000000 in
theorem Ml.five {w : World} {base b d n : Nat} {T : TypeId} {xs : List Value} {z0 z1 z2 z3 z4 : Value} (h : w.ownsRow base T 5 (.slice (some ⟨b, 0, none⟩) (n + 1) d) (n + 1) (xs ++ [z0, z1, z2, z3, z4])) (v0 v1 v2 v3 v4 : Value) :
    ∃ W, ((((w.setCell ⟨b, n * 5, none⟩ v0).setCell ⟨b, n * 5 + 1, none⟩ v1).setCell ⟨b, n * 5 + 2, none⟩ v2).setCell ⟨b, n * 5 + 3, none⟩ v3).setCell ⟨b, n * 5 + 4, none⟩ v4 = W ∧ W.ownsRow base T 5 (.slice (some ⟨b, 0, none⟩) (n + 1) d) (n + 1) (xs ++ [v0, v1, v2, v3, v4]) ∧ (∀ k, k ≠ b → W.heap[k]? = w.heap[k]?) ∧ W.heap.size = w.heap.size ∧ W.os = w.os ∧ W.tape = w.tape ∧ W.output = w.output := by
  refine ⟨_, rfl, ?_, fun k hk => by
    rw [Below.heap_setCell _ _ _ _ hk, Below.heap_setCell _ _ _ _ hk, Below.heap_setCell _ _ _ _ hk, Below.heap_setCell _ _ _ _ hk, Below.heap_setCell _ _ _ _ hk], by simp, rfl, rfl, rfl⟩
  have h5 := ((((h.stored (n * 5) v0).1.stored (n * 5 + 1) v1).1.stored (n * 5 + 2) v2).1.stored (n * 5 + 3) v3).1.stored (n * 5 + 4) v4
  rw [Ml.sets h] at h5
  exact h5.1
/-- an item more in a row -/
theorem Ml.Row.push {own : Nat → Nat} {base j : Nat} {l : List It} {w w1 w4 W : World} {v : Value} {x : It} {b4 d4 : Nat} {news xs : List Value} (hG : Gr.Own base (fun b => own b ≠ j) 37 5 l.length (l.flatMap It.dt) w v xs) (hv : ∀ b, v.ownBlock = some b → own b = j) (hj : j ≠ 100) (hb : Below w.heap.size w w1)
    (hg : w1.grownBy w4 v.ownBlock) (hf : (Value.slice (some ⟨b4, 0, none⟩) (l.length + 1) d4).ownBlock = v.ownBlock ∨ (Value.slice (some ⟨b4, 0, none⟩) (l.length + 1) d4).ownBlock = some w1.heap.size)
    (hW : ∀ k, k ≠ b4 → W.heap[k]? = w4.heap[k]?) (hz : W.heap.size = w4.heap.size) (ho : W.os = w4.os) (ht : W.tape = w4.tape) (hu : W.output = w4.output)
    (own2 : W.ownsRow base 37 5 (.slice (some ⟨b4, 0, none⟩) (l.length + 1) d4) (l.length + 1) (xs ++ news))
    (hx : Dt.fits w (Ml.P own base 100 w) (It.dt x) news) : Ml.Row (fun b => if own b = 100 ∨ w.heap.size ≤ b then j else own b) base j (l ++ [x]) W (.slice (some ⟨b4, 0, none⟩) (l.length + 1) d4) := by
  have hlt := (show Ml.Row own base j l w v from ⟨⟨xs, hG⟩, hv⟩).lt
  have hbz := hb.size
  have hgz := hg.size
  have hG3 : Gr.Own base (fun b => (if own b = 100 ∨ w.heap.size ≤ b then j else own b) ≠ j) 37 5 l.length (l.flatMap It.dt) w v xs := ⟨hG.len, hG.own, fun q d hq => by
    obtain ⟨u, u1, u2⟩ := hG.cells q d hq
    refine ⟨u, u1, u2.on fun b hb => ⟨⟨hb.1, hb.2.1, hb.2.2.1, fun q => ?_, hb.2.2.2.2⟩, rfl⟩⟩
    have ej := Ml.no_eq hb.2.2.2.1
    have := hb.2.1
    refine q ?_
    show (if _ then _ else _) = j
    rw [if_neg (by omega)]
    exact ej⟩
  have hgW : w1.grownBy W v.ownBlock := ⟨ho.trans hg.os, ht.trans hg.tape, hu.trans hg.output, by omega, fun k hk hne => by
    refine (hW k fun e => ?_).trans (hg.block k hk hne)
    rw [e] at hne hk
    rcases hf with q | q
    · exact hne q
    · have : b4 = w1.heap.size := Option.some.inj q
      omega⟩
  have hp := hG3.push (nd := It.dt x) (news := news) hb (It.dt_len x) (fun i d hi => by
    obtain ⟨u, u1, u2⟩ := Dt.fits_get _ _ hx i d hi
    refine ⟨u, u1, u2.on fun b hb => ⟨⟨hb.1, hb.2.1, fun q => ?_, fun q => q (if_pos (.inl hb.2.2.1)), hb.2.2.2⟩, rfl⟩⟩
    have := (hlt b q).2.2
    have := hb.2.2.1
    omega) own2 hgW hf
  refine ⟨⟨xs ++ news, ?_⟩, fun b hb => ?_⟩
  · rw [List.length_append, List.length_singleton, List.flatMap_append, List.flatMap_singleton]
    exact hp
  · show (if _ then _ else _) = _
    rcases hf with q | q
    · have := hlt b (by rw [← q]; exact hb)
      rw [this.2.2, if_neg (by omega)]
    · rw [q] at hb
      have : w1.heap.size = b := Option.some.inj hb
      rw [if_pos (.inr (by omega))]
/-- the cells of the open block at place i -/
structure Ml.Cell (own : Nat → Nat) (base i : Nat) (b : Mz.Bk) (w : World) (xs : List Value) : Prop where
  k : xs[i * 6]? = some (.int .i64 b.k)
  t : xs[i * 6 + 1]? = some (.string ⟨#[]⟩)
  p : ∃ v, xs[i * 6 + 2]? = some v ∧ Dt.Lies w (Ml.P own base (3 * i + 4) w) (Cm.rows b.p) v
  thn : ∃ v, xs[i * 6 + 3]? = some v ∧ Ml.Row own base (3 * i + 2) b.thn w v
  els : ∃ v, xs[i * 6 + 4]? = some v ∧ Ml.Row own base (3 * i + 3) b.els w v
  e : xs[i * 6 + 5]? = some (.bool b.e)
theorem Ml.Cell.on {own own2 : Nat → Nat} {base i : Nat} {b : Mz.Bk} {w w' : World} {xs xs2 : List Value} (h : Ml.Cell own base i b w xs) (hz : w.heap.size ≤ w'.heap.size) (hx : ∀ r, r < 6 → xs2[i * 6 + r]? = xs[i * 6 + r]?)
    (hw : ∀ q, base ≤ q → q < w.heap.size → (own q = 3 * i + 2 ∨ own q = 3 * i + 3 ∨ own q = 3 * i + 4) → own2 q = own q ∧ w'.heap[q]? = w.heap[q]?) : Ml.Cell own2 base i b w' xs2 := by
  obtain ⟨k, t, ⟨pv, p1, p2⟩, ⟨tv, t1, t2⟩, ⟨ev, e1, e2⟩, e⟩ := h
  refine ⟨(hx 0 (by decide)).trans k, (hx 1 (by decide)).trans t, ⟨pv, (hx 2 (by decide)).trans p1, p2.on fun q hq => ?_⟩, ⟨tv, (hx 3 (by decide)).trans t1, t2.on hz fun q a b c => ?_⟩, ⟨ev, (hx 4 (by decide)).trans e1, e2.on hz fun q a b c => ?_⟩, (hx 5 (by decide)).trans e⟩
  · obtain ⟨a1, a2⟩ := hw q hq.1 hq.2.1 (.inr (.inr hq.2.2.1))
    exact ⟨hq.on hz (a1.trans hq.2.2.1) a2, a2⟩
  · obtain ⟨a1, a2⟩ := hw q a b (.inl c)
    exact ⟨a1.trans c, a2⟩
  · obtain ⟨a1, a2⟩ := hw q a b (.inr (.inl c))
    exact ⟨a1.trans c, a2⟩
/-- the reader lies in block g -/
structure Ml.At (base : Nat) (w : World) (g : Nat) (own : Nat → Nat) (s : Mz.St) (iv ov : Value) (xs : List Value) : Prop where
  box : Bs.Box w g #[iv, ov] 56
  og : own g = 0
  lo : base ≤ g
  items : Ml.Row own base 1 s.items w iv
  op : w.ownsRow base 140 6 ov s.op.length xs
  oo : ∀ b, ov.ownBlock = some b → own b = 0 ∧ b ≠ g
  cell : ∀ i b, s.op[i]? = some b → Ml.Cell own base i b w xs
  deep : s.op.length ≤ 16
theorem Ml.At.idx {base g : Nat} {w : World} {own : Nat → Nat} {s : Mz.St} {iv ov : Value} {xs : List Value} (h : Ml.At base w g own s iv ov xs) {i : Nat} {b : Mz.Bk} (hi : s.op[i]? = some b) : i < 16 := by
  have := (List.getElem?_eq_some_iff.1 hi).1
  have := h.deep
  omega
theorem Ml.At.on {base g : Nat} {w W : World} {own own2 : Nat → Nat} {s : Mz.St} {iv ov : Value} {xs : List Value} (h : Ml.At base w g own s iv ov xs) (hz : w.heap.size ≤ W.heap.size)
    (hw : ∀ b, base ≤ b → b < w.heap.size → own b ≠ 100 → own2 b = own b ∧ W.heap[b]? = w.heap[b]?) : Ml.At base W g own2 s iv ov xs := by
  have hg := hw g h.lo h.box.lt (by rw [h.og]; decide)
  refine ⟨hg.2.trans h.box, hg.1.trans h.og, h.lo, h.items.on hz fun b a c e => ?_, Rm.own_on h.op fun b hb => ?_, fun b hb => ?_, fun i b hi => ?_, h.deep⟩
  · obtain ⟨a1, a2⟩ := hw b a c (by rw [e]; decide)
    exact ⟨a1.trans e, a2⟩
  · exact (hw b (h.op.lt b hb).1 (h.op.lt b hb).2 (by rw [(h.oo b hb).1]; decide)).2
  · exact ⟨(hw b (h.op.lt b hb).1 (h.op.lt b hb).2 (by rw [(h.oo b hb).1]; decide)).1.trans (h.oo b hb).1, (h.oo b hb).2⟩
  · have := h.idx hi
    exact (h.cell i b hi).on hz (fun _ _ => rfl) fun q a c e => hw q a c (by omega)
end Go.Proofs.YtjppobeomocgbaaGreatDoor
/-
  THE ROW THAT IS BEING READ, where it lies, and what comes of the stack when it is another.
-/
namespace Go.Proofs.YtjppobeomocgbaaGreatDoor
open Go.RowKit
/-- where the value of the row that is being read lies -/
def Ml.Top (g : Nat) (ov : Value) (s : Mz.St) (pb po : Nat) : Prop :=
  (s.op = [] ∧ pb = g ∧ po = 0) ∨ ∃ l b d, s.op = l ++ [b] ∧ ov = .slice (some ⟨pb, 0, none⟩) (l.length + 1) d ∧ po = l.length * 6 + (if b.e then 4 else 3)
/-- the open blocks' row, where there is one -/
theorem Ml.At.last {base g : Nat} {w : World} {own : Nat → Nat} {is : List It} {l : List Mz.Bk} {b : Mz.Bk} {iv ov : Value} {xs : List Value} (h : Ml.At base w g own ⟨is, l ++ [b]⟩ iv ov xs) :
    ∃ pb d, ov = .slice (some ⟨pb, 0, none⟩) (l.length + 1) d ∧ own pb = 0 ∧ pb ≠ g ∧ base ≤ pb ∧ pb < w.heap.size ∧ l.length < 16 ∧ l.length + 1 ≤ d ∧ d ≤ maxLen ∧ xs.length = (l.length + 1) * 6 ∧ (∀ q, w.frozen? ⟨pb, q, none⟩ = false) ∧ (∀ r u, r < 6 → xs[l.length * 6 + r]? = some u → w.cell? ⟨pb, l.length * 6 + r, none⟩ = some u) ∧ Ml.Cell own base l.length b w xs := by
  have hop := h.op
  have hc := h.cell l.length b (by simp)
  have hdp := h.deep
  have hn : (l ++ [b]).length = l.length + 1 := by simp
  rw [hn] at hop hdp
  have hop2 := hop
  rcases hop.2 with ⟨_, e⟩ | ⟨pb, d, cur, rfl, h1, h2, h3, h4, h5, h6⟩
  · omega
  · refine ⟨pb, d, rfl, (h.oo pb rfl).1, (h.oo pb rfl).2, h1, (hop.lt pb rfl).2, by omega, h3, h4, hop.1, fun q => hop.frozenAt q, fun r u hr hu => ?_, hc⟩
    rw [hop.cellAt (l.length * 6 + r) (by omega)]
    exact hu
theorem Ml.idx {α : Type} {l : List α} {b c : α} {i : Nat} (h : (l ++ [b])[i]? = some c) : (i < l.length ∧ l[i]? = some c) ∨ (i = l.length ∧ b = c) := by
  by_cases hlt : i < l.length
  · rw [List.getElem?_append_left hlt] at h
    exact .inl ⟨hlt, h⟩
  · rw [List.getElem?_append_right (by omega)] at h
    have h0 : i - l.length = 0 := by
      have := (List.getElem?_eq_some_iff.1 h).1
      simp at this
      omega
    rw [h0] at h
    exact .inr ⟨by omega, Option.some.inj h⟩
/-- the last block turned -/
theorem Ml.At.lensT {base g : Nat} {w W : World} {own own2 : Nat → Nat} {is : List It} {l : List Mz.Bk} {b b2 : Mz.Bk} {iv v' : Value} {pb d t : Nat} {xs : List Value} (h : Ml.At base w g own ⟨is, l ++ [b]⟩ iv (.slice (some ⟨pb, 0, none⟩) (l.length + 1) d) xs) (ht : 3 ≤ t ∧ t < 6) (hz : w.heap.size ≤ W.heap.size)
    (hw : ∀ q, base ≤ q → q < w.heap.size → own q ≠ 100 → own q ≠ 3 * l.length + (t - 1) → own2 q = own q ∧ (q ≠ pb → W.heap[q]? = w.heap[q]?)) (hpb : W.heap[pb]? = (w.setCell ⟨pb, l.length * 6 + t, none⟩ v').heap[pb]?)
    (hc : Ml.Cell own2 base l.length b2 W (xs.set (l.length * 6 + t) v')) : Ml.At base W g own2 ⟨is, l ++ [b2]⟩ iv (.slice (some ⟨pb, 0, none⟩) (l.length + 1) d) (xs.set (l.length * 6 + t) v') := by
  have hop := h.op
  have hdp := h.deep
  have hn : (l ++ [b]).length = l.length + 1 := by simp
  rw [hn] at hop hdp
  have ho := h.oo pb rfl
  have hlt := hop.lt pb rfl
  have hgo := hw g h.lo h.box.lt (by rw [h.og]; decide) (by rw [h.og]; omega)
  have hpo := hw pb hlt.1 hlt.2 (by rw [ho.1]; decide) (by rw [ho.1]; omega)
  have hst := (hop.stored (l.length * 6 + t) v').1
  refine ⟨(hgo.2 ho.2.symm).trans h.box, hgo.1.trans h.og, h.lo, h.items.on hz fun q a c e => ?_, ?_, fun q hq => ?_, fun i c hi => ?_, ?_⟩
  · obtain ⟨a1, a2⟩ := hw q a c (by rw [e]; decide) (by rw [e]; omega)
    exact ⟨a1.trans e, a2 (fun q2 => by rw [q2, ho.1] at e; cases e)⟩
  · show W.ownsRow base _ 6 _ (l ++ [b2]).length _
    rw [show (l ++ [b2]).length = l.length + 1 by simp]
    exact Rm.own_on hst fun q hq => by
      have : pb = q := Option.some.inj hq
      subst this
      exact hpb
  · have : pb = q := Option.some.inj hq
    subst this
    exact ⟨hpo.1.trans ho.1, ho.2⟩
  · rcases Ml.idx hi with ⟨hlt2, hi⟩ | ⟨rfl, rfl⟩
    · refine (h.cell i c (by show (l ++ [b])[i]? = _; rw [List.getElem?_append_left hlt2]; exact hi)).on hz (fun r hr => ?_) fun q a1 a2 a3 => ?_
      · rw [List.getElem?_set_ne (by omega)]
      · obtain ⟨u1, u2⟩ := hw q a1 a2 (by omega) (by omega)
        exact ⟨u1, u2 (fun q2 => by rw [q2, ho.1] at a3; omega)⟩
    · exact hc
  · show (l ++ [b2]).length ≤ 16
    rw [show (l ++ [b2]).length = l.length + 1 by simp]
    exact hdp
theorem Ml.At.lens {base g : Nat} {w : World} {own : Nat → Nat} {s : Mz.St} {iv ov : Value} {xs : List Value} (h : Ml.At base w g own s iv ov xs) :
    ∃ pb po v j, Ml.Top g ov s pb po ∧ j ≠ 0 ∧ j ≠ 100 ∧ w.cell? ⟨pb, po, none⟩ = some v ∧ (∀ q, w.frozen? ⟨pb, q, none⟩ = false) ∧ own pb = 0 ∧ base ≤ pb ∧ pb < w.heap.size ∧ Ml.Row own base j s.cur w v ∧
      ∀ W own2 v' l', w.heap.size ≤ W.heap.size → (∀ b, base ≤ b → b < w.heap.size → own b ≠ 100 → own b ≠ j → own2 b = own b ∧ (b ≠ pb → W.heap[b]? = w.heap[b]?)) → W.heap[pb]? = (w.setCell ⟨pb, po, none⟩ v').heap[pb]? → Ml.Row own2 base j l' W v' → ∃ iv' ov' xs', Ml.At base W g own2 (s.set l') iv' ov' xs' := by
  obtain ⟨is, op⟩ := s
  rcases Mz.op_case ⟨is, op⟩ with e | ⟨l, b, e⟩
  · simp only at e
    subst e
    refine ⟨g, 0, iv, 1, .inl ⟨rfl, rfl, rfl⟩, by decide, by decide, h.box.cell 0 rfl, fun q => h.box.frozen q, h.og, h.lo, h.box.lt, h.items, fun W own2 v' l' hz hw hpb hr => ?_⟩
    have hB : Bs.Box (w.setCell ⟨g, 0, none⟩ v') g #[v', ov] 56 := h.box.set 0 v'
    have hgo := hw g h.lo h.box.lt (by rw [h.og]; decide) (by rw [h.og]; decide)
    refine ⟨v', ov, xs, hpb.trans hB, hgo.1.trans h.og, h.lo, hr, Rm.own_on h.op fun b hb => ?_, fun b hb => ?_, fun i b hi => (by cases hi), Nat.zero_le _⟩
    · obtain ⟨o1, o2⟩ := h.oo b hb
      exact (hw b (h.op.lt b hb).1 (h.op.lt b hb).2 (by rw [o1]; decide) (by rw [o1]; decide)).2 o2
    · obtain ⟨o1, o2⟩ := h.oo b hb
      exact ⟨(hw b (h.op.lt b hb).1 (h.op.lt b hb).2 (by rw [o1]; decide) (by rw [o1]; decide)).1.trans o1, o2⟩
  · simp only at e
    subst e
    obtain ⟨pb, d, rfl, p1, p2, p3, p4, p5, p6, p7, p8, p9, p10, hc⟩ := h.last
    obtain ⟨k, p, thn, els, e⟩ := b
    have hset : ∀ m, (Mz.St.set ⟨is, l ++ [⟨k, p, thn, els, e⟩]⟩ m) = ⟨is, l ++ [Mz.Bk.set ⟨k, p, thn, els, e⟩ m]⟩ := fun m => by simp [Mz.St.set]
    have hcur : (Mz.St.cur ⟨is, l ++ [⟨k, p, thn, els, e⟩]⟩) = Mz.Bk.cur ⟨k, p, thn, els, e⟩ := by simp [Mz.St.cur]
    rw [hcur]
    obtain ⟨ck, ct, ⟨pv, cp1, cp2⟩, ⟨tv, ct1, ct2⟩, ⟨ev, ce1, ce2⟩, ce⟩ := hc
    have hpl : ∀ (own2 : Nat → Nat) (W : World), w.heap.size ≤ W.heap.size → (∀ q, base ≤ q → q < w.heap.size → own q = 3 * l.length + 4 → own2 q = own q ∧ W.heap[q]? = w.heap[q]?) → Dt.Lies W (Ml.P own2 base (3 * l.length + 4) W) (Cm.rows p) pv := fun own2 W hz hq => cp2.on fun q hp => by
      obtain ⟨a1, a2⟩ := hq q hp.1 hp.2.1 hp.2.2.1
      exact ⟨hp.on hz (a1.trans hp.2.2.1) a2, a2⟩
    have hnp : ∀ q, own q ≠ 0 → q ≠ pb := fun q hq e => hq (by rw [e]; exact p1)
    cases e with
    | false =>
      refine ⟨pb, l.length * 6 + 3, tv, 3 * l.length + 2, .inr ⟨l, _, d, rfl, rfl, rfl⟩, by omega, by omega, p10 3 tv (by decide) ct1, p9, p1, p3, p4, ct2, fun W own2 v' l' hz hw hpb hr => ?_⟩
      rw [hset]
      refine ⟨_, _, _, h.lensT (t := 3) (by decide) hz hw hpb ⟨?_, ?_, ⟨pv, ?_, hpl own2 W hz fun q a b c => ?_⟩, ⟨v', ?_, hr⟩, ⟨ev, ?_, ce2.on hz fun q a b c => ?_⟩, ?_⟩⟩
      · rw [List.getElem?_set_ne (by omega)]; exact ck
      · rw [List.getElem?_set_ne (by omega)]; exact ct
      · rw [List.getElem?_set_ne (by omega)]; exact cp1
      · obtain ⟨a1, a2⟩ := hw q a b (by omega) (by omega)
        exact ⟨a1, a2 (hnp q (by omega))⟩
      · rw [List.getElem?_set_self (by omega)]
      · rw [List.getElem?_set_ne (by omega)]; exact ce1
      · obtain ⟨a1, a2⟩ := hw q a b (by omega) (by omega)
        exact ⟨a1.trans c, a2 (hnp q (by omega))⟩
      · rw [List.getElem?_set_ne (by omega)]; exact ce
    | true =>
      refine ⟨pb, l.length * 6 + 4, ev, 3 * l.length + 3, .inr ⟨l, _, d, rfl, rfl, rfl⟩, by omega, by omega, p10 4 ev (by decide) ce1, p9, p1, p3, p4, ce2, fun W own2 v' l' hz hw hpb hr => ?_⟩
      rw [hset]
      refine ⟨_, _, _, h.lensT (t := 4) (by decide) hz hw hpb ⟨?_, ?_, ⟨pv, ?_, hpl own2 W hz fun q a b c => ?_⟩, ⟨tv, ?_, ct2.on hz fun q a b c => ?_⟩, ⟨v', ?_, hr⟩, ?_⟩⟩
      · rw [List.getElem?_set_ne (by omega)]; exact ck
      · rw [List.getElem?_set_ne (by omega)]; exact ct
      · rw [List.getElem?_set_ne (by omega)]; exact cp1
      · obtain ⟨a1, a2⟩ := hw q a b (by omega) (by omega)
        exact ⟨a1, a2 (hnp q (by omega))⟩
      · rw [List.getElem?_set_ne (by omega)]; exact ct1
      · obtain ⟨a1, a2⟩ := hw q a b (by omega) (by omega)
        exact ⟨a1.trans c, a2 (hnp q (by omega))⟩
      · rw [List.getElem?_set_self (by omega)]
      · rw [List.getElem?_set_ne (by omega)]; exact ce
end Go.Proofs.YtjppobeomocgbaaGreatDoor
/-
  THE WALKS of top, row, isInLoop.
-/
namespace Go.Proofs.YtjppobeomocgbaaGreatDoor
open Go.RowKit
theorem Ml.At.drewN {base g : Nat} {w : World} {own : Nat → Nat} {s : Mz.St} {iv ov : Value} {xs : List Value} (h : Ml.At base w g own s iv ov xs) (k : Nat) : Ml.At base (w.drewN k) g own s iv ov xs := h.on (Nat.le_refl _) fun _ _ _ _ => ⟨rfl, rfl⟩
theorem Ml.At.form {base g : Nat} {w : World} {own : Nat → Nat} {s : Mz.St} {iv ov : Value} {xs : List Value} (h : Ml.At base w g own s iv ov xs) : (∃ a d, iv = .slice a s.items.length d) ∧ ∃ a d, ov = .slice a s.op.length d := ⟨h.items.form, Gr.form h.op⟩
def Ml.TopOut (ov : Value) (s : Mz.St) (e : Ending) : Prop :=
  (s.op = [] ∧ e = .returned (.pointer none)) ∨ ∃ l b pb d, s.op = l ++ [b] ∧ ov = .slice (some ⟨pb, 0, none⟩) (l.length + 1) d ∧ e = .returned (.pointer (some ⟨pb, l.length * 6, none⟩))
set_option maxRecDepth 100000 in
set_option maxHeartbeats 4000000 in
theorem Ml.top {base g : Nat} {w : World} {own : Nat → Nat} {s : Mz.St} {iv ov : Value} {xs : List Value} (h : Ml.At base w g own s iv ov xs) :
    Calls Tryz.prog 79 #[.pointer (some ⟨g, 0, none⟩)] w fun e w' => Ml.TopOut ov s e ∧ ∃ k, w' = w.drewN k := by
  have c1 : w.cell? ⟨g, 1, none⟩ = some ov := h.box.cell 1 rfl
  obtain ⟨is, op⟩ := s
  rcases Mz.op_case ⟨is, op⟩ with e | ⟨l, b, e⟩
  · simp only at e
    subst e
    obtain ⟨_, a, d, rfl⟩ := h.form
    have c1 : w.cell? ⟨g, 1, none⟩ = some (.slice a 0 d) := c1
    clear h
    go_enter Tryz.func79, Tryz.ntmps79
    go_wp2_with fail
    go_ret
    exact ⟨.inl ⟨rfl, rfl⟩, 0, rfl⟩
  · simp only at e
    subst e
    obtain ⟨pb, d, rfl, p1, p2, p3, p4, p5, p6, p7, p8, p9, p10, hc⟩ := h.last
    clear h hc p10 p9
    have HT : Hid (Ml.TopOut (.slice (some ⟨pb, 0, none⟩) (l.length + 1) d) ⟨is, l ++ [b]⟩ (.returned (.pointer (some ⟨pb, l.length * 6, none⟩)))) := .inr ⟨l, b, pb, d, rfl, rfl, rfl⟩
    generalize Ml.TopOut (.slice (some ⟨pb, 0, none⟩) (l.length + 1) d) ⟨is, l ++ [b]⟩ = Z at *
    have hm : d ≤ 9223372036854775807 := by unfold maxLen at p7; omega
    clear p7 p8
    generalize l.length = n at *
    have d1 : (((n + 1 : Nat) : Int) == 0) = false := beq_eq_false_iff_ne.2 (by omega)
    go_enter Tryz.func79, Tryz.ntmps79
    go_wp2_with fail
    go_quiet (fail)
    go_wp2
    go_ret
    exact ⟨HT.out, _, rfl⟩
end Go.Proofs.YtjppobeomocgbaaGreatDoor

/-
  ROWS OF COMMANDS, each one's arguments in another row; what is known of the arguments' paths is P.
-/
import Derived.Test.YtjmobhohfcieoaaKRow
import Derived.Test.YtjmobhohfcieoaaIParse
namespace Go.Proofs.Ytjmobhohfcieoaa
open Go.RowKit
/-- arguments in a row of their own -/
structure Ko.Args (w : World) (base : Nat) (P : Nat → List (List UInt8) → Value → Prop) (l : List Ar) (v : Value) (xs : List Value) : Prop where
  own : w.ownsRow base 41 5 v l.length xs
  arg : ∀ i x, l[i]? = some x → ∃ pv, P i x.path pv ∧ ∀ r u, (Ar.five x pv)[r]? = some u → xs[i * 5 + r]? = some u
section
variable {w w' : World} {base : Nat} {P : Nat → List (List UInt8) → Value → Prop} {l : List Ar} {v : Value} {xs : List Value}
theorem Ko.Args.on (h : Ko.Args w base P l v xs) (hb : ∀ k, v.ownBlock = some k → w'.heap[k]? = w.heap[k]?) : Ko.Args w' base P l v xs := ⟨Rm.own_on h.own hb, h.arg⟩
theorem Ko.Args.below (h : Ko.Args w base P l v xs) (hb : Below w.heap.size w w') : Ko.Args w' base P l v xs := h.on fun k hk => hb.block k (h.own.lt k hk).2
theorem Ko.Args.imp (h : Ko.Args w base P l v xs) {Q : Nat → List (List UInt8) → Value → Prop} (hq : ∀ i p pv, i < l.length → P i p pv → Q i p pv) : Ko.Args w base Q l v xs :=
  ⟨h.own, fun i x hi => by
    obtain ⟨pv, h1, h2⟩ := h.arg i x hi
    exact ⟨pv, hq i _ _ (List.getElem?_eq_some_iff.1 hi).1 h1, h2⟩⟩
theorem Ko.Args.lower (h : Ko.Args w base P l v xs) {b2 : Nat} (hb : b2 ≤ base) : Ko.Args w b2 P l v xs := ⟨Kr.low h.own hb, h.arg⟩
theorem Kr.Args.gen {w0 : World} (h : Kr.Args w0 w base l v xs) : Ko.Args w base (fun _ => St.Lies w0 (fun _ => True)) l v xs := ⟨h.own, h.arg⟩
/-- a row's cells lie in memory -/
theorem Kr.put {α : Type} {k : Nat} {f : α → List Dt} {R : Nat → Prop} {l : List α} {e : TypeId} (hk : ∀ x, (f x).length = k) (hk0 : 0 < k) (h : w.ownsRow base e k v l.length xs) (hR : ∀ b, v.ownBlock = some b → R b)
    (hc : ∀ i x, l[i]? = some x → ∀ r y, (f x)[r]? = some y → ∃ u, xs[i * k + r]? = some u ∧ Dt.Lies w R y u) : Dt.Lies w R (Dt.rows k f l) v := by
  have hce := fun g hg => h.cells (g := g) hg
  rcases h.2 with ⟨rfl, hn⟩ | ⟨b, cap, cur, rfl, hbg, hg, hnc, hcm, hcs, htake⟩
  · have : l = [] := List.eq_nil_of_length_eq_zero hn
    subst this
    exact Dt.Lies.nil _ _ _ _
  · refine Dt.Lies.put hk hk0 hnc hcm fun i x hi => ⟨b, 0, rfl, hR b rfl, fun r y hr => ?_⟩
    obtain ⟨u, h1, h2⟩ := hc i x hi r y hr
    have c0 := hce b rfl _ _ h1
    rw [Ro.add] at c0
    rw [Nat.zero_add] at c0
    exact ⟨u, by rw [Nat.zero_add]; exact c0, h2⟩
theorem Ko.Args.lies {R : Nat → Prop} (h : Ko.Args w base (fun _ => St.Lies w R) l v xs) (hR : ∀ b, v.ownBlock = some b → R b) : Dt.Lies w R (Ar.rows l) v :=
  Kr.put (fun _ => rfl) (by decide) h.own hR fun i x hi r y hr => by
    obtain ⟨pv, h1, h2⟩ := h.arg i x hi
    obtain ⟨u, h3, h4⟩ := Ar.cells h1 r y hr
    exact ⟨u, h2 r u h3, h4⟩
end
/-- commands in a row of their own, each one's arguments in another -/
structure Kr.Cmds (w : World) (base : Nat) (P : Nat → Nat → List (List UInt8) → Value → Prop) (cs : List Cm) (v : Value) (xs : List Value) (av : Nat → Value) (ys : Nat → List Value) : Prop where
  own : w.ownsRow base 38 2 v cs.length xs
  cell : ∀ i c, cs[i]? = some c → xs[i * 2]? = some (.string ⟨c.fn.toArray⟩) ∧ xs[i * 2 + 1]? = some (av i)
  args : ∀ i c, cs[i]? = some c → Ko.Args w base (P i) c.args (av i) (ys i)
  apart : ∀ i, i < cs.length → ∀ b, (av i).ownBlock = some b → v.ownBlock ≠ some b
  apart2 : ∀ i j, i < cs.length → j < cs.length → i ≠ j → ∀ b, (av i).ownBlock = some b → (av j).ownBlock ≠ some b
/-- a function that has one value more -/
def Kr.more {α : Type} (n : Nat) (f : Nat → α) (x : α) : Nat → α := fun i => if i = n then x else f i
section
variable {w w' : World} {base : Nat} {P : Nat → Nat → List (List UInt8) → Value → Prop} {cs : List Cm} {v : Value} {xs : List Value} {av : Nat → Value} {ys : Nat → List Value}
theorem Kr.Cmds.on (h : Kr.Cmds w base P cs v xs av ys) (hb : ∀ k, base ≤ k → k < w.heap.size → w'.heap[k]? = w.heap[k]?) : Kr.Cmds w' base P cs v xs av ys :=
  ⟨Rm.own_on h.own (fun k hk => hb k (h.own.lt k hk).1 (h.own.lt k hk).2), h.cell, fun i c hi => (h.args i c hi).on fun k hk => hb k ((h.args i c hi).own.lt k hk).1 ((h.args i c hi).own.lt k hk).2, h.apart, h.apart2⟩
theorem Kr.Cmds.kept (h : Kr.Cmds w base P cs v xs av ys) {g : Nat} (hk : Kc.Kept w w' g) (hg : g < base) : Kr.Cmds w' base P cs v xs av ys := h.on fun k h1 h2 => hk.block k h2 (by omega)
theorem Kr.Cmds.below (h : Kr.Cmds w base P cs v xs av ys) (hb : Below w.heap.size w w') : Kr.Cmds w' base P cs v xs av ys := h.on fun k _ h2 => hb.block k h2
/-- one command, laid anew -/
theorem Kr.Cmds.one {w1 : World} {c : Cm} {a1 : Option Addr} {n1 d1 : Nat} {zs : List Value} (ha : Ko.Args w1 base (P 0) c.args (.slice a1 n1 d1) zs) (hb : base ≤ w1.heap.size) :
    Kr.Cmds (w1.alloc (.cells #[.string ⟨c.fn.toArray⟩, .slice a1 n1 d1] 38)) base P [c] (.slice (some ⟨w1.heap.size, 0, none⟩) 1 1) [.string ⟨c.fn.toArray⟩, .slice a1 n1 d1] (fun _ => .slice a1 n1 d1) (fun _ => zs) := by
  refine ⟨World.ownsRow_lit w1 #[.string ⟨c.fn.toArray⟩, .slice a1 n1 d1] 1 hb (by decide) rfl, fun i x hi => ?_, fun i x hi => ?_, fun i _ b hb q => ?_, fun i j hi hj hne => ?_⟩
  · match i, hi with
    | 0, hi =>
      have hi : c = x := Option.some.inj hi
      subst hi
      exact ⟨rfl, rfl⟩
    | i + 1, hi => simp at hi
  · match i, hi with
    | 0, hi =>
      have hi : c = x := Option.some.inj hi
      subst hi
      exact ha.below ((Below.refl _ _).alloc (Nat.le_refl _) _)
    | i + 1, hi => simp at hi
  · have e : w1.heap.size = b := Option.some.inj q
    have := (ha.own.lt b hb).2
    omega
  · simp at hi hj
    omega
/-- a command more -/
theorem Kr.Cmds.push {w1 : World} {c : Cm} {a1 : Option Addr} {n1 d1 : Nat} {zs : List Value} {v' : Value} (h : Kr.Cmds w base P cs v xs av ys) (ha : Ko.Args w base (P cs.length) c.args (.slice a1 n1 d1) zs) (hap : ∀ b, (Value.slice a1 n1 d1).ownBlock = some b → v.ownBlock ≠ some b ∧ ∀ i, i < cs.length → (av i).ownBlock ≠ some b)
    (hb : Below w.heap.size w w1) (hown : w'.ownsRow base 38 2 v' (cs.length + 1) (xs ++ Cm.two ⟨c.fn.toArray⟩ (.slice a1 n1 d1))) (hg : w1.grownBy w' v.ownBlock) (hf : v'.ownBlock = v.ownBlock ∨ v'.ownBlock = some w1.heap.size) :
    Kr.Cmds w' base P (cs ++ [c]) v' (xs ++ Cm.two ⟨c.fn.toArray⟩ (.slice a1 n1 d1)) (Kr.more cs.length av (.slice a1 n1 d1)) (Kr.more cs.length ys zs) := by
  have hl : xs.length = cs.length * 2 := h.own.1
  have hst : ∀ b, b < w.heap.size → v.ownBlock ≠ some b → w'.heap[b]? = w.heap[b]? := fun b hk hne => (hg.block b (Nat.lt_of_lt_of_le hk hb.size) (fun e => hne e.symm)).trans (hb.block b hk)
  have hv' : ∀ b, b < w.heap.size → v.ownBlock ≠ some b → v'.ownBlock ≠ some b := fun b hk hne e => by
    rcases hf with q | q
    · rw [q] at e; exact hne e
    · rw [q] at e; have := Option.some.inj e; have := hb.size; omega
  have hmo : ∀ {α : Type} (f : Nat → α) (x : α) i, i < cs.length → Kr.more cs.length f x i = f i := fun f x i hi => if_neg (by omega)
  have hme : ∀ {α : Type} (f : Nat → α) (x : α), Kr.more cs.length f x cs.length = x := fun f x => if_pos rfl
  have hidx : ∀ i x, (cs ++ [c])[i]? = some x → (i < cs.length ∧ cs[i]? = some x) ∨ (i = cs.length ∧ c = x) := fun i x hi => by
    by_cases hlt : i < cs.length
    · rw [List.getElem?_append_left hlt] at hi
      exact .inl ⟨hlt, hi⟩
    · rw [List.getElem?_append_right (by omega)] at hi
      have h0 : i - cs.length = 0 := by
        have := (List.getElem?_eq_some_iff.1 hi).1
        simp at this
        omega
      rw [h0] at hi
      exact .inr ⟨by omega, Option.some.inj hi⟩
  have hnew : ∀ b, (Value.slice a1 n1 d1).ownBlock = some b → b < w.heap.size := fun b hk => (ha.own.lt b hk).2
  have hold : ∀ i, i < cs.length → ∀ b, (av i).ownBlock = some b → b < w.heap.size := fun i hi b hk => ((h.args i cs[i] (List.getElem?_eq_getElem hi)).own.lt b hk).2
  refine ⟨by rw [List.length_append]; exact hown, fun i x hi => ?_, fun i x hi => ?_, fun i hi b hk => ?_, fun i j hi hj hne b hk => ?_⟩
  · rcases hidx i x hi with ⟨hlt, hi⟩ | ⟨rfl, rfl⟩
    · rw [hmo _ _ _ hlt, List.getElem?_append_left (by omega), List.getElem?_append_left (by omega)]
      exact h.cell i x hi
    · rw [hme, List.getElem?_append_right (by omega), List.getElem?_append_right (by omega), hl, Nat.sub_self, show cs.length * 2 + 1 - cs.length * 2 = 1 by omega]
      exact ⟨rfl, rfl⟩
  · rcases hidx i x hi with ⟨hlt, hi⟩ | ⟨rfl, rfl⟩
    · rw [hmo _ _ _ hlt, hmo _ _ _ hlt]
      exact (h.args i x hi).on fun b hk => hst b (hold i hlt b hk) (h.apart i hlt b hk)
    · rw [hme, hme]
      exact ha.on fun b hk => hst b (hnew b hk) (hap b hk).1
  · rw [List.length_append, show [c].length = 1 from rfl] at hi
    by_cases hlt : i < cs.length
    · rw [hmo _ _ _ hlt] at hk
      exact hv' b (hold i hlt b hk) (h.apart i hlt b hk)
    · have : i = cs.length := by omega
      subst this
      rw [hme] at hk
      exact hv' b (hnew b hk) (hap b hk).1
  · rw [List.length_append, show [c].length = 1 from rfl] at hi hj
    by_cases h1 : i < cs.length
    · rw [hmo _ _ _ h1] at hk
      by_cases h2 : j < cs.length
      · rw [hmo _ _ _ h2]
        exact h.apart2 i j h1 h2 hne b hk
      · have : j = cs.length := by omega
        subst this
        rw [hme]
        exact fun q => (hap b q).2 i h1 hk
    · have : i = cs.length := by omega
      subst this
      rw [hme] at hk
      have h2 : j < cs.length := by omega
      rw [hmo _ _ _ h2]
      exact (hap b hk).2 j h2
theorem Kr.Cmds.imp (h : Kr.Cmds w base P cs v xs av ys) {Q : Nat → Nat → List (List UInt8) → Value → Prop} (hq : ∀ i c j p pv, cs[i]? = some c → j < c.args.length → P i j p pv → Q i j p pv) : Kr.Cmds w base Q cs v xs av ys :=
  ⟨h.own, h.cell, fun i c hi => (h.args i c hi).imp fun j p pv hj hp => hq i c j p pv hi hj hp, h.apart, h.apart2⟩
/-- they lie in memory -/
theorem Kr.Cmds.lies {R : Nat → Prop} (h : Kr.Cmds w base (fun _ _ => St.Lies w R) cs v xs av ys) (hR : ∀ b, base ≤ b → b < w.heap.size → Rm.Ub w b → R b) : Dt.Lies w R (Cm.rows cs) v :=
  Kr.put (fun _ => rfl) (by decide) h.own (fun b hb => hR b (h.own.lt b hb).1 (h.own.lt b hb).2 (Rm.Ub.own h.own hb)) fun i c hi r y hr => by
    obtain ⟨c0, c1⟩ := h.cell i c hi
    have ha := h.args i c hi
    have hl := ha.lies fun b hb => hR b (ha.own.lt b hb).1 (ha.own.lt b hb).2 (Rm.Ub.own ha.own hb)
    obtain ⟨u, h3, h4⟩ := Cm.cells rfl hl r y hr
    match r, h3 with
    | 0, h3 => exact ⟨u, by rw [← h3]; exact c0, h4⟩
    | 1, h3 => exact ⟨u, by rw [← h3]; exact c1, h4⟩
end
end Go.Proofs.Ytjmobhohfcieoaa

/-
  ROWS OF COMMANDS whose paths are copied one by one.
-/
import Derived.Test.YtjmobhohfcieoaaKRow2
import Derived.Test.YtjmobhohfcieoaaKForm
import Derived.Laws.OwnMore
namespace Go.Proofs.Ytjmobhohfcieoaa
open Go.RowKit
/-- a value written over itself -/
theorem Ko.same {w : World} {g j : Nat} {u : Value} (h : w.cell? ⟨g, j, none⟩ = some u) : w.setCell ⟨g, j, none⟩ u = w := by
  have e : (w.setCell ⟨g, j, none⟩ u).heap = w.heap := by
    unfold World.setCell
    refine Array.ext_getElem? fun k => ?_
    rw [Array.getElem?_modify]
    by_cases hk : g = k
    · subst hk
      rw [if_pos rfl]
      unfold World.cell? at h
      cases hh : w.heap[g]? with
      | none => rfl
      | some o =>
        rw [hh] at h
        cases o with
        | cells cs ty fz =>
          simp only at h
          have h2 : cs[j]? = some u := by simpa using h
          simp only [Option.map_some, Option.isSome_none, Bool.false_eq_true, if_false]
          congr 2
          refine Array.ext_getElem? fun q => ?_
          rw [Array.getElem?_setIfInBounds]
          by_cases hq : j = q
          · subst hq
            rw [if_pos rfl, h2]
            have := (Array.getElem?_eq_some_iff.1 h2).1
            simp [this]
          · rw [if_neg hq]
        | _ => rfl
    · rw [if_neg hk]
  rw [show w.setCell ⟨g, j, none⟩ u = { w with heap := (w.setCell ⟨g, j, none⟩ u).heap } from rfl, e]
def Ko.New (u0 W : World) (b : Nat) : Prop := u0.heap.size ≤ b ∧ b < W.heap.size ∧ Rm.Ub W b
theorem Ko.New.lies {u0 W W' : World} {p : List (List UInt8)} {pv : Value} (h : St.Lies W (Ko.New u0 W) p pv) (hs : W.heap.size ≤ W'.heap.size) (hb : ∀ b, u0.heap.size ≤ b → b < W.heap.size → W'.heap[b]? = W.heap[b]?) : St.Lies W' (Ko.New u0 W') p pv :=
  h.on fun b hk => by
    have e := hb b hk.1 hk.2.1
    exact ⟨⟨hk.1, Nat.lt_of_lt_of_le hk.2.1 hs, hk.2.2.on e⟩, e⟩
/-- paths ahead of place (i, n) are copied, the others still the input's -/
def Ko.P (w0 u0 W : World) (i n : Nat) : Nat → Nat → List (List UInt8) → Value → Prop := fun k m p pv => if k < i ∨ k = i ∧ m < n then St.Lies W (Ko.New u0 W) p pv else St.Lies w0 (fun _ => True) p pv
structure Ko.St (w0 u0 W : World) (base : Nat) (cs : List Cm) (v : Value) (xs : List Value) (av : Nat → Value) (ys : Nat → List Value) (i n : Nat) : Prop where
  rows : Kr.Cmds W base (Ko.P w0 u0 W i n) cs v xs av ys
  lt : ∀ b, v.ownBlock = some b → b < u0.heap.size
  alt : ∀ k, k < cs.length → ∀ b, (av k).ownBlock = some b → b < u0.heap.size
  low : Below base u0 W
  le : base ≤ u0.heap.size
section
variable {w0 u0 W W' : World} {base i n : Nat} {cs : List Cm} {v : Value} {xs : List Value} {av : Nat → Value} {ys : Nat → List Value}
theorem Ko.St.start (hle : base ≤ u0.heap.size) (h : Kr.Cmds u0 base (fun _ _ => St.Lies w0 (fun _ => True)) cs v xs av ys) : Ko.St w0 u0 u0 base cs v xs av ys 0 0 :=
  ⟨h.imp fun k c m p pv _ _ hp => by
    unfold Ko.P
    rw [if_neg (by omega)]
    exact hp, fun b hb => (h.own.lt b hb).2, fun k hk b hb => ((h.args k cs[k] (List.getElem?_eq_getElem hk)).own.lt b hb).2, Below.refl _ _, hle⟩
theorem Ko.P.on {k m : Nat} {p : List (List UInt8)} {pv : Value} (h : Ko.P w0 u0 W i n k m p pv) (hs : W.heap.size ≤ W'.heap.size) (hb : ∀ b, u0.heap.size ≤ b → b < W.heap.size → W'.heap[b]? = W.heap[b]?) : Ko.P w0 u0 W' i n k m p pv := by
  unfold Ko.P at h ⊢
  split at h
  · rename_i q
    rw [if_pos q]
    exact Ko.New.lies h hs hb
  · rename_i q
    rw [if_neg q]
    exact h
theorem Ko.St.below (h : Ko.St w0 u0 W base cs v xs av ys i n) (hb : Below W.heap.size W W') : Ko.St w0 u0 W' base cs v xs av ys i n :=
  ⟨(h.rows.below hb).imp fun _ _ _ _ _ _ _ hp => hp.on hb.size fun b _ h2 => hb.block b h2, h.lt, h.alt, h.low.trans (hb.mono (Nat.le_trans h.le h.low.size)), h.le⟩
/-- a command whose arguments are done -/
theorem Ko.St.next (h : Ko.St w0 u0 W base cs v xs av ys i n) {c : Cm} (hc : cs[i]? = some c) (hn : c.args.length ≤ n) : Ko.St w0 u0 W base cs v xs av ys (i + 1) 0 :=
  ⟨h.rows.imp fun k c2 m p pv hk hm hp => by
    unfold Ko.P at hp ⊢
    by_cases q : k < i ∨ k = i ∧ m < n
    · rw [if_pos q] at hp
      rw [if_pos (by omega)]
      exact hp
    · rw [if_neg q] at hp
      rw [if_neg]
      · exact hp
      · intro q2
        have hki : k = i := by omega
        subst hki
        have : c = c2 := Option.some.inj (hc.symm.trans hk)
        subst this
        exact q (.inr ⟨rfl, by omega⟩), h.lt, h.alt, h.low, h.le⟩
/-- a path more is copied -/
theorem Ko.St.path (h : Ko.St w0 u0 W base cs v xs av ys i n) {c : Cm} {x : Ar} {ab cap len : Nat} {pv : Value} (hc : cs[i]? = some c) (hx : c.args[n]? = some x) (ha : av i = .slice (some ⟨ab, 0, none⟩) len cap) (hl : len = c.args.length) (hp : St.Lies W (Ko.New u0 W) x.path pv) :
    Ko.St w0 u0 (W.setCell ⟨ab, n * 5 + 2, none⟩ pv) base cs v xs av (fun k => if k = i then (ys i).set (n * 5 + 2) pv else ys k) i (n + 1) := by
  have hil := (List.getElem?_eq_some_iff.1 hc).1
  have hab : (av i).ownBlock = some ab := by rw [ha]; rfl
  have hlt := h.alt i hil ab hab
  have hbl : base ≤ ab := ((h.rows.args i c hc).own.lt ab hab).1
  have hot : ∀ b, b ≠ ab → (W.setCell ⟨ab, n * 5 + 2, none⟩ pv).heap[b]? = W.heap[b]? := fun b hne => Below.heap_setCell _ _ _ _ (by show b ≠ ab; exact hne)
  have hsz : (W.setCell ⟨ab, n * 5 + 2, none⟩ pv).heap.size = W.heap.size := by simp
  have hnew : ∀ {p : List (List UInt8)} {q : Value}, St.Lies W (Ko.New u0 W) p q → St.Lies (W.setCell ⟨ab, n * 5 + 2, none⟩ pv) (Ko.New u0 (W.setCell ⟨ab, n * 5 + 2, none⟩ pv)) p q := fun hq => Ko.New.lies hq (by omega) fun b h1 _ => hot b (by omega)
  refine ⟨⟨Rm.own_on h.rows.own (fun b hb => hot b (fun e => h.rows.apart i hil ab hab (by rw [← e]; exact hb))), h.rows.cell, fun k c2 hk => ?_, h.rows.apart, h.rows.apart2⟩, h.lt, h.alt, h.low.setCell (by exact hbl) _, h.le⟩
  have hkl := (List.getElem?_eq_some_iff.1 hk).1
  have hr := h.rows.args k c2 hk
  by_cases hki : k = i
  · subst hki
    rw [if_pos rfl]
    have hcc : c = c2 := Option.some.inj (hc.symm.trans hk)
    subst hcc
    have hown := hr.own
    rw [ha, ← hl] at hown
    have hst := (hown.stored (n * 5 + 2) pv).1
    refine ⟨by rw [ha, ← hl]; exact hst, fun m y hm => ?_⟩
    obtain ⟨q, h1, h2⟩ := hr.arg m y hm
    have hylen : (ys k).length = c.args.length * 5 := hr.own.1
    by_cases hmn : m = n
    · subst hmn
      have : x = y := Option.some.inj (hx.symm.trans hm)
      subst this
      refine ⟨pv, ?_, fun r u hu => ?_⟩
      · unfold Ko.P
        rw [if_pos (.inr ⟨rfl, by omega⟩)]
        exact hnew hp
      · have hml := (List.getElem?_eq_some_iff.1 hm).1
        match r, hu with
        | 0, hu => rw [List.getElem?_set_ne (by omega)]; exact h2 0 u hu
        | 1, hu => rw [List.getElem?_set_ne (by omega)]; exact h2 1 u hu
        | 2, hu =>
          have hu : pv = u := Option.some.inj hu
          subst hu
          rw [List.getElem?_set_self (by omega)]
        | 3, hu => rw [List.getElem?_set_ne (by omega)]; exact h2 3 u hu
        | 4, hu => rw [List.getElem?_set_ne (by omega)]; exact h2 4 u hu
    · refine ⟨q, ?_, fun r u hu => ?_⟩
      · unfold Ko.P at h1 ⊢
        by_cases q1 : m < n
        · rw [if_pos (.inr ⟨rfl, q1⟩)] at h1
          rw [if_pos (.inr ⟨rfl, by omega⟩)]
          exact hnew h1
        · rw [if_neg (by omega)] at h1
          rw [if_neg (by omega)]
          exact h1
      · have hr5 : r < 5 := (List.getElem?_eq_some_iff.1 hu).1
        rw [List.getElem?_set_ne (by omega)]
        exact h2 r u hu
  · rw [if_neg hki]
    refine ((hr.on fun b hb => hot b fun e => ?_)).imp fun m p q _ hq => ?_
    · subst e
      exact h.rows.apart2 k i hkl hil hki b hb hab
    · unfold Ko.P at hq ⊢
      by_cases q1 : k < i
      · rw [if_pos (.inl q1)] at hq
        rw [if_pos (.inl q1)]
        exact hnew hq
      · rw [if_neg (by omega)] at hq
        rw [if_neg (by omega)]
        exact hq
/-- all is copied -/
theorem Ko.St.fin (h : Ko.St w0 u0 W base cs v xs av ys i 0) (hi : cs.length ≤ i) (hb : w0.heap.size ≤ base) : Dt.Lies W (fun b => w0.heap.size ≤ b ∧ b < W.heap.size ∧ Rm.Ub W b) (Cm.rows cs) v := by
  refine Kr.Cmds.lies (base := base) (xs := xs) (av := av) (ys := ys) (h.rows.imp fun k c m p pv hk _ hp => ?_) fun b h1 h2 h3 => ⟨by omega, h2, h3⟩
  have hkl := (List.getElem?_eq_some_iff.1 hk).1
  unfold Ko.P at hp
  rw [if_pos (.inl (by omega))] at hp
  exact hp.on fun b hq => ⟨⟨by have := hq.1; have := h.le; omega, hq.2.1, hq.2.2⟩, rfl⟩
theorem Kr.len {W : World} {b0 : Nat} {e : TypeId} {k n : Nat} {v : Value} {xs : List Value} (h : W.ownsRow b0 e k v n xs) : n ≤ maxLen := by
  rcases h.2 with ⟨_, rfl⟩ | ⟨b, cap, cur, rfl, hbg, hg, hnc, hcm, hcs, htake⟩
  · exact Nat.zero_le _
  · omega
/-- the commands' row, as the walk reads it -/
theorem Ko.St.vform {a : Option Addr} {d : Nat} (h : Ko.St w0 u0 W base cs (.slice a cs.length d) xs av ys i n) (hi : 0 < cs.length) : ∃ vb, a = some ⟨vb, 0, none⟩ ∧ cs.length ≤ d ∧ (∀ q, W.frozen? ⟨vb, q, none⟩ = false) ∧ (∀ k c, cs[k]? = some c → W.cell? ⟨vb, k * 2, none⟩ = some (.string ⟨c.fn.toArray⟩) ∧ W.cell? ⟨vb, k * 2 + 1, none⟩ = some (av k)) := by
  have hce := fun g hg => h.rows.own.cells (g := g) hg
  have hub := fun b hb => Rm.Ub.own h.rows.own (k := b) hb
  rcases h.rows.own.2 with ⟨e, hn⟩ | ⟨b, cap, cur, e, hbg, hg, hnc, hcm, hcs, htake⟩
  · omega
  · injection e with e1 e2 e3
    subst e1 e3
    refine ⟨b, rfl, hnc, hub b rfl, fun k c hk => ?_⟩
    obtain ⟨c0, c1⟩ := h.rows.cell k c hk
    have q0 := hce b rfl _ _ c0
    have q1 := hce b rfl _ _ c1
    rw [Ro.add, Nat.zero_add] at q0 q1
    exact ⟨q0, q1⟩
/-- a row of arguments, as the walk reads it -/
theorem Ko.St.aform (h : Ko.St w0 u0 W base cs v xs av ys i n) {c : Cm} {k : Nat} {a : Option Addr} {d : Nat} (hc : cs[k]? = some c) (ha : av k = .slice a c.args.length d) (hn : 0 < c.args.length) : ∃ ab, a = some ⟨ab, 0, none⟩ ∧ c.args.length ≤ d ∧ (∀ q, W.frozen? ⟨ab, q, none⟩ = false) ∧ (∀ m x, c.args[m]? = some x → ∃ pv, Ko.P w0 u0 W i n k m x.path pv ∧ ∀ r u, (Ar.five x pv)[r]? = some u → W.cell? ⟨ab, m * 5 + r, none⟩ = some u) := by
  have hr := h.rows.args k c hc
  have ho := hr.own
  rw [ha] at ho
  have hce := fun g hg => ho.cells (g := g) hg
  have hub := fun b hb => Rm.Ub.own ho (k := b) hb
  rcases ho.2 with ⟨e, hn⟩ | ⟨b, cap, cur, e, hbg, hg, hnc, hcm, hcs, htake⟩
  · omega
  · injection e with e1 e2 e3
    subst e1 e3
    refine ⟨b, rfl, hnc, hub b rfl, fun m x hm => ?_⟩
    obtain ⟨pv, h1, h2⟩ := hr.arg m x hm
    refine ⟨pv, h1, fun r u hu => ?_⟩
    have q0 := hce b rfl _ _ (h2 r u hu)
    rw [Ro.add, Nat.zero_add] at q0
    exact q0
theorem Ko.St.vfz {vb d : Nat} (h : Ko.St w0 u0 W base cs (.slice (some ⟨vb, 0, none⟩) cs.length d) xs av ys i n) : ∀ q, W.frozen? ⟨vb, q, none⟩ = false := Rm.Ub.own h.rows.own rfl
theorem Ko.St.afz (h : Ko.St w0 u0 W base cs v xs av ys i n) {c : Cm} {k ab len d : Nat} (hc : cs[k]? = some c) (ha : av k = .slice (some ⟨ab, 0, none⟩) len d) : ∀ q, W.frozen? ⟨ab, q, none⟩ = false := Rm.Ub.own (h.rows.args k c hc).own (by rw [ha]; rfl)
theorem Ko.St.acell (h : Ko.St w0 u0 W base cs v xs av ys i n) {c : Cm} {x : Ar} {k m ab d : Nat} (hc : cs[k]? = some c) (ha : av k = .slice (some ⟨ab, 0, none⟩) c.args.length d) (hm : c.args[m]? = some x) : W.cell? ⟨ab, m * 5 + 1, none⟩ = some (.string ⟨x.name.toArray⟩) ∧ W.cell? ⟨ab, m * 5 + 4, none⟩ = some (.string ⟨x.text.toArray⟩) := by
  obtain ⟨b, e, _, _, h1⟩ := h.aform hc ha (by have := (List.getElem?_eq_some_iff.1 hm).1; omega)
  injection e with e
  injection e with e
  subst e
  obtain ⟨pv, _, h2⟩ := h1 m x hm
  exact ⟨h2 1 _ rfl, h2 4 _ rfl⟩
theorem Ko.St.acell2 (h : Ko.St w0 u0 W base cs v xs av ys i n) {c : Cm} {x : Ar} {k m ab d : Nat} (hc : cs[k]? = some c) (ha : av k = .slice (some ⟨ab, 0, none⟩) c.args.length d) (hm : c.args[m]? = some x) : ∃ u, W.cell? ⟨ab, m * 5 + 2, none⟩ = some u := by
  obtain ⟨b, e, _, _, h1⟩ := h.aform hc ha (by have := (List.getElem?_eq_some_iff.1 hm).1; omega)
  injection e with e
  injection e with e
  subst e
  obtain ⟨pv, _, h2⟩ := h1 m x hm
  exact ⟨_, h2 2 _ rfl⟩
end
end Go.Proofs.Ytjmobhohfcieoaa

/-
  DATA IN MEMORY: numbers, truths, texts, rows of records; a row of one's own that grows.
-/
import Derived.Test.YtjmobhohfcieoaaGTxt
namespace Go.Proofs.Ytjmobhohfcieoaa
open Go.RowKit
inductive Dt where
  | int (k : IntKind) (x : Int)
  | bool (b : Bool)
  | str (t : List UInt8)
  | row (n k : Nat) (cell : Nat → Dt)
/-- data that lie in blocks of R -/
def Dt.Lies (w : World) (R : Nat → Prop) : Dt → Value → Prop
  | .int k x, v => v = .int k x
  | .bool b, v => v = .bool b
  | .str t, v => v = .string ⟨t.toArray⟩
  | .row n k cell, v => ∃ a d, v = .slice a n d ∧ n ≤ d ∧ d ≤ maxLen ∧ ∀ i, i < n * k → ∃ b o u, a = some ⟨b, o, none⟩ ∧ R b ∧ w.cell? ⟨b, o + i, none⟩ = some u ∧ Dt.Lies w R (cell i) u
theorem Dt.Lies.on {w w' : World} {R R' : Nat → Prop} {t : Dt} (hR : ∀ k, R k → R' k ∧ w'.heap[k]? = w.heap[k]?) : ∀ {v : Value}, Dt.Lies w R t v → Dt.Lies w' R' t v := by
  induction t with
  | int k x => exact fun h => h
  | bool b => exact fun h => h
  | str t => exact fun h => h
  | row n k cell ih =>
    intro v h
    unfold Dt.Lies at h ⊢
    obtain ⟨a, d, e, h1, h2, hx⟩ := h
    refine ⟨a, d, e, h1, h2, fun i hi => ?_⟩
    obtain ⟨b, o, u, ea, hb, c, hl⟩ := hx i hi
    obtain ⟨hb', hw⟩ := hR b hb
    exact ⟨b, o, u, ea, hb', (World.cell?_of_block (a := ⟨b, o + i, none⟩) hw).trans c, ih i hl⟩
theorem Dt.Lies.later {w u : World} {R : Nat → Prop} {t : Dt} (hb : Below w.heap.size w u) : ∀ {v : Value}, Dt.Lies w R t v → Dt.Lies u (fun _ => True) t v := by
  induction t with
  | int k x => exact fun h => h
  | bool b => exact fun h => h
  | str t => exact fun h => h
  | row n k cell ih =>
    intro v h
    unfold Dt.Lies at h ⊢
    obtain ⟨a, d, e, h1, h2, hx⟩ := h
    refine ⟨a, d, e, h1, h2, fun i hi => ?_⟩
    obtain ⟨b, o, u', ea, _, c, hl⟩ := hx i hi
    exact ⟨b, o, u', ea, trivial, Tp.keep hb c, ih i hl⟩
/-- a row of n records of k cells each -/
def Dt.flat (n k : Nat) (ds : List Dt) : Dt := .row n k fun i => ds.getD i (.int .i64 0)
theorem Dt.Lies.nil (w : World) (R : Nat → Prop) (k : Nat) (ds : List Dt) : Dt.Lies w R (Dt.flat 0 k ds) (.slice none 0 0) := by
  unfold Dt.flat Dt.Lies
  exact ⟨none, 0, rfl, Nat.le_refl _, Nat.zero_le _, fun i hi => by rw [Nat.zero_mul] at hi; exact absurd hi (Nat.not_lt_zero _)⟩
/-- records of a list, one behind the other -/
def Dt.rows {α : Type} (k : Nat) (f : α → List Dt) (l : List α) : Dt := Dt.flat l.length k (l.flatMap f)
theorem Dt.at {α : Type} {k : Nat} {f : α → List Dt} (hk : ∀ x, (f x).length = k) : ∀ (l : List α) (i r : Nat) (x : α), l[i]? = some x → r < k → (l.flatMap f)[i * k + r]? = (f x)[r]? := by
  intro l
  induction l with
  | nil => intro i r x h; simp at h
  | cons a l ih =>
    intro i r x h hr
    rw [List.flatMap_cons]
    cases i with
    | zero =>
      simp only [List.getElem?_cons_zero, Option.some.injEq] at h
      subst h
      rw [List.getElem?_append_left (by rw [hk]; omega), Nat.zero_mul, Nat.zero_add]
    | succ i =>
      rw [List.getElem?_cons_succ] at h
      rw [List.getElem?_append_right (by rw [hk, Nat.succ_mul]; omega), hk, show (i + 1) * k + r - k = i * k + r by rw [Nat.succ_mul]; omega]
      exact ih i r x h hr
theorem Dt.flat_len {α : Type} {k : Nat} {f : α → List Dt} (hk : ∀ x, (f x).length = k) (l : List α) : (l.flatMap f).length = l.length * k := by
  induction l with
  | nil => simp
  | cons a l ih => rw [List.flatMap_cons, List.length_append, hk, ih, List.length_cons, Nat.succ_mul]; omega
/-- what a row of records is: its form, and each cell -/
theorem Dt.Lies.get {α : Type} {k : Nat} {f : α → List Dt} {w : World} {R : Nat → Prop} {l : List α} {v : Value} (h : Dt.Lies w R (Dt.rows k f l) v) (hk : ∀ x, (f x).length = k) (hk0 : 0 < k) :
    ∃ a d, v = .slice a l.length d ∧ l.length ≤ d ∧ d ≤ maxLen ∧ ∀ i x, l[i]? = some x → ∃ b o, a = some ⟨b, o, none⟩ ∧ R b ∧ ∀ r y, (f x)[r]? = some y → ∃ u, w.cell? ⟨b, o + i * k + r, none⟩ = some u ∧ Dt.Lies w R y u := by
  unfold Dt.rows Dt.flat Dt.Lies at h
  obtain ⟨a, d, e, h1, h2, hx⟩ := h
  refine ⟨a, d, e, h1, h2, fun i x hi => ?_⟩
  have hil := (List.getElem?_eq_some_iff.1 hi).1
  have hlt : ∀ r, r < k → i * k + r < l.length * k := fun r hr => Nat.lt_of_lt_of_le (show i * k + r < (i + 1) * k by rw [Nat.succ_mul]; omega) (Nat.mul_le_mul_right _ hil)
  obtain ⟨b, o, u, ea, hb, _, _⟩ := hx (i * k + 0) (hlt 0 hk0)
  refine ⟨b, o, ea, hb, fun r y hr => ?_⟩
  have hrk : r < k := by rw [← hk x]; exact (List.getElem?_eq_some_iff.1 hr).1
  obtain ⟨b2, o2, u2, ea2, _, c2, l2⟩ := hx (i * k + r) (hlt r hrk)
  rw [ea] at ea2
  injection ea2 with ea2
  injection ea2 with e1 e2
  subst e1 e2
  simp only [List.getD_eq_getElem?_getD] at l2
  rw [Dt.at hk l i r x hi hrk, hr, Option.getD_some] at l2
  exact ⟨u2, by rw [Nat.add_assoc]; exact c2, l2⟩
/-- a list of records lies where its cells do -/
theorem Dt.Lies.put {α : Type} {k : Nat} {f : α → List Dt} {w : World} {R : Nat → Prop} {l : List α} {a : Option Addr} {d : Nat} (hk : ∀ x, (f x).length = k) (hk0 : 0 < k) (h1 : l.length ≤ d) (h2 : d ≤ maxLen)
    (hx : ∀ i x, l[i]? = some x → ∃ b o, a = some ⟨b, o, none⟩ ∧ R b ∧ ∀ r y, (f x)[r]? = some y → ∃ u, w.cell? ⟨b, o + i * k + r, none⟩ = some u ∧ Dt.Lies w R y u) : Dt.Lies w R (Dt.rows k f l) (.slice a l.length d) := by
  unfold Dt.rows Dt.flat Dt.Lies
  refine ⟨a, d, rfl, h1, h2, fun i hi => ?_⟩
  have hq : i / k < l.length := Nat.div_lt_of_lt_mul (by rw [Nat.mul_comm]; exact hi)
  have hr : i % k < k := Nat.mod_lt _ hk0
  have hi2 : i / k * k + i % k = i := by rw [Nat.mul_comm]; exact Nat.div_add_mod i k
  obtain ⟨b, o, ea, hb, hc⟩ := hx (i / k) l[i / k] (List.getElem?_eq_getElem hq)
  have hy := List.getElem?_eq_getElem (l := f l[i / k]) (show i % k < (f l[i / k]).length by rw [hk]; exact hr)
  obtain ⟨u, c, hl⟩ := hc (i % k) _ hy
  refine ⟨b, o, u, ea, hb, by rw [Nat.add_assoc, hi2] at c; exact c, ?_⟩
  have hg := Dt.at hk l (i / k) (i % k) l[i / k] (List.getElem?_eq_getElem hq) hr
  rw [hi2, hy] at hg
  simp only [List.getD_eq_getElem?_getD]
  rw [hg, Option.getD_some]
  exact hl
/-- texts in a row -/
def Dt.texts (ts : List (List UInt8)) : Dt := Dt.rows 1 (fun t => [Dt.str t]) ts
theorem Dt.Lies.texts {w : World} {R : Nat → Prop} {ts : List (List UInt8)} {v : Value} (h : Dt.Lies w R (Dt.texts ts) v) : St.Lies w R ts v := by
  obtain ⟨a, d, e, h1, h2, hx⟩ := h.get (fun _ => rfl) (by decide)
  refine ⟨a, d, e, h1, h2, fun j t hj => ?_⟩
  obtain ⟨b, o, ea, hb, hc⟩ := hx j t hj
  obtain ⟨u, c, hl⟩ := hc 0 _ rfl
  unfold Dt.Lies at hl
  subst hl
  exact ⟨b, o, ea, hb, by rw [Nat.mul_one, Nat.add_zero] at c; exact c⟩
theorem St.Lies.data {w : World} {R : Nat → Prop} {ts : List (List UInt8)} {v : Value} (h : St.Lies w R ts v) : Dt.Lies w R (Dt.texts ts) v := by
  obtain ⟨a, d, rfl, h1, h2, hx⟩ := h
  refine Dt.Lies.put (fun _ => rfl) (by decide) h1 h2 fun i x hi => ?_
  obtain ⟨b, o, ea, hb, c⟩ := hx i x hi
  refine ⟨b, o, ea, hb, fun r y hr => ?_⟩
  match r, hr with
  | 0, hr =>
    have hr : Dt.str x = y := Option.some.inj hr
    subst hr
    exact ⟨_, by rw [Nat.mul_one, Nat.add_zero]; exact c, by unfold Dt.Lies; rfl⟩
/-- where the parts of a row of one's own lie -/
def Gr.R (base : Nat) (no : Nat → Prop) (w : World) (v : Value) (b : Nat) : Prop := base ≤ b ∧ b < w.heap.size ∧ v.ownBlock ≠ some b ∧ ¬ no b ∧ Rm.Ub w b
/-- a row of one's own: its cells are xs, and they are these data -/
structure Gr.Own (base : Nat) (no : Nat → Prop) (ty k n : Nat) (ds : List Dt) (w : World) (v : Value) (xs : List Value) : Prop where
  len : ds.length = n * k
  own : w.ownsRow base ty k v n xs
  cells : ∀ (i : Nat) d, ds[i]? = some d → ∃ u, xs[i]? = some u ∧ Dt.Lies w (Gr.R base no w v) d u
theorem Gr.Own.nil (base : Nat) (no : Nat → Prop) (ty k : Nat) (w : World) : Gr.Own base no ty k 0 [] w (.slice none 0 0) [] := ⟨by simp, World.ownsRow_nil _ _ _ _, fun i d h => by simp at h⟩
theorem Gr.form {w : World} {base : Nat} {e : TypeId} {size n : Nat} {v : Value} {xs : List Value} (h : w.ownsRow base e size v n xs) : ∃ a d, v = .slice a n d := by
  rcases h.2 with ⟨rfl, rfl⟩ | ⟨g, cap, cur, rfl, _⟩
  · exact ⟨_, _, rfl⟩
  · exact ⟨_, _, rfl⟩
/-- what does not turn the row's block nor its parts' -/
theorem Gr.Own.on {base : Nat} {no : Nat → Prop} {ty k n : Nat} {ds : List Dt} {w w' : World} {v : Value} {xs : List Value} (h : Gr.Own base no ty k n ds w v xs) (hs : w.heap.size ≤ w'.heap.size) (hw : ∀ b, base ≤ b → b < w.heap.size → ¬ no b → w'.heap[b]? = w.heap[b]?) (hv : ∀ b, v.ownBlock = some b → ¬ no b) : Gr.Own base no ty k n ds w' v xs := by
  refine ⟨h.len, Rm.own_on h.own (fun b hb => hw b (h.own.lt b hb).1 (h.own.lt b hb).2 (hv b hb)), fun i d hi => ?_⟩
  obtain ⟨u, h1, h2⟩ := h.cells i d hi
  refine ⟨u, h1, h2.on fun b hb => ?_⟩
  have e := hw b hb.1 hb.2.1 hb.2.2.2.1
  exact ⟨⟨hb.1, Nat.lt_of_lt_of_le hb.2.1 hs, hb.2.2.1, hb.2.2.2.1, hb.2.2.2.2.on e⟩, e⟩
theorem Gr.Own.below {base : Nat} {no : Nat → Prop} {ty k n : Nat} {ds : List Dt} {w w' : World} {v : Value} {xs : List Value} (h : Gr.Own base no ty k n ds w v xs) (hb : Below w.heap.size w w') : Gr.Own base no ty k n ds w' v xs := by
  refine ⟨h.len, Rm.own_on h.own (fun b hk => hb.block b (h.own.lt b hk).2), fun i d hi => ?_⟩
  obtain ⟨u, h1, h2⟩ := h.cells i d hi
  refine ⟨u, h1, h2.on fun b hk => ?_⟩
  have e := hb.block b hk.2.1
  exact ⟨⟨hk.1, Nat.lt_of_lt_of_le hk.2.1 hb.size, hk.2.2.1, hk.2.2.2.1, hk.2.2.2.2.on e⟩, e⟩
/-- a record more: behind a box of it and an append -/
theorem Gr.Own.push {base : Nat} {no : Nat → Prop} {ty k n : Nat} {ds nd : List Dt} {w w1 w2 : World} {v v' : Value} {xs news : List Value} (h : Gr.Own base no ty k n ds w v xs) (hb : Below w.heap.size w w1) (hnl : nd.length = k)
    (hn : ∀ (i : Nat) d, nd[i]? = some d → ∃ u, news[i]? = some u ∧ Dt.Lies w (Gr.R base no w v) d u)
    (hown : w2.ownsRow base ty k v' (n + 1) (xs ++ news)) (hg : w1.grownBy w2 v.ownBlock) (hf : v'.ownBlock = v.ownBlock ∨ v'.ownBlock = some w1.heap.size) : Gr.Own base no ty k (n + 1) (ds ++ nd) w2 v' (xs ++ news) := by
  have hl : xs.length = n * k := h.own.1
  have hsz : w.heap.size ≤ w2.heap.size := Nat.le_trans hb.size hg.size
  have hold : ∀ b, b < w.heap.size → v.ownBlock ≠ some b → v'.ownBlock ≠ some b ∧ w2.heap[b]? = w.heap[b]? := fun b hk hne => ⟨(fun e => by
    rcases hf with q | q
    · rw [q] at e; exact hne e
    · rw [q] at e; have := Option.some.inj e; have := hb.size; omega), (hg.block b (Nat.lt_of_lt_of_le hk hb.size) (fun e => hne e.symm)).trans (hb.block b hk)⟩
  have hon : ∀ {d : Dt} {u : Value}, Dt.Lies w (Gr.R base no w v) d u → Dt.Lies w2 (Gr.R base no w2 v') d u := fun hd => hd.on fun b hk => by
    obtain ⟨q1, q2⟩ := hold b hk.2.1 hk.2.2.1
    exact ⟨⟨hk.1, by have := hk.2.1; omega, q1, hk.2.2.2.1, hk.2.2.2.2.on q2⟩, q2⟩
  refine ⟨by rw [List.length_append, h.len, hnl, Nat.succ_mul], hown, fun i d hi => ?_⟩
  by_cases hlt : i < ds.length
  · rw [List.getElem?_append_left hlt] at hi
    obtain ⟨u, h1, h2⟩ := h.cells i d hi
    exact ⟨u, by rw [List.getElem?_append_left (by rw [hl, ← h.len]; exact hlt)]; exact h1, hon h2⟩
  · rw [List.getElem?_append_right (by omega)] at hi
    obtain ⟨u, h1, h2⟩ := hn _ d hi
    exact ⟨u, by rw [List.getElem?_append_right (by rw [hl, ← h.len]; omega), hl, ← h.len]; exact h1, hon h2⟩
/-- it lies in blocks of its own -/
theorem Gr.Own.lies {base : Nat} {no : Nat → Prop} {ty k n : Nat} {ds : List Dt} {w : World} {v : Value} {xs : List Value} (h : Gr.Own base no ty k n ds w v xs) : Dt.Lies w (fun b => base ≤ b ∧ b < w.heap.size ∧ Rm.Ub w b) (Dt.flat n k ds) v := by
  have hc := fun g hg => h.own.cells (g := g) hg
  have hlt := h.own.lt
  have hub : ∀ b, v.ownBlock = some b → Rm.Ub w b := fun b hb => Rm.Ub.own h.own hb
  unfold Dt.flat Dt.Lies
  rcases h.own.2 with ⟨rfl, hn⟩ | ⟨b, cap, cur, rfl, hbg, hg, hnc, hcm, hcs, htake⟩
  · subst hn
    exact ⟨none, 0, rfl, Nat.le_refl _, Nat.zero_le _, fun i hi => by rw [Nat.zero_mul] at hi; exact absurd hi (Nat.not_lt_zero _)⟩
  · refine ⟨some ⟨b, 0, none⟩, cap, rfl, hnc, hcm, fun i hi => ?_⟩
    have hd := List.getElem?_eq_getElem (l := ds) (show i < ds.length by rw [h.len]; exact hi)
    obtain ⟨u, h1, h2⟩ := h.cells i _ hd
    have c0 := hc b rfl _ _ h1
    rw [Ro.add] at c0
    refine ⟨b, 0, u, rfl, ⟨(hlt b rfl).1, (hlt b rfl).2, hub b rfl⟩, c0, ?_⟩
    simp only [List.getD_eq_getElem?_getD]
    rw [hd, Option.getD_some]
    exact h2.on fun q hq => ⟨⟨hq.1, hq.2.1, hq.2.2.2.2⟩, rfl⟩
/-- a record's cells, laid anew in a block -/
theorem Gr.cells (W : World) (vs : List Value) (ty : TypeId) : ∀ (j : Nat) (u : Value), vs[j]? = some u → (W.alloc (.cells vs.toArray ty)).cell? ⟨W.heap.size, j, none⟩ = some u := by
  intro j u hj
  unfold World.cell?
  rw [show (W.alloc (.cells vs.toArray ty)).heap[W.heap.size]? = some _ from heap_alloc_new W _]
  simpa using hj
end Go.Proofs.Ytjmobhohfcieoaa

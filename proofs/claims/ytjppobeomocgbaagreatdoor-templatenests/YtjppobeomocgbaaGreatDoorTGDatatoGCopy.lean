/-
  DATA IN MEMORY: numbers, truths, texts, rows of records; a row of one's own that grows.
-/
import Derived.Test.YtjppobeomocgbaaGreatDoorTOPlaintoIArgMay
import Derived.Test.YtjppobeomocgbaaGreatDoorTIArg
namespace Go.Proofs.YtjppobeomocgbaaGreatDoor
open Go.RowKit
inductive Dt where
  | int (k : IntKind) (x : Int)
  | bool (b : Bool)
  | str (t : List UInt8)
  | row (n k : Nat) (cell : Nat → Dt)
/-- data that lie in blocks of R -/
def Dt.Lies (w : World) (R : Nat → Prop) : Dt → Value → Prop
  | .int k x, v => v = .int k x
  | .bool b, v => v = .bool b
  | .str t, v => v = .string ⟨t.toArray⟩
  | .row n k cell, v => ∃ a d, v = .slice a n d ∧ n ≤ d ∧ d ≤ maxLen ∧ ∀ i, i < n * k → ∃ b o u, a = some ⟨b, o, none⟩ ∧ R b ∧ w.cell? ⟨b, o + i, none⟩ = some u ∧ Dt.Lies w R (cell i) u
theorem Dt.Lies.on {w w' : World} {R R' : Nat → Prop} {t : Dt} (hR : ∀ k, R k → R' k ∧ w'.heap[k]? = w.heap[k]?) : ∀ {v : Value}, Dt.Lies w R t v → Dt.Lies w' R' t v := by
  induction t with
  | int k x => exact fun h => h
  | bool b => exact fun h => h
  | str t => exact fun h => h
  | row n k cell ih =>
    intro v h
    unfold Dt.Lies at h ⊢
    obtain ⟨a, d, e, h1, h2, hx⟩ := h
    refine ⟨a, d, e, h1, h2, fun i hi => ?_⟩
    obtain ⟨b, o, u, ea, hb, c, hl⟩ := hx i hi
    obtain ⟨hb', hw⟩ := hR b hb
    exact ⟨b, o, u, ea, hb', (World.cell?_of_block (a := ⟨b, o + i, none⟩) hw).trans c, ih i hl⟩
theorem Dt.Lies.later {w u : World} {R : Nat → Prop} {t : Dt} (hb : Below w.heap.size w u) : ∀ {v : Value}, Dt.Lies w R t v → Dt.Lies u (fun _ => True) t v := by
  induction t with
  | int k x => exact fun h => h
  | bool b => exact fun h => h
  | str t => exact fun h => h
  | row n k cell ih =>
    intro v h
    unfold Dt.Lies at h ⊢
    obtain ⟨a, d, e, h1, h2, hx⟩ := h
    refine ⟨a, d, e, h1, h2, fun i hi => ?_⟩
    obtain ⟨b, o, u', ea, _, c, hl⟩ := hx i hi
    exact ⟨b, o, u', ea, trivial, Tp.keep hb c, ih i hl⟩
/-- a row of n records of k cells each -/
def Dt.flat (n k : Nat) (ds : List Dt) : Dt := .row n k fun i => ds.getD i (.int .i64 0)
theorem Dt.Lies.nil (w : World) (R : Nat → Prop) (k : Nat) (ds : List Dt) : Dt.Lies w R (Dt.flat 0 k ds) (.slice none 0 0) := by
  unfold Dt.flat Dt.Lies
  exact ⟨none, 0, rfl, Nat.le_refl _, Nat.zero_le _, fun i hi => by rw [Nat.zero_mul] at hi; exact absurd hi (Nat.not_lt_zero _)⟩
/-- records of a list, one behind the other -/
def Dt.rows {α : Type} (k : Nat) (f : α → List Dt) (l : List α) : Dt := Dt.flat l.length k (l.flatMap f)
theorem Dt.at {α : Type} {k : Nat} {f : α → List Dt} (hk : ∀ x, (f x).length = k) : ∀ (l : List α) (i r : Nat) (x : α), l[i]? = some x → r < k → (l.flatMap f)[i * k + r]? = (f x)[r]? := by
  intro l
  induction l with
  | nil => intro i r x h; simp at h
  | cons a l ih =>
    intro i r x h hr
    rw [List.flatMap_cons]
    cases i with
    | zero =>
      simp only [List.getElem?_cons_zero, Option.some.injEq] at h
      subst h
      rw [List.getElem?_append_left (by rw [hk]; omega), Nat.zero_mul, Nat.zero_add]
    | succ i =>
      rw [List.getElem?_cons_succ] at h
      rw [List.getElem?_append_right (by rw [hk, Nat.succ_mul]; omega), hk, show (i + 1) * k + r - k = i * k + r by rw [Nat.succ_mul]; omega]
      exact ih i r x h hr
theorem Dt.flat_len {α : Type} {k : Nat} {f : α → List Dt} (hk : ∀ x, (f x).length = k) (l : List α) : (l.flatMap f).length = l.length * k := by
  induction l with
  | nil => simp
  | cons a l ih => rw [List.flatMap_cons, List.length_append, hk, ih, List.length_cons, Nat.succ_mul]; omega
/-- what a row of records is: its form, and each cell -/
theorem Dt.Lies.get {α : Type} {k : Nat} {f : α → List Dt} {w : World} {R : Nat → Prop} {l : List α} {v : Value} (h : Dt.Lies w R (Dt.rows k f l) v) (hk : ∀ x, (f x).length = k) (hk0 : 0 < k) :
    ∃ a d, v = .slice a l.length d ∧ l.length ≤ d ∧ d ≤ maxLen ∧ ∀ i x, l[i]? = some x → ∃ b o, a = some ⟨b, o, none⟩ ∧ R b ∧ ∀ r y, (f x)[r]? = some y → ∃ u, w.cell? ⟨b, o + i * k + r, none⟩ = some u ∧ Dt.Lies w R y u := by
  unfold Dt.rows Dt.flat Dt.Lies at h
  obtain ⟨a, d, e, h1, h2, hx⟩ := h
  refine ⟨a, d, e, h1, h2, fun i x hi => ?_⟩
  have hil := (List.getElem?_eq_some_iff.1 hi).1
  have hlt : ∀ r, r < k → i * k + r < l.length * k := fun r hr => Nat.lt_of_lt_of_le (show i * k + r < (i + 1) * k by rw [Nat.succ_mul]; omega) (Nat.mul_le_mul_right _ hil)
  obtain ⟨b, o, u, ea, hb, _, _⟩ := hx (i * k + 0) (hlt 0 hk0)
  refine ⟨b, o, ea, hb, fun r y hr => ?_⟩
  have hrk : r < k := by rw [← hk x]; exact (List.getElem?_eq_some_iff.1 hr).1
  obtain ⟨b2, o2, u2, ea2, _, c2, l2⟩ := hx (i * k + r) (hlt r hrk)
  rw [ea] at ea2
  injection ea2 with ea2
  injection ea2 with e1 e2
  subst e1 e2
  simp only [List.getD_eq_getElem?_getD] at l2
  rw [Dt.at hk l i r x hi hrk, hr, Option.getD_some] at l2
  exact ⟨u2, by rw [Nat.add_assoc]; exact c2, l2⟩
/-- a list of records lies where its cells do -/
theorem Dt.Lies.put {α : Type} {k : Nat} {f : α → List Dt} {w : World} {R : Nat → Prop} {l : List α} {a : Option Addr} {d : Nat} (hk : ∀ x, (f x).length = k) (hk0 : 0 < k) (h1 : l.length ≤ d) (h2 : d ≤ maxLen)
    (hx : ∀ i x, l[i]? = some x → ∃ b o, a = some ⟨b, o, none⟩ ∧ R b ∧ ∀ r y, (f x)[r]? = some y → ∃ u, w.cell? ⟨b, o + i * k + r, none⟩ = some u ∧ Dt.Lies w R y u) : Dt.Lies w R (Dt.rows k f l) (.slice a l.length d) := by
  unfold Dt.rows Dt.flat Dt.Lies
  refine ⟨a, d, rfl, h1, h2, fun i hi => ?_⟩
  have hq : i / k < l.length := Nat.div_lt_of_lt_mul (by rw [Nat.mul_comm]; exact hi)
  have hr : i % k < k := Nat.mod_lt _ hk0
  have hi2 : i / k * k + i % k = i := by rw [Nat.mul_comm]; exact Nat.div_add_mod i k
  obtain ⟨b, o, ea, hb, hc⟩ := hx (i / k) l[i / k] (List.getElem?_eq_getElem hq)
  have hy := List.getElem?_eq_getElem (l := f l[i / k]) (show i % k < (f l[i / k]).length by rw [hk]; exact hr)
  obtain ⟨u, c, hl⟩ := hc (i % k) _ hy
  refine ⟨b, o, u, ea, hb, by rw [Nat.add_assoc, hi2] at c; exact c, ?_⟩
  have hg := Dt.at hk l (i / k) (i % k) l[i / k] (List.getElem?_eq_getElem hq) hr
  rw [hi2, hy] at hg
  simp only [List.getD_eq_getElem?_getD]
  rw [hg, Option.getD_some]
  exact hl
/-- texts in a row -/
def Dt.texts (ts : List (List UInt8)) : Dt := Dt.rows 1 (fun t => [Dt.str t]) ts
theorem Dt.Lies.texts {w : World} {R : Nat → Prop} {ts : List (List UInt8)} {v : Value} (h : Dt.Lies w R (Dt.texts ts) v) : St.Lies w R ts v := by
  obtain ⟨a, d, e, h1, h2, hx⟩ := h.get (fun _ => rfl) (by decide)
  refine ⟨a, d, e, h1, h2, fun j t hj => ?_⟩
  obtain ⟨b, o, ea, hb, hc⟩ := hx j t hj
  obtain ⟨u, c, hl⟩ := hc 0 _ rfl
  unfold Dt.Lies at hl
  subst hl
  exact ⟨b, o, ea, hb, by rw [Nat.mul_one, Nat.add_zero] at c; exact c⟩
theorem St.Lies.data {w : World} {R : Nat → Prop} {ts : List (List UInt8)} {v : Value} (h : St.Lies w R ts v) : Dt.Lies w R (Dt.texts ts) v := by
  obtain ⟨a, d, rfl, h1, h2, hx⟩ := h
  refine Dt.Lies.put (fun _ => rfl) (by decide) h1 h2 fun i x hi => ?_
  obtain ⟨b, o, ea, hb, c⟩ := hx i x hi
  refine ⟨b, o, ea, hb, fun r y hr => ?_⟩
  match r, hr with
  | 0, hr =>
    have hr : Dt.str x = y := Option.some.inj hr
    subst hr
    exact ⟨_, by rw [Nat.mul_one, Nat.add_zero]; exact c, by unfold Dt.Lies; rfl⟩
/-- where the parts of a row of one's own lie -/
def Gr.R (base : Nat) (no : Nat → Prop) (w : World) (v : Value) (b : Nat) : Prop := base ≤ b ∧ b < w.heap.size ∧ v.ownBlock ≠ some b ∧ ¬ no b ∧ Rm.Ub w b
/-- a row of one's own: its cells are xs, and they are these data -/
structure Gr.Own (base : Nat) (no : Nat → Prop) (ty k n : Nat) (ds : List Dt) (w : World) (v : Value) (xs : List Value) : Prop where
  len : ds.length = n * k
  own : w.ownsRow base ty k v n xs
  cells : ∀ (i : Nat) d, ds[i]? = some d → ∃ u, xs[i]? = some u ∧ Dt.Lies w (Gr.R base no w v) d u
theorem Gr.Own.nil (base : Nat) (no : Nat → Prop) (ty k : Nat) (w : World) : Gr.Own base no ty k 0 [] w (.slice none 0 0) [] := ⟨by simp, World.ownsRow_nil _ _ _ _, fun i d h => by simp at h⟩
theorem Gr.form {w : World} {base : Nat} {e : TypeId} {size n : Nat} {v : Value} {xs : List Value} (h : w.ownsRow base e size v n xs) : ∃ a d, v = .slice a n d := by
  rcases h.2 with ⟨rfl, rfl⟩ | ⟨g, cap, cur, rfl, _⟩
  · exact ⟨_, _, rfl⟩
  · exact ⟨_, _, rfl⟩
/-- what does not turn the row's block nor its parts' -/
theorem Gr.Own.on {base : Nat} {no : Nat → Prop} {ty k n : Nat} {ds : List Dt} {w w' : World} {v : Value} {xs : List Value} (h : Gr.Own base no ty k n ds w v xs) (hs : w.heap.size ≤ w'.heap.size) (hw : ∀ b, base ≤ b → b < w.heap.size → ¬ no b → w'.heap[b]? = w.heap[b]?) (hv : ∀ b, v.ownBlock = some b → ¬ no b) : Gr.Own base no ty k n ds w' v xs := by
  refine ⟨h.len, Rm.own_on h.own (fun b hb => hw b (h.own.lt b hb).1 (h.own.lt b hb).2 (hv b hb)), fun i d hi => ?_⟩
  obtain ⟨u, h1, h2⟩ := h.cells i d hi
  refine ⟨u, h1, h2.on fun b hb => ?_⟩
  have e := hw b hb.1 hb.2.1 hb.2.2.2.1
  exact ⟨⟨hb.1, Nat.lt_of_lt_of_le hb.2.1 hs, hb.2.2.1, hb.2.2.2.1, hb.2.2.2.2.on e⟩, e⟩
theorem Gr.Own.below {base : Nat} {no : Nat → Prop} {ty k n : Nat} {ds : List Dt} {w w' : World} {v : Value} {xs : List Value} (h : Gr.Own base no ty k n ds w v xs) (hb : Below w.heap.size w w') : Gr.Own base no ty k n ds w' v xs := by
  refine ⟨h.len, Rm.own_on h.own (fun b hk => hb.block b (h.own.lt b hk).2), fun i d hi => ?_⟩
  obtain ⟨u, h1, h2⟩ := h.cells i d hi
  refine ⟨u, h1, h2.on fun b hk => ?_⟩
  have e := hb.block b hk.2.1
  exact ⟨⟨hk.1, Nat.lt_of_lt_of_le hk.2.1 hb.size, hk.2.2.1, hk.2.2.2.1, hk.2.2.2.2.on e⟩, e⟩
/-- a record more: behind a box of it and an append -/
theorem Gr.Own.push {base : Nat} {no : Nat → Prop} {ty k n : Nat} {ds nd : List Dt} {w w1 w2 : World} {v v' : Value} {xs news : List Value} (h : Gr.Own base no ty k n ds w v xs) (hb : Below w.heap.size w w1) (hnl : nd.length = k)
    (hn : ∀ (i : Nat) d, nd[i]? = some d → ∃ u, news[i]? = some u ∧ Dt.Lies w (Gr.R base no w v) d u)
    (hown : w2.ownsRow base ty k v' (n + 1) (xs ++ news)) (hg : w1.grownBy w2 v.ownBlock) (hf : v'.ownBlock = v.ownBlock ∨ v'.ownBlock = some w1.heap.size) : Gr.Own base no ty k (n + 1) (ds ++ nd) w2 v' (xs ++ news) := by
  have hl : xs.length = n * k := h.own.1
  have hsz : w.heap.size ≤ w2.heap.size := Nat.le_trans hb.size hg.size
  have hold : ∀ b, b < w.heap.size → v.ownBlock ≠ some b → v'.ownBlock ≠ some b ∧ w2.heap[b]? = w.heap[b]? := fun b hk hne => ⟨(fun e => by
    rcases hf with q | q
    · rw [q] at e; exact hne e
    · rw [q] at e; have := Option.some.inj e; have := hb.size; omega), (hg.block b (Nat.lt_of_lt_of_le hk hb.size) (fun e => hne e.symm)).trans (hb.block b hk)⟩
  have hon : ∀ {d : Dt} {u : Value}, Dt.Lies w (Gr.R base no w v) d u → Dt.Lies w2 (Gr.R base no w2 v') d u := fun hd => hd.on fun b hk => by
    obtain ⟨q1, q2⟩ := hold b hk.2.1 hk.2.2.1
    exact ⟨⟨hk.1, by have := hk.2.1; omega, q1, hk.2.2.2.1, hk.2.2.2.2.on q2⟩, q2⟩
  refine ⟨by rw [List.length_append, h.len, hnl, Nat.succ_mul], hown, fun i d hi => ?_⟩
  by_cases hlt : i < ds.length
  · rw [List.getElem?_append_left hlt] at hi
    obtain ⟨u, h1, h2⟩ := h.cells i d hi
    exact ⟨u, by rw [List.getElem?_append_left (by rw [hl, ← h.len]; exact hlt)]; exact h1, hon h2⟩
  · rw [List.getElem?_append_right (by omega)] at hi
    obtain ⟨u, h1, h2⟩ := hn _ d hi
    exact ⟨u, by rw [List.getElem?_append_right (by rw [hl, ← h.len]; omega), hl, ← h.len]; exact h1, hon h2⟩
/-- it lies in blocks of its own -/
theorem Gr.Own.lies {base : Nat} {no : Nat → Prop} {ty k n : Nat} {ds : List Dt} {w : World} {v : Value} {xs : List Value} (h : Gr.Own base no ty k n ds w v xs) : Dt.Lies w (fun b => base ≤ b ∧ b < w.heap.size ∧ Rm.Ub w b) (Dt.flat n k ds) v := by
  have hc := fun g hg => h.own.cells (g := g) hg
  have hlt := h.own.lt
  have hub : ∀ b, v.ownBlock = some b → Rm.Ub w b := fun b hb => Rm.Ub.own h.own hb
  unfold Dt.flat Dt.Lies
  rcases h.own.2 with ⟨rfl, hn⟩ | ⟨b, cap, cur, rfl, hbg, hg, hnc, hcm, hcs, htake⟩
  · subst hn
    exact ⟨none, 0, rfl, Nat.le_refl _, Nat.zero_le _, fun i hi => by rw [Nat.zero_mul] at hi; exact absurd hi (Nat.not_lt_zero _)⟩
  · refine ⟨some ⟨b, 0, none⟩, cap, rfl, hnc, hcm, fun i hi => ?_⟩
    have hd := List.getElem?_eq_getElem (l := ds) (show i < ds.length by rw [h.len]; exact hi)
    obtain ⟨u, h1, h2⟩ := h.cells i _ hd
    have c0 := hc b rfl _ _ h1
    rw [Ro.add] at c0
    refine ⟨b, 0, u, rfl, ⟨(hlt b rfl).1, (hlt b rfl).2, hub b rfl⟩, c0, ?_⟩
    simp only [List.getD_eq_getElem?_getD]
    rw [hd, Option.getD_some]
    exact h2.on fun q hq => ⟨⟨hq.1, hq.2.1, hq.2.2.2.2⟩, rfl⟩
/-- a record's cells, laid anew in a block -/
theorem Gr.cells (W : World) (vs : List Value) (ty : TypeId) : ∀ (j : Nat) (u : Value), vs[j]? = some u → (W.alloc (.cells vs.toArray ty)).cell? ⟨W.heap.size, j, none⟩ = some u := by
  intro j u hj
  unfold World.cell?
  rw [show (W.alloc (.cells vs.toArray ty)).heap[W.heap.size]? = some _ from heap_alloc_new W _]
  simpa using hj
end Go.Proofs.YtjppobeomocgbaaGreatDoor
/-
  THE WALK of the reference's arg, at any word.
-/
namespace Go.Proofs.YtjppobeomocgbaaGreatDoor
open Go.RowKit
def Ar.five (x : Ar) (pv : Value) : List Value := [.int .i64 x.kind, .string ⟨x.name.toArray⟩, pv, .int .i64 x.num, .string ⟨x.text.toArray⟩]
/-- what arg answers -/
structure Pr.AOut (w w' : World) (R : Nat → Prop) (x : Ar × Bool) (e : Ending) (pv : Value) : Prop where
  ret : e = .returned (.tuple #[.agg #[.int .i64 x.1.kind, .string ⟨x.1.name.toArray⟩, pv, .int .i64 x.1.num, .string ⟨x.1.text.toArray⟩], .bool x.2])
  path : St.Lies w R x.1.path pv
  low : Below w.heap.size w w'
theorem Pi.beq_list (s : ByteArray) (l : List UInt8) : (s.toList == l) = decide (s.data.toList = l) := by
  rw [ByteArray.toList_eq]
  by_cases h : s.data.toList = l
  · rw [decide_eq_true h]; simpa using h
  · rw [decide_eq_false h]; simpa using h
set_option maxHeartbeats 2000000 in
theorem Pr.arg (x : Wi) (pv : Value) (R : Nat → Prop) (w : World) (hx : St.Lies w R x.path pv) (hz : ∀ t ∈ x.path, t.length ≤ 4611686018427387904) (hzt : x.text.length ≤ 4611686018427387904) :
    Calls Tryz.prog 143 #[.agg #[.int .i64 x.kind, .string ⟨x.text.toArray⟩, pv, .int .i64 x.num]] w fun e w' => ∃ pv', Pr.AOut w w' R (Pi.arg x) e pv' := by
  obtain ⟨k, tl, p, m⟩ := x
  simp only at hx hz hzt ⊢
  obtain ⟨a, d, rfl, hd, hml, hxx⟩ := hx
  have hx : St.Lies w R p (.slice a p.length d) := ⟨a, d, rfl, hd, hml, hxx⟩
  have hnil : St.Lies w R [] (.slice none 0 0) := St.Lies.nil _ _
  have pm : ∀ u, Below w.heap.size w u → Calls Tryz.prog 164 #[.slice a p.length d] u fun e w' => e = .returned (.bool (Pi.path p)) ∧ w' = u := fun u hb => Pr.path p _ _ u (hx.later hb) hz
  have nm : ∀ u, Calls Tryz.prog 165 #[.string ⟨tl.toArray⟩] u fun e w' => e = .returned (.bool (Pi.name tl)) ∧ w' = u := fun u => Pr.name ⟨tl.toArray⟩ u (by show tl.toArray.size ≤ _; rw [List.size_toArray]; exact hzt)
  have tx1 : ∀ b, tl.isEmpty = b → (⟨tl.toArray⟩ : ByteArray).toList.isEmpty = b ∧ ((⟨tl.toArray⟩ : ByteArray).toList == []) = b := fun b h => ⟨(Pi.isEmpty_list _).trans h, (Pi.beq_nil _).trans h⟩
  have m1 : ∀ b, decide (m = 0) = b → (m == 0) = b ∧ (m != 0) = !b := fun b h => by
    by_cases hm : m = 0
    · rw [decide_eq_true hm] at h; subst h hm; exact ⟨rfl, rfl⟩
    · rw [decide_eq_false hm] at h; subst h; exact ⟨beq_eq_false_iff_ne.2 hm, by rw [bne, beq_eq_false_iff_ne.2 hm]⟩
  have p1 : ∀ b, p.isEmpty = b → ((p.length : Int) == 0) = b ∧ ((p.length : Int) != 0) = !b := fun b h => by
    have e := Pi.len0 p
    rw [h] at e
    exact ⟨e, by rw [bne, e]⟩
  have eq1 := fun l => Pi.beq_list ⟨tl.toArray⟩ l
  have hts : ((⟨tl.toArray⟩ : ByteArray).size : Int) = (tl.length : Int) := by show (tl.toArray.size : Int) = _; rw [List.size_toArray]
  clear hxx hd hml
  unfold Pi.arg
  simp only
  by_cases k1 : k = 1
  · subst k1
    rw [if_pos rfl]
    cases ht : tl.isEmpty with
    | false =>
      obtain ⟨t1, t2⟩ := tx1 _ ht
      exact (Pr.arg1a _ p m a d w t1 t2).mono fun e w' h => ⟨_, h.1, hx, h.2⟩
    | true =>
      obtain ⟨t1, t2⟩ := tx1 _ ht
      cases hm : decide (m = 0) with
      | false =>
        obtain ⟨q1, q2⟩ := m1 _ hm
        exact (Pr.arg1b _ p m a d w t1 t2 q1 q2).mono fun e w' h => ⟨_, h.1, hx, h.2⟩
      | true =>
        obtain ⟨q1, q2⟩ := m1 _ hm
        exact (Pr.arg1c _ p m a d w _ t1 t2 q1 q2 pm).mono fun e w' h => ⟨_, h.1, hx, h.2⟩
  rw [if_neg k1]
  by_cases k2 : k = 2
  · subst k2
    rw [if_pos rfl]
    cases hm : decide (m = 0) with
    | false =>
      obtain ⟨q1, q2⟩ := m1 _ hm
      exact (Pr.arg2a _ p m a d w q1 q2).mono fun e w' h => ⟨_, h.1, hx, h.2⟩
    | true =>
      obtain ⟨q1, q2⟩ := m1 _ hm
      cases hn : Pi.name tl with
      | false =>
        rw [hn] at nm
        exact (Pr.arg2b _ p m a d w q1 q2 nm).mono fun e w' h => ⟨_, h.1, hx, h.2⟩
      | true =>
        rw [hn] at nm
        exact (Pr.arg2c _ p m a d w _ q1 q2 nm pm).mono fun e w' h => ⟨_, h.1, hx, h.2⟩
  rw [if_neg k2]
  by_cases k3 : k = 3
  · subst k3
    rw [if_pos rfl]
    cases ht : tl.isEmpty with
    | false =>
      obtain ⟨t1, t2⟩ := tx1 _ ht
      exact (Pr.arg3a _ p m a d w t1 t2).mono fun e w' h => ⟨_, h.1, hnil, h.2⟩
    | true =>
      obtain ⟨t1, t2⟩ := tx1 _ ht
      cases hp : p.isEmpty with
      | false =>
        obtain ⟨q1, q2⟩ := p1 _ hp
        exact (Pr.arg3b _ p m a d w t1 t2 q1 q2).mono fun e w' h => ⟨_, h.1, hnil, h.2⟩
      | true =>
        obtain ⟨q1, q2⟩ := p1 _ hp
        unfold Pi.small
        cases hs : decide ((-9007199254740991 : Int) ≤ m) with
        | false => exact (Pr.arg3c _ p m a d w t1 t2 q1 q2 hs).mono fun e w' h => ⟨_, h.1, hnil, h.2⟩
        | true => exact (Pr.arg3d _ p m a d w _ t1 t2 q1 q2 hs rfl).mono fun e w' h => ⟨_, h.1, hnil, h.2⟩
  rw [if_neg k3]
  by_cases k4 : k = 4
  · subst k4
    rw [if_pos rfl]
    cases hm : decide (m = 0) with
    | false =>
      obtain ⟨q1, q2⟩ := m1 _ hm
      exact (Pr.arg4a _ p m a d w q1 q2).mono fun e w' h => ⟨_, h.1, hnil, h.2⟩
    | true =>
      obtain ⟨q1, q2⟩ := m1 _ hm
      cases hp : p.isEmpty with
      | false =>
        obtain ⟨r1, r2⟩ := p1 _ hp
        exact (Pr.arg4b _ p m a d w q1 q2 r1 r2).mono fun e w' h => ⟨_, h.1, hnil, h.2⟩
      | true =>
        obtain ⟨r1, r2⟩ := p1 _ hp
        exact (Pr.arg4c _ p m a d w (decide (tl.length ≤ 65536)) q1 q2 r1 r2 (by rw [hts]; simp; omega)).mono fun e w' h => ⟨_, h.1, hnil, h.2⟩
  rw [if_neg k4]
  by_cases k0 : k = 0
  · subst k0
    cases hm : decide (m = 0) with
    | false =>
      obtain ⟨q1, q2⟩ := m1 _ hm
      rw [if_pos (.inr (.inl (of_decide_eq_false hm)))]
      exact (Pr.argOb _ p m a d w q1 q2).mono fun e w' h => ⟨_, h.1, hnil, h.2⟩
    | true =>
      obtain ⟨q1, q2⟩ := m1 _ hm
      have hm0 := of_decide_eq_true hm
      cases hp : p.isEmpty with
      | false =>
        obtain ⟨r1, r2⟩ := p1 _ hp
        rw [if_pos (.inr (.inr (fun e => by rw [e] at hp; cases hp)))]
        exact (Pr.argOc _ p m a d w q1 q2 r1 r2).mono fun e w' h => ⟨_, h.1, hnil, h.2⟩
      | true =>
        obtain ⟨r1, r2⟩ := p1 _ hp
        rw [if_neg (fun q => q.elim (fun q => q rfl) fun q => q.elim (fun q => q hm0) fun q => q (List.isEmpty_iff.1 hp))]
        by_cases e1 : tl = [116, 114, 117, 101]
        · rw [if_pos e1]
          exact (Pr.argOd _ p m a d w q1 q2 r1 r2 ((eq1 _).trans (decide_eq_true e1))).mono fun e w' h => ⟨_, h.1, hnil, h.2⟩
        · rw [if_neg e1]
          by_cases e2 : tl = [102, 97, 108, 115, 101]
          · rw [if_pos e2]
            exact (Pr.argOe _ p m a d w q1 q2 r1 r2 ((eq1 _).trans (decide_eq_false e1)) ((eq1 _).trans (decide_eq_true e2))).mono fun e w' h => ⟨_, h.1, hnil, h.2⟩
          · rw [if_neg e2]
            exact (Pr.argOf _ p m a d w _ q1 q2 r1 r2 ((eq1 _).trans (decide_eq_false e1)) ((eq1 _).trans (decide_eq_false e2)) (eq1 _)).mono fun e w' h => ⟨_, h.1, hnil, h.2⟩
  · rw [if_pos (.inl k0)]
    exact (Pr.argOa k _ p m a d w (beq_eq_false_iff_ne.2 k1) (beq_eq_false_iff_ne.2 k2) (beq_eq_false_iff_ne.2 k3) (beq_eq_false_iff_ne.2 k4) (beq_eq_false_iff_ne.2 k0) (by rw [bne, beq_eq_false_iff_ne.2 k0]; rfl)).mono fun e w' h => ⟨_, h.1, hnil, h.2⟩
end Go.Proofs.YtjppobeomocgbaaGreatDoor
/-
  'append([]T{}, xs...)': the elements of xs, in a row of one's own; texts copied.
-/
namespace Go.Proofs.YtjppobeomocgbaaGreatDoor
open Go.RowKit
theorem Gc.run0 (P : Program) (w : World) (t ty e : TypeId) (i : TypeInfo) (ht : P.underlying t = some (.slice e)) (hi : P.info? e = some i) (g : Nat) (ak : Option Addr) (d : Nat) :
    (Builtin.append_ #[t, t] ty #[.slice (some ⟨g, 0, none⟩) 0 0, .slice ak 0 d]).run P w = .ok (.slice (some ⟨g, 0, none⟩) 0 0) w := by
  cases ak with
  | none => simp [Builtin.append_, run_underlying ht, sizeOf, typeInfo, hi, Builtin.lenOf, Builtin.firstCells, storeCells]
  | some a => simp [Builtin.append_, run_underlying ht, sizeOf, typeInfo, hi, Builtin.lenOf, Builtin.firstCells, loadCells, loadCellsFrom, storeCells]
theorem Gc.wp_copy {w : World} {o : Oper} {a : Act} {K : Act → World → Prop} {Z : Exit → Act → World → Prop} (s x : Operand) (t e : TypeId) (size bytes : Nat) (z : Value)
    (ho : o.op = .call { callee := .builtin .append, args := #[s, x], argTypes := #[t, t] })
    (ht : Tryz.prog.underlying t = some (.slice e)) (hi : (Tryz.prog.info? e).map (fun i => (i.zero, i.size, i.bytes)) = some (some z, size, bytes)) (hzs : z.cells.size = size) (hsz : 0 < size)
    {base : Nat} (g1 : Nat) (hs : a.eval s = .slice (some ⟨g1, 0, none⟩) 0 0) (hown : w.ownsRow base e size (.slice (some ⟨g1, 0, none⟩) 0 0) 0 []) (n : Nat) (news : List Value) (aa : Option Addr) (ad : Nat)
    (hx : a.eval x = .slice aa n ad) (hk : ∀ j u, news[j]? = some u → ∃ b, aa = some b ∧ w.cell? (b.add j) = some u) (hl : news.length = n * size) (hone : ∀ u ∈ news, u.oneCell' = true)
    (hn1 : n ≤ maxLen) (hn : n * bytes ≤ 140737488355328) (hbase : base ≤ w.heap.size)
    (h : ∀ v' w', w'.ownsRow base e size v' n news → w.grownBy w' (some g1) → (v'.ownBlock = some g1 ∨ v'.ownBlock = some w.heap.size) → K (a.put o.dst v') w') : o.wp Tryz.prog a w K Z := by
  obtain ⟨iV, hiV, hzV, hsV, hbV⟩ := info_parts hi
  by_cases h0 : n = 0
  · subst h0
    have hrun := Gc.run0 Tryz.prog w t o.type e iV ht hiV g1 aa ad
    have hnil : news = [] := List.eq_nil_of_length_eq_zero (by rw [hl]; simp)
    subst hnil
    have h2 := h (.slice (some ⟨g1, 0, none⟩) 0 0) w hown ⟨rfl, rfl, rfl, Nat.le_refl _, fun _ _ _ => rfl⟩ (.inl rfl)
    unfold Oper.wp execOp
    simp only [ho, resolve, invoke, builtin, Sem.run_bind, Sem.run_pure, Result.andThen_ok, List.map_toArray, List.map_cons, List.map_nil, hs, hx, hrun]
    exact h2
  · have hp : 0 < news.length := by rw [hl]; exact Nat.mul_pos (by omega) hsz
    obtain ⟨b, rfl, _⟩ := hk 0 _ (List.getElem?_eq_getElem hp)
    have hnews : ∀ j u, news[j]? = some u → w.cell? (b.add j) = some u := fun j u hj => by
      obtain ⟨b', e', hc⟩ := hk j u hj
      cases e'
      exact hc
    obtain ⟨v', w', hr, h2, h3, h4⟩ := run_append_own (P := Tryz.prog) w base t o.type e iV _ size bytes ht hiV hzV hsV hbV hzs hsz (.slice (some ⟨g1, 0, none⟩) 0 0) 0 [] hown b n ad news hl hnews hone (by omega) (by rw [Nat.zero_add]; exact hn) hbase
    have hf := Ro.fresh (P := Tryz.prog) base t o.type e iV _ size bytes ht hiV hzV hsV hbV hsz (.slice (some ⟨g1, 0, none⟩) 0 0) 0 [] hown b n ad (by omega) news hl hnews hone (by omega) (by rw [Nat.zero_add]; exact hn) v' w' hr
    unfold Oper.wp execOp
    simp only [ho, resolve, invoke, builtin, Sem.run_bind, Sem.run_pure, Result.andThen_ok, List.map_toArray, List.map_cons, List.map_nil, hs, hx, hr]
    rw [Nat.zero_add, List.nil_append] at h2
    exact h v' w' h2 h3 hf
/-- at a list of operations -/
theorem Gc.copy {w : World} {ops : Array Oper} {rest : List Oper} {o : Oper} {a : Act} {Z : Exit → Act → World → Prop} (hgd : o.guard = none) (s x : Operand) (t e : TypeId) (size bytes : Nat) (z : Value)
    (ho : o.op = .call { callee := .builtin .append, args := #[s, x], argTypes := #[t, t] })
    (ht : Tryz.prog.underlying t = some (.slice e)) (hi : (Tryz.prog.info? e).map (fun i => (i.zero, i.size, i.bytes)) = some (some z, size, bytes)) (hzs : z.cells.size = size) (hsz : 0 < size)
    {base : Nat} (g1 : Nat) (hs : a.eval s = .slice (some ⟨g1, 0, none⟩) 0 0) (hown : w.ownsRow base e size (.slice (some ⟨g1, 0, none⟩) 0 0) 0 []) (n : Nat) (news : List Value) (aa : Option Addr) (ad : Nat)
    (hx : a.eval x = .slice aa n ad) (hk : ∀ j u, news[j]? = some u → ∃ b, aa = some b ∧ w.cell? (b.add j) = some u) (hl : news.length = n * size) (hone : ∀ u ∈ news, u.oneCell' = true)
    (hn1 : n ≤ maxLen) (hn : n * bytes ≤ 140737488355328) (hbase : base ≤ w.heap.size)
    (h : ∀ v' w', w'.ownsRow base e size v' n news → w.grownBy w' (some g1) → (v'.ownBlock = some g1 ∨ v'.ownBlock = some w.heap.size) → wpList Tryz.prog ops Z rest (a.put o.dst v') w') : wpList Tryz.prog ops Z (o :: rest) a w :=
  wpList_plain hgd fun _ hK => Gc.wp_copy s x t e size bytes z ho ht hi hzs hsz g1 hs hown n news aa ad hx hk hl hone hn1 hn hbase fun v' w' h2 h3 h4 => hK _ _ (h v' w' h2 h3 h4)
/-- texts' cells, wherever they lie -/
theorem Gc.text_cells {w : World} {R : Nat → Prop} {ts : List (List UInt8)} {a : Option Addr} {n d : Nat} (h : St.Lies w R ts (.slice a n d)) : n = ts.length ∧ ∀ j u, (St.cells ts)[j]? = some u → ∃ b, a = some b ∧ w.cell? (b.add j) = some u := by
  obtain ⟨a', d', e, h1, h2, hx⟩ := h
  injection e with e1 e2 e3
  subst e1
  refine ⟨e2, fun j u hj => ?_⟩
  unfold St.cells at hj
  rw [List.getElem?_map] at hj
  cases ht : ts[j]? with
  | none => rw [ht] at hj; cases hj
  | some t =>
    rw [ht] at hj
    have hj := Option.some.inj hj
    subst hj
    obtain ⟨b, o, ea, _, c⟩ := hx j t ht
    exact ⟨⟨b, o, none⟩, ea, by rw [Ro.add]; exact c⟩
theorem Gc.ones (ts : List (List UInt8)) : ∀ u ∈ St.cells ts, u.oneCell' = true := by
  intro u hu
  obtain ⟨t, _, rfl⟩ := List.mem_map.1 hu
  rfl
theorem Gc.cells_len (ts : List (List UInt8)) : (St.cells ts).length = ts.length * 1 := by unfold St.cells; rw [List.length_map, Nat.mul_one]
/-- the row that is begun with -/
theorem Gc.none (w : World) (base : Nat) (ty : TypeId) (k : Nat) (hb : base ≤ w.heap.size) : (w.alloc (.cells #[] ty)).ownsRow base ty k (.slice (some ⟨w.heap.size, 0, none⟩) 0 0) 0 [] :=
  World.ownsRow_made w #[] 0 hb (Nat.zero_le _) (by simp)
end Go.Proofs.YtjppobeomocgbaaGreatDoor

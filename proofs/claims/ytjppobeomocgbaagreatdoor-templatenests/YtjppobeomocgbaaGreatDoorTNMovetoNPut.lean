/-
  WHAT COMES OF THE STACK IN MEMORY when a block is begun, turned, ended.
-/
import Derived.Test.YtjppobeomocgbaaGreatDoorTKRow2toNTop
namespace Go.Proofs.YtjppobeomocgbaaGreatDoor
open Go.RowKit
/-- the reader lies in block g -/
def Ml.Is (base : Nat) (w : World) (g : Nat) (s : Mz.St) : Prop := ∃ own iv ov xs, Ml.At base w g own s iv ov xs
theorem Ml.Is.on {base g : Nat} {w W : World} {s : Mz.St} (h : Ml.Is base w g s) (hb : Below w.heap.size w W) : Ml.Is base W g s := by
  obtain ⟨own, iv, ov, xs, h⟩ := h
  exact ⟨own, iv, ov, xs, h.on hb.size fun b _ hk _ => ⟨rfl, hb.block b hk⟩⟩
/-- the reader lies in block g, and data wait for their place in it -/
def Ml.Has (base : Nat) (w : World) (g : Nat) (s : Mz.St) (ds : List Dt) (vs : List Value) : Prop := ∃ own iv ov xs, Ml.At base w g own s iv ov xs ∧ Dt.fits w (Ml.P own base 100 w) ds vs
theorem Dt.fits_on {w W : World} {R Q : Nat → Prop} : ∀ (ds : List Dt) (vs : List Value), (∀ b, R b → Q b ∧ W.heap[b]? = w.heap[b]?) → Dt.fits w R ds vs → Dt.fits W Q ds vs := by
  intro ds
  induction ds with
  | nil =>
    intro vs hr h
    cases vs with
    | nil => trivial
    | cons v vs => exact h
  | cons d ds ih =>
    intro vs hr h
    cases vs with
    | nil => exact h
    | cons v vs => exact ⟨h.1.on hr, ih vs hr h.2⟩
theorem Ml.Has.on {base g : Nat} {w W : World} {s : Mz.St} {ds : List Dt} {vs : List Value} (h : Ml.Has base w g s ds vs) (hb : Below w.heap.size w W) : Ml.Has base W g s ds vs := by
  obtain ⟨own, iv, ov, xs, h, hf⟩ := h
  exact ⟨own, iv, ov, xs, h.on hb.size fun b _ hk _ => ⟨rfl, hb.block b hk⟩, Dt.fits_on ds vs (fun b hq => ⟨hq.on hb.size hq.2.2.1 (hb.block b hq.2.1), hb.block b hq.2.1⟩) hf⟩
/-- what was made behind it waits for its place -/
theorem Ml.Is.has {base g : Nat} {w W : World} {s : Mz.St} {ds : List Dt} {vs : List Value} (h : Ml.Is base w g s) (hb : Below w.heap.size w W) (hlo : base ≤ w.heap.size) (hf : Dt.fits W (fun b => w.heap.size ≤ b ∧ b < W.heap.size ∧ Rm.Ub W b) ds vs) : Ml.Has base W g s ds vs := by
  obtain ⟨own, iv, ov, xs, h⟩ := h
  refine ⟨fun b => if w.heap.size ≤ b then 100 else own b, iv, ov, xs, h.on hb.size fun b _ hk _ => ⟨if_neg (by omega), hb.block b hk⟩, Dt.fits_on ds vs (fun b hq => ⟨⟨by omega, hq.2.1, if_pos hq.1, hq.2.2⟩, rfl⟩) hf⟩
/-- an item's five cells -/
theorem It.fits {w : World} {R : Nat → Prop} {k : Int} {t : List UInt8} {T : ByteArray} {p : List Cm} {a b : List It} {pv av bv : Value} (hT : T.data.toList = t) (hp : Dt.Lies w R (Cm.rows p) pv) (ha : Dt.Lies w R (It.rows a) av) (hb : Dt.Lies w R (It.rows b) bv) : Dt.fits w R (It.dt (.mk k t p a b)) [.int .i64 k, .string T, pv, av, bv] := by
  rw [It.dt_mk]
  subst hT
  exact ⟨by unfold Dt.Lies; rfl, by unfold Dt.Lies; rfl, hp, ha, hb, trivial⟩
theorem It.nil (w : World) (R : Nat → Prop) : Dt.Lies w R (It.rows []) (.slice none 0 0) := Dt.Lies.nil _ _ _ _
theorem Cm.nil (w : World) (R : Nat → Prop) : Dt.Lies w R (Cm.rows []) (.slice none 0 0) := Dt.Lies.nil _ _ _ _
section
variable {base g : Nat} {w : World} {own : Nat → Nat} {iv ov : Value} {xs : List Value}
/-- the six cells of a block that is begun -/
def Ml.six (k : Int) (pv : Value) : List Value := [.int .i64 k, .string ⟨#[]⟩, pv, .slice none 0 0, .slice none 0 0, .bool false]
theorem Ml.At.begin {s : Mz.St} {w1 w4 : World} {ov4 pv : Value} {k : Int} {p : List Cm} (h : Ml.At base w g own s iv ov xs) (hd : s.op.length < 16) (hp : Dt.Lies w (Ml.P own base 100 w) (Cm.rows p) pv) (hb : Below w.heap.size w w1)
    (hown : w4.ownsRow base 140 6 ov4 (s.op.length + 1) (xs ++ Ml.six k pv)) (hg : w1.grownBy w4 ov.ownBlock) (hf : ov4.ownBlock = ov.ownBlock ∨ ov4.ownBlock = some w1.heap.size) : Ml.Is base (w4.setCell ⟨g, 1, none⟩ ov4) g (s.begin k p) := by
  have hbz := hb.size
  have hgz := hg.size
  have hgl := h.box.lt
  have hxl : xs.length = s.op.length * 6 := h.op.1
  have hold : ∀ q, q < w.heap.size → ov.ownBlock ≠ some q → w4.heap[q]? = w.heap[q]? := fun q hq hne => (hg.block q (by omega) (fun e => hne e.symm)).trans (hb.block q hq)
  have holdg : ∀ q, q < w.heap.size → ov.ownBlock ≠ some q → q ≠ g → (w4.setCell ⟨g, 1, none⟩ ov4).heap[q]? = w.heap[q]? := fun q hq hne hqg => (Below.heap_setCell _ _ _ _ hqg).trans (hold q hq hne)
  have hgo : ov.ownBlock ≠ some g := fun e => (h.oo g e).2 rfl
  have hne0 : ∀ q, own q ≠ 0 → ov.ownBlock ≠ some q ∧ q ≠ g := fun q hq => ⟨fun e => hq (h.oo q e).1, fun e => hq (by rw [e]; exact h.og)⟩
  have hB : Bs.Box w4 g #[iv, ov] 56 := (hold g hgl hgo).trans h.box
  have hz : w.heap.size ≤ (w4.setCell ⟨g, 1, none⟩ ov4).heap.size := by simp; omega
  have hg4 : ∀ q, ov4.ownBlock = some q → q ≠ g := fun q hq e => by
    subst e
    rcases hf with a | a
    · rw [a] at hq; exact hgo hq
    · rw [a] at hq; have := Option.some.inj hq; omega
  refine ⟨fun b => if w.heap.size ≤ b then 0 else if own b = 100 then 3 * s.op.length + 4 else own b, iv, ov4, xs ++ Ml.six k pv, hB.set 1 ov4, ?_, h.lo, h.items.on hz fun q a c e => ?_, ?_, fun q hq => ?_, fun i b hi => ?_, ?_⟩
  · show (if _ then _ else if _ then _ else _) = _
    rw [if_neg (by omega), if_neg (by rw [h.og]; decide)]
    exact h.og
  · obtain ⟨n1, n2⟩ := hne0 q (by rw [e]; decide)
    exact ⟨by rw [if_neg (by omega), if_neg (by rw [e]; decide)]; exact e, holdg q c n1 n2⟩
  · show World.ownsRow _ base _ 6 ov4 (s.op ++ [_]).length _
    rw [List.length_append, List.length_singleton]
    exact Rm.own_on hown fun q hq => Below.heap_setCell _ _ _ _ (hg4 q hq)
  · refine ⟨?_, hg4 q hq⟩
    rcases hf with a | a
    · rw [a] at hq
      have := h.op.lt q hq
      rw [if_neg (by omega), if_neg (by rw [(h.oo q hq).1]; decide)]
      exact (h.oo q hq).1
    · rw [a] at hq
      have := Option.some.inj hq
      rw [if_pos (by omega)]
  · rcases Ml.idx hi with ⟨hlt, hi⟩ | ⟨rfl, rfl⟩
    · refine (h.cell i b hi).on hz (fun r hr => by rw [List.getElem?_append_left (by omega)]) fun q a1 a2 a3 => ?_
      obtain ⟨n1, n2⟩ := hne0 q (by omega)
      exact ⟨by rw [if_neg (by omega), if_neg (by omega)], holdg q a2 n1 n2⟩
    · have hx : ∀ r, (xs ++ Ml.six k pv)[s.op.length * 6 + r]? = (Ml.six k pv)[r]? := fun r => by
        rw [List.getElem?_append_right (by omega), hxl, Nat.add_sub_cancel_left]
      refine ⟨hx 0, hx 1, ⟨pv, hx 2, hp.on fun q hq => ?_⟩, ⟨_, hx 3, Ml.Row.nil _ _ _ _⟩, ⟨_, hx 4, Ml.Row.nil _ _ _ _⟩, hx 5⟩
      obtain ⟨n1, n2⟩ := hne0 q (by rw [hq.2.2.1]; decide)
      have e := holdg q hq.2.1 n1 n2
      have := hq.2.1
      exact ⟨hq.on hz (by rw [if_neg (by omega), if_pos hq.2.2.1]) e, e⟩
  · show (s.op ++ [_]).length ≤ 16
    rw [List.length_append, List.length_singleton]
    omega
/-- the innermost block's Else -/
theorem Ml.At.turn {is : List It} {l : List Mz.Bk} {b : Mz.Bk} {pb d : Nat} (h : Ml.At base w g own ⟨is, l ++ [b]⟩ iv (.slice (some ⟨pb, 0, none⟩) (l.length + 1) d) xs) : Ml.Is base (w.setCell ⟨pb, l.length * 6 + 5, none⟩ (.bool true)) g ⟨is, l ++ [⟨b.k, b.p, b.thn, b.els, true⟩]⟩ := by
  obtain ⟨pb2, d2, e2, p1, p2, p3, p4, p5, p6, p7, p8, p9, p10, hc⟩ := h.last
  injection e2 with e2
  injection e2 with e2
  injection e2 with e2
  subst e2
  obtain ⟨ck, ct, ⟨pv, cp1, cp2⟩, ⟨tv, ct1, ct2⟩, ⟨ev, ce1, ce2⟩, ce⟩ := hc
  have hz : w.heap.size ≤ (w.setCell ⟨pb, l.length * 6 + 5, none⟩ (.bool true)).heap.size := by simp
  have hk : ∀ q, own q ≠ 0 → (w.setCell ⟨pb, l.length * 6 + 5, none⟩ (.bool true)).heap[q]? = w.heap[q]? := fun q hq => Below.heap_setCell _ _ _ _ fun e => hq (by rw [e]; exact p1)
  refine ⟨own, _, _, _, h.lensT (t := 5) (own2 := own) (by decide) hz (fun q _ _ _ _ => ⟨rfl, fun hne => Below.heap_setCell _ _ _ _ hne⟩) rfl ⟨?_, ?_, ⟨pv, ?_, cp2.on fun q hq => ?_⟩, ⟨tv, ?_, ct2.on hz fun q a b c => ⟨c, hk q (by omega)⟩⟩, ⟨ev, ?_, ce2.on hz fun q a b c => ⟨c, hk q (by omega)⟩⟩, ?_⟩⟩
  · rw [List.getElem?_set_ne (by omega)]; exact ck
  · rw [List.getElem?_set_ne (by omega)]; exact ct
  · rw [List.getElem?_set_ne (by omega)]; exact cp1
  · have e := hk q (by rw [hq.2.2.1]; omega)
    exact ⟨hq.on hz hq.2.2.1 e, e⟩
  · rw [List.getElem?_set_ne (by omega)]; exact ct1
  · rw [List.getElem?_set_ne (by omega)]; exact ce1
  · rw [List.getElem?_set_self (by omega)]
/-- the innermost block is taken off; its item waits for its place -/
theorem Ml.At.pop {is : List It} {l : List Mz.Bk} {b : Mz.Bk} {pb d : Nat} {pv tv ev : Value} (h : Ml.At base w g own ⟨is, l ++ [b]⟩ iv (.slice (some ⟨pb, 0, none⟩) (l.length + 1) d) xs) (hp : xs[l.length * 6 + 2]? = some pv) (ht : xs[l.length * 6 + 3]? = some tv) (he : xs[l.length * 6 + 4]? = some ev) :
    Ml.Has base (w.setCell ⟨g, 1, none⟩ (.slice (some ⟨pb, 0, none⟩) l.length d)) g ⟨is, l⟩ (It.dt b.item) [.int .i64 b.k, .string ⟨#[]⟩, pv, tv, ev] := by
  have hdp := h.deep
  have hn : (l ++ [b]).length = l.length + 1 := by simp
  have hop := h.op
  rw [hn] at hop hdp
  have hc := h.cell l.length b (by simp)
  obtain ⟨ck, ct, ⟨pv2, cp1, cp2⟩, ⟨tv2, ct1, ct2⟩, ⟨ev2, ce1, ce2⟩, ce⟩ := hc
  rw [hp] at cp1
  rw [ht] at ct1
  rw [he] at ce1
  injection cp1 with cp1
  injection ct1 with ct1
  injection ce1 with ce1
  subst cp1 ct1 ce1
  have hz : w.heap.size ≤ (w.setCell ⟨g, 1, none⟩ (.slice (some ⟨pb, 0, none⟩) l.length d)).heap.size := by simp
  have hk : ∀ q, own q ≠ 0 → (w.setCell ⟨g, 1, none⟩ (.slice (some ⟨pb, 0, none⟩) l.length d)).heap[q]? = w.heap[q]? := fun q hq => Below.heap_setCell _ _ _ _ fun e => hq (by rw [e]; exact h.og)
  have ho := h.oo pb rfl
  obtain ⟨own2, ho2⟩ : ∃ own2 : Nat → Nat, own2 = fun q => if own q = 3 * l.length + 2 ∨ own q = 3 * l.length + 3 ∨ own q = 3 * l.length + 4 then 100 else own q := ⟨_, rfl⟩
  have hsame : ∀ q, ¬ (own q = 3 * l.length + 2 ∨ own q = 3 * l.length + 3 ∨ own q = 3 * l.length + 4) → own2 q = own q := fun q hq => by rw [ho2]; exact if_neg hq
  have h100 : ∀ q, (own q = 3 * l.length + 2 ∨ own q = 3 * l.length + 3 ∨ own q = 3 * l.length + 4) → own2 q = 100 := fun q hq => by rw [ho2]; exact if_pos hq
  have hlie : ∀ {D : Dt} {u : Value} (j : Nat), (j = 3 * l.length + 2 ∨ j = 3 * l.length + 3 ∨ j = 3 * l.length + 4) → Dt.Lies w (Ml.P own base j w) D u → Dt.Lies (w.setCell ⟨g, 1, none⟩ (.slice (some ⟨pb, 0, none⟩) l.length d)) (Ml.P own2 base 100 (w.setCell ⟨g, 1, none⟩ (.slice (some ⟨pb, 0, none⟩) l.length d))) D u := fun j hj hd => hd.on fun q hq => by
    have e := hk q (by rw [hq.2.2.1]; omega)
    exact ⟨hq.on hz (h100 q (by rw [hq.2.2.1]; exact hj)) e, e⟩
  refine ⟨own2, iv, _, xs.take (l.length * 6), ⟨h.box.set 1 _, ?_, h.lo, h.items.on hz fun q a c e => ⟨(hsame q (by omega)).trans e, hk q (by omega)⟩, ?_, fun q hq => ?_, fun i c hi => ?_, by show l.length ≤ 16; omega⟩, It.fits rfl (hlie _ (.inr (.inr rfl)) cp2) (hlie _ (.inl rfl) ct2.lies) (hlie _ (.inr (.inl rfl)) ce2.lies)⟩
  · rw [hsame g (by rw [h.og]; omega)]
    exact h.og
  · refine Rm.own_on (w := w) ?_ fun q hq => Below.heap_setCell _ _ _ _ ?_
    · rcases hop.2 with ⟨e, _⟩ | ⟨pb2, d2, cur, e, h1, h2, h3, h4, h5, h6⟩
      · cases e
      · injection e with e1 _ e3
        injection e1 with e1
        injection e1 with e1
        subst e1 e3
        have hxl := hop.1
        refine ⟨by rw [List.length_take, hxl]; show _ = l.length * 6; omega, .inr ⟨pb, d, cur, rfl, h1, h2, by show l.length ≤ d; omega, h4, h5, ?_⟩⟩
        rw [← h6, List.take_take]
        congr 1
        show l.length * 6 = _
        omega
    · have : pb = q := Option.some.inj hq
      subst this
      exact ho.2
  · have : pb = q := Option.some.inj hq
    subst this
    exact ⟨(hsame pb (by rw [ho.1]; omega)).trans ho.1, ho.2⟩
  · have hil : i < l.length := (List.getElem?_eq_some_iff.1 hi).1
    refine (h.cell i c (by show (l ++ [b])[i]? = _; rw [List.getElem?_append_left hil]; exact hi)).on hz (fun r hr => ?_) fun q a1 a2 a3 => ⟨hsame q (by omega), hk q (by omega)⟩
    rw [List.getElem?_take, if_pos (by omega)]
end
end Go.Proofs.YtjppobeomocgbaaGreatDoor
/-
  THE WALKS of row and isInLoop.
-/
namespace Go.Proofs.YtjppobeomocgbaaGreatDoor
open Go.RowKit
set_option maxRecDepth 100000 in
set_option maxHeartbeats 4000000 in
theorem Ml.row {base g : Nat} {w : World} {own : Nat → Nat} {s : Mz.St} {iv ov : Value} {xs : List Value} (h : Ml.At base w g own s iv ov xs) {pb po : Nat} (ht : Ml.Top g ov s pb po) :
    Calls Tryz.prog 52 #[.pointer (some ⟨g, 0, none⟩)] w fun e w' => e = .returned (.pointer (some ⟨pb, po, none⟩)) ∧ ∃ k, w' = w.drewN k := by
  have tp := Ml.top h
  obtain ⟨is, op⟩ := s
  rcases ht with ⟨e, rfl, rfl⟩ | ⟨l, b, d, e, rfl, rfl⟩
  · simp only at e
    subst e
    clear h
    go_enter Tryz.func52, Tryz.ntmps52
    go_wp2_with (go_at_call 79; refine tp.mono ?_; rintro e w1 ⟨⟨-, rfl⟩ | ⟨l', b', pb', d', he, -, -⟩, n1, rfl⟩; case inr => exact absurd he (by simp))
    go_ret
    exact ⟨rfl, _, rfl⟩
  · simp only at e
    subst e
    obtain ⟨pb2, d2, e2, p1, p2, p3, p4, p5, p6, p7, p8, p9, p10, hc⟩ := h.last
    injection e2 with e2
    injection e2 with e2
    injection e2 with e2
    subst e2
    have ce := p10 5 _ (by decide) hc.e
    have tp2 : Calls Tryz.prog 79 #[.pointer (some ⟨g, 0, none⟩)] w fun e w' => e = .returned (.pointer (some ⟨pb, l.length * 6, none⟩)) ∧ ∃ k, w' = w.drewN k := by
      refine tp.mono ?_
      rintro e w1 ⟨⟨he, _⟩ | ⟨l', b', pb', d', he, h2, h3⟩, hk⟩
      · exact absurd he (by simp)
      · obtain ⟨e1, e2⟩ := List.append_inj he (by have := congrArg List.length he; simp at this; omega)
        subst e1
        injection h2 with h2
        injection h2 with h2
        injection h2 with h2
        subst h2
        exact ⟨h3, hk⟩
    clear h hc p10 p9 tp
    generalize l.length * 6 = n at *
    cases hb : b.e with
    | false =>
      rw [hb] at ce
      rw [if_neg (by decide)]
      clear hb
      go_enter Tryz.func52, Tryz.ntmps52
      go_wp2_with (go_at_call 79; refine tp2.mono ?_; rintro e w1 ⟨rfl, n1, rfl⟩; have ce : (w.drewN n1).cell? _ = _ := ce)
      go_ret
      exact ⟨rfl, _, rfl⟩
    | true =>
      rw [hb] at ce
      rw [if_pos rfl]
      clear hb
      go_enter Tryz.func52, Tryz.ntmps52
      go_wp2_with (go_at_call 79; refine tp2.mono ?_; rintro e w1 ⟨rfl, n1, rfl⟩; have ce : (w.drewN n1).cell? _ = _ := ce)
      go_ret
      exact ⟨rfl, _, rfl⟩
end Go.Proofs.YtjppobeomocgbaaGreatDoor
/-
  THE WALK of put.
-/
namespace Go.Proofs.YtjppobeomocgbaaGreatDoor
open Go.RowKit
theorem Ml.ones (k : Int) (t : ByteArray) (a2 : Option Addr) (n2 d2 : Nat) (a3 : Option Addr) (n3 d3 : Nat) (a4 : Option Addr) (n4 d4 : Nat) : ∀ u ∈ ([.int .i64 k, .string t, .slice a2 n2 d2, .slice a3 n3 d3, .slice a4 n4 d4] : List Value), u.oneCell' = true := by
  intro u hu
  simp only [List.mem_cons, List.not_mem_nil, or_false] at hu
  rcases hu with rfl | rfl | rfl | rfl | rfl <;> rfl
/-- behind the append and the stores: the stack with an item more -/
theorem Ml.put_end {base g : Nat} {w w1 w4 W : World} {own : Nat → Nat} {s : Mz.St} {zs : List Value} {pb po j : Nat} {v : Value} {x : It} {b4 d4 : Nat} {news : List Value}
    (hlo : base ≤ w.heap.size) (hj : j ≠ 100) (hj0 : j ≠ 0) (hpb : own pb = 0) (hpl : pb < w.heap.size) (hG : Gr.Own base (fun b => own b ≠ j) 37 5 s.cur.length (s.cur.flatMap It.dt) w v zs) (hv : ∀ b, v.ownBlock = some b → own b = j)
    (hl : ∀ W own2 v' l', w.heap.size ≤ W.heap.size → (∀ b, base ≤ b → b < w.heap.size → own b ≠ 100 → own b ≠ j → own2 b = own b ∧ (b ≠ pb → W.heap[b]? = w.heap[b]?)) → W.heap[pb]? = (w.setCell ⟨pb, po, none⟩ v').heap[pb]? → Ml.Row own2 base j l' W v' → ∃ iv' ov' xs', Ml.At base W g own2 (s.set l') iv' ov' xs')
    (hbp : base ≤ pb) (hb : Below w.heap.size w w1) (hg : w1.grownBy w4 v.ownBlock) (hf : (Value.slice (some ⟨b4, 0, none⟩) (s.cur.length + 1) d4).ownBlock = v.ownBlock ∨ (Value.slice (some ⟨b4, 0, none⟩) (s.cur.length + 1) d4).ownBlock = some w1.heap.size)
    (hW : ∀ k, k ≠ b4 → W.heap[k]? = w4.heap[k]?) (hz : W.heap.size = w4.heap.size) (ho : W.os = w4.os) (ht : W.tape = w4.tape) (hu : W.output = w4.output)
    (hown : W.ownsRow base 37 5 (.slice (some ⟨b4, 0, none⟩) (s.cur.length + 1) d4) (s.cur.length + 1) (zs ++ news))
    (hx : Dt.fits w (Ml.P own base 100 w) (It.dt x) news) : Ml.Is base (W.setCell ⟨pb, po, none⟩ (.slice (some ⟨b4, 0, none⟩) (s.cur.length + 1) d4)) g (s.put x) ∧ Below base w (W.setCell ⟨pb, po, none⟩ (.slice (some ⟨b4, 0, none⟩) (s.cur.length + 1) d4)) := by
  have hlt := (show Ml.Row own base j s.cur w v from ⟨⟨zs, hG⟩, hv⟩).lt
  have hbz := hb.size
  have hgz := hg.size
  have hb4 : w.heap.size ≤ b4 ∨ v.ownBlock = some b4 := by
    rcases hf with q | q
    · exact .inr q.symm
    · have : b4 = w1.heap.size := Option.some.inj q
      exact .inl (by omega)
  have hpv : v.ownBlock ≠ some pb := fun e => hj0 ((hlt pb e).2.2.symm.trans hpb)
  have hpb4 : pb ≠ b4 := fun e => by
    subst e
    rcases hb4 with q | q
    · omega
    · exact hpv q
  have hold : ∀ q, q < w.heap.size → v.ownBlock ≠ some q → W.heap[q]? = w.heap[q]? := fun q hq hne => by
    have hq4 : q ≠ b4 := fun e => by
      subst e
      rcases hb4 with a | a
      · omega
      · exact hne a
    exact (hW q hq4).trans ((hg.block q (by omega) (fun e => hne e.symm)).trans (hb.block q hq))
  have hr := Ml.Row.push hG hv hj hb hg hf hW hz ho ht hu hown hx
  have hsz : w.heap.size ≤ (W.setCell ⟨pb, po, none⟩ (.slice (some ⟨b4, 0, none⟩) (s.cur.length + 1) d4)).heap.size := by simp; omega
  obtain ⟨o2, ho2⟩ : ∃ o2 : Nat → Nat, o2 = fun b => if own b = 100 ∨ w.heap.size ≤ b then j else own b := ⟨_, rfl⟩
  rw [← ho2] at hr
  have hop : o2 pb = 0 := by rw [ho2]; show (if _ then _ else _) = _; rw [if_neg (by omega)]; exact hpb
  refine ⟨⟨o2, hl _ o2 (.slice (some ⟨b4, 0, none⟩) (s.cur.length + 1) d4) (s.cur ++ [x]) hsz (fun b a1 a2 a3 a4 => ⟨by rw [ho2]; show (if _ then _ else _) = _; rw [if_neg (by omega)], fun hne => (Below.heap_setCell _ _ _ _ hne).trans (hold b a2 fun e => a4 (hlt b e).2.2)⟩) ?_ (hr.on (by simp) fun b a1 a2 a3 => ⟨a3, Below.heap_setCell _ _ _ _ fun e => by rw [e, hop] at a3; exact hj0 a3.symm⟩)⟩, ?_⟩
  · show (W.heap.modify pb _)[pb]? = (w.heap.modify pb _)[pb]?
    rw [Array.getElem?_modify, Array.getElem?_modify, if_pos rfl, if_pos rfl, hold pb hpl hpv]
  · refine ⟨?_, ?_, ?_, hsz, fun k hk => (Below.heap_setCell _ _ _ _ (by show k ≠ pb; omega)).trans (hold k (by omega) fun e => by have := (hlt k e).1; omega)⟩
    · exact ho.trans (hg.os.trans hb.os)
    · exact ht.trans (hg.tape.trans hb.tape)
    · exact hu.trans (hg.output.trans hb.output)
/-- what is known of a row that has a record of zeros more -/
theorem Ml.grown {base n b d : Nat} {w : World} {T : TypeId} {zs : List Value} {z0 z1 z2 z3 z4 : Value} (h : w.ownsRow base T 5 (.slice (some ⟨b, 0, none⟩) (n + 1) d) (n + 1) (zs ++ [z0, z1, z2, z3, z4])) :
    w.cell? ⟨b, n * 5, none⟩ = some z0 ∧ w.cell? ⟨b, n * 5 + 1, none⟩ = some z1 ∧ w.cell? ⟨b, n * 5 + 2, none⟩ = some z2 ∧ w.cell? ⟨b, n * 5 + 3, none⟩ = some z3 ∧ w.cell? ⟨b, n * 5 + 4, none⟩ = some z4 ∧ ∀ q, w.frozen? ⟨b, q, none⟩ = false := by
  have hl : zs.length = n * 5 := by
    have := h.1
    simp at this
    omega
  have hc : ∀ r, r < 5 → w.cell? ⟨b, n * 5 + r, none⟩ = [z0, z1, z2, z3, z4][r]? := fun r hr => by
    rw [h.cellAt (n * 5 + r) (by omega), List.getElem?_append_right (by omega), hl, Nat.add_sub_cancel_left]
  exact ⟨hc 0 (by decide), hc 1 (by decide), hc 2 (by decide), hc 3 (by decide), hc 4 (by decide), fun q => h.frozenAt q⟩
theorem Ml.comm {w : World} {b c o r : Nat} {u v : Value} (h : b ≠ c) : (w.setCell ⟨c, o, none⟩ u).setCell ⟨b, r, none⟩ v = (w.setCell ⟨b, r, none⟩ v).setCell ⟨c, o, none⟩ u := by
  unfold World.setCell
  congr 1
  simp only
  apply Array.ext_getElem?
  intro i
  simp only [Array.getElem?_modify]
  by_cases h1 : b = i
  · by_cases h2 : c = i
    · exact absurd (h1.trans h2.symm) h
    · rw [if_pos h1, if_neg h2, if_neg h2, if_pos h1]
  · rw [if_neg h1, if_neg h1]
theorem Ml.five_set {w : World} {b c o n : Nat} {u v0 v1 v2 v3 v4 : Value} (h : b ≠ c) :
    (((((w.setCell ⟨c, o, none⟩ u).setCell ⟨b, n, none⟩ v0).setCell ⟨b, n + 1, none⟩ v1).setCell ⟨b, n + 2, none⟩ v2).setCell ⟨b, n + 3, none⟩ v3).setCell ⟨b, n + 4, none⟩ v4 = (((((w.setCell ⟨b, n, none⟩ v0).setCell ⟨b, n + 1, none⟩ v1).setCell ⟨b, n + 2, none⟩ v2).setCell ⟨b, n + 3, none⟩ v3).setCell ⟨b, n + 4, none⟩ v4).setCell ⟨c, o, none⟩ u := by
  rw [Ml.comm h, Ml.comm h, Ml.comm h, Ml.comm h, Ml.comm h]
theorem Ml.slice_form {base n : Nat} {w : World} {T : TypeId} {size : Nat} {v : Value} {zs : List Value} (h : w.ownsRow base T size v (n + 1) zs) : ∃ b d, v = .slice (some ⟨b, 0, none⟩) (n + 1) d ∧ n < d := by
  rcases h.2 with ⟨_, e⟩ | ⟨b, d, cur, e, h1, h2, h3, _⟩
  · omega
  · exact ⟨b, d, e, h3⟩
set_option maxRecDepth 100000 in
set_option maxHeartbeats 8000000 in
theorem Ml.put {base g : Nat} {w : World} {s : Mz.St} {x : It} {k : Int} {t : ByteArray} {a2 : Option Addr} {n2 d2 : Nat} {a3 : Option Addr} {n3 d3 : Nat} {a4 : Option Addr} {n4 d4 : Nat}
    (h : Ml.Has base w g s (It.dt x) [.int .i64 k, .string t, .slice a2 n2 d2, .slice a3 n3 d3, .slice a4 n4 d4]) (hlo : base ≤ w.heap.size) (hn : s.cur.length ≤ 1048576) :
    Calls Tryz.prog 26 #[.pointer (some ⟨g, 0, none⟩), .agg #[.int .i64 k, .string t, .slice a2 n2 d2, .slice a3 n3 d3, .slice a4 n4 d4]] w fun e w' => e = .returned (.tuple #[]) ∧ Ml.Is base w' g (s.put x) ∧ Below base w w' := by
  obtain ⟨w1, hw1⟩ : ∃ w1, w.alloc (.cells #[.int .i64 k, .string t, .slice a2 n2 d2, .slice a3 n3 d3, .slice a4 n4 d4] 37) = w1 := ⟨_, rfl⟩
  have hB1 : Below w.heap.size w w1 := by rw [← hw1]; exact (Below.refl w.heap.size w).alloc (Nat.le_refl _) _
  have hX : Bs.Box w1 w.heap.size #[.int .i64 k, .string t, .slice a2 n2 d2, .slice a3 n3 d3, .slice a4 n4 d4] 37 := by rw [← hw1]; exact Bs.Box.new w _ _ _ rfl
  have h1 := h.on hB1
  have hlo1 : base ≤ w1.heap.size := Nat.le_trans hlo hB1.size
  have HB1 : Hid (Below base w w1) := hB1.mono hlo
  obtain ⟨own, iv, ov, xs, hA, hF⟩ := h1
  have hxb := hX.lt
  obtain ⟨ub, hub⟩ : ∃ ub, w.heap.size = ub := ⟨_, rfl⟩
  rw [hub] at hX hxb
  obtain ⟨pb, po, v, j, hT, hj0, hj, hc, hfz, hpb, hbp, hpl, hrow, hl⟩ := hA.lens
  have rc := Ml.row hA hT
  obtain ⟨a, d, rfl⟩ := hrow.form
  obtain ⟨⟨zs, hG⟩, hv⟩ := hrow
  have HE := Lib.hid (fun W u w4 b4 d5 hb hg hf hW hz ho ht hu hown => Ml.put_end (w := w1) (W := W) (w1 := u) (w4 := w4) (x := x) (b4 := b4) (d4 := d5) hlo1 hj hj0 hpb hpl hG hv hl hbp hb hg hf hW hz ho ht hu hown hF)
  clear hA hF hl hT h hB1
  go_enter Tryz.func26, Tryz.ntmps26
  go_upto_region 2 with (go_at_call 52; refine rc.mono ?_; rintro e w2 ⟨rfl, n1, rfl⟩)
  have x0 : w1.cell? ⟨ub, 0, none⟩ = some (.int .i64 k) := hX.cell 0 rfl
  have x1 : w1.cell? ⟨ub, 1, none⟩ = some (.string t) := hX.cell 1 rfl
  have x2 : w1.cell? ⟨ub, 2, none⟩ = some (.slice a2 n2 d2) := hX.cell 2 rfl
  have x3 : w1.cell? ⟨ub, 3, none⟩ = some (.slice a3 n3 d3) := hX.cell 3 rfl
  have x4 : w1.cell? ⟨ub, 4, none⟩ = some (.slice a4 n4 d4) := hX.cell 4 rfl
  have hal : ∀ (o' : Obj) (q r : Nat), q < w1.heap.size → ((w1.drewN (n1 + 1)).alloc o').cell? ⟨q, r, none⟩ = w1.cell? ⟨q, r, none⟩ := fun o' q r hq => World.cell?_of_block (w := w1) (Below.heap_alloc (w1.drewN (n1 + 1)) _ _ hq)
  have hcA := fun o' => (hal o' pb po hpl).trans hc
  have x0A := fun o' => (hal o' ub 0 hxb).trans x0
  have x1A := fun o' => (hal o' ub 1 hxb).trans x1
  have x2A := fun o' => (hal o' ub 2 hxb).trans x2
  have x3A := fun o' => (hal o' ub 3 hxb).trans x3
  have x4A := fun o' => (hal o' ub 4 hxb).trans x4
  clear hal
  have HBA : Hid (∀ o' : Obj, Below w1.heap.size w1 ((w1.drewN (n1 + 1)).alloc o')) := fun o' => ⟨rfl, rfl, rfl, by simp, fun k hk => Below.heap_alloc (w1.drewN (n1 + 1)) _ _ hk⟩
  have HG : Hid (∀ u : World, u.heap = w1.heap → u.ownsRow base 37 5 (.slice a s.cur.length d) s.cur.length zs) := fun u e => Rm.own_on hG.own fun _ _ => by rw [e]
  have HN : Hid (s.cur.length + 1 ≤ maxLen ∧ (s.cur.length + 1) * 96 ≤ 140737488355328 ∧ base ≤ w1.heap.size) := ⟨by unfold maxLen; omega, by omega, hlo1⟩
  have hpv : (Value.slice a s.cur.length d).ownBlock ≠ some pb := fun e => hj0 ((hv pb e).symm.trans hpb)
  have HPB : Hid (∀ (u w4 : World) {b4 n5 d5 : Nat} {o : Obj}, u.heap = (w1.alloc o).heap → u.grownBy w4 (Value.slice a s.cur.length d).ownBlock → ((Value.slice (some ⟨b4, 0, none⟩) n5 d5).ownBlock = (Value.slice a s.cur.length d).ownBlock ∨ (Value.slice (some ⟨b4, 0, none⟩) n5 d5).ownBlock = some u.heap.size) → pb ≠ b4) := fun u w4 b4 n5 d5 o he _ hf e => by
    subst e
    rcases hf with q | q
    · exact hpv q.symm
    · have : pb = u.heap.size := Option.some.inj q
      rw [he] at this
      simp at this
      omega
  have HC4 : Hid (∀ (u w4 : World) {o : Obj}, u.heap = (w1.alloc o).heap → u.grownBy w4 (Value.slice a s.cur.length d).ownBlock → w4.cell? ⟨pb, po, none⟩ = some (.slice a s.cur.length d)) := fun u w4 o e hg => by
    refine (World.cell?_of_block (hg.block pb (by rw [e]; simp; omega) (fun q => hpv q.symm))).trans ?_
    refine (World.cell?_of_block (w := w1) ?_).trans hc
    rw [e]
    exact Below.heap_alloc _ _ _ hpl
  have HF4 : Hid (∀ (u w4 : World) {o : Obj}, u.heap = (w1.alloc o).heap → u.grownBy w4 (Value.slice a s.cur.length d).ownBlock → w4.frozen? ⟨pb, po, none⟩ = false) := fun u w4 o e hg => by
    refine (World.frozen?_of_block (hg.block pb (by rw [e]; simp; omega) (fun q => hpv q.symm))).trans ?_
    refine (World.frozen?_of_block (w := w1) ?_).trans (hfz po)
    rw [e]
    exact Below.heap_alloc _ _ _ hpl
  clear hG hX rc
  generalize s.cur.length = n at *
  have hin : (n : Int) < (n : Int) + 1 := by omega
  go_region_law (first | (refine Ro.step_push rfl (.tmp 9) (.tmp 12) 22 37 5 96 _ rfl Tryz.underlying22 It.info rfl (by decide) (.slice a n d) (by rfl) ((HG.out _ rfl).alloc _) w1.heap.size [.int .i64 0, .string ⟨#[]⟩, .slice none 0 0, .slice none 0 0, .slice none 0 0] (by rfl) (Gr.cells _ _ _) rfl (Ml.ones 0 ⟨#[]⟩ none 0 0 none 0 0 none 0 0) HN.out.1 HN.out.2.1 (by have := HN.out.2.2; first | omega | (simp; omega)) ?_; intro v' w4 R4 hg4 hf4; obtain ⟨b4, d5, rfl, hd5⟩ := Ml.slice_form R4; have hd6 : n + 1 ≤ d5 := hd5; obtain ⟨y0, y1, y2, y3, y4, hf5⟩ := Ml.grown R4; have hpb4 : pb ≠ b4 := HPB.out _ _ (o := .cells #[.int .i64 0, .string ⟨#[]⟩, .slice none 0 0, .slice none 0 0, .slice none 0 0] 37) (by rfl) hg4 hf4; have hbp4 : b4 ≠ pb := fun e => hpb4 e.symm; have hc4 := HC4.out _ _ (o := .cells #[.int .i64 0, .string ⟨#[]⟩, .slice none 0 0, .slice none 0 0, .slice none 0 0] 37) (by rfl) hg4; have hz4 := HF4.out _ _ (o := .cells #[.int .i64 0, .string ⟨#[]⟩, .slice none 0 0, .slice none 0 0, .slice none 0 0] 37) (by rfl) hg4; have HR4 := Lib.hid R4; have HG4 := Lib.hid hg4; have HF5 := Lib.hid hf4; clear R4 hg4 hf4))
  all_goals go_wp2
  all_goals go_end0
  all_goals
    obtain ⟨W, hW, o1, o2, o3, o4, o5, o6⟩ := Ml.five HR4.out (.int .i64 k) (.string t) (.slice a2 n2 d2) (.slice a3 n3 d3) (.slice a4 n4 d4)
    obtain ⟨q1, q2⟩ := HE.out W _ _ _ _ (HBA.out _) HG4.out HF5.out o2 o3 o4 o5 o6 o1
    first
    | (rw [hW]; exact ⟨rfl, q1, HB1.out.trans q2⟩)
    | (rw [Ml.five_set hbp4, hW]; exact ⟨rfl, q1, HB1.out.trans q2⟩)
end Go.Proofs.YtjppobeomocgbaaGreatDoor

/-
  PLAIN: what stolelaw11 asks of Escape: no byte of it ends a text or a script; texts side by side are escaped so.
-/
import Derived.Test.YtiajclmhimkpnaaDoorBVGettoJBack
import Derived.Test.YtiajclmhimkpnaaDoorBJSafetoQRow
import Derived.BigQuiet
namespace Go.Proofs.YtiajclmhimkpnaaDoor
/-- a byte that ends nothing -/
def Je.tame (c : UInt8) : Bool := decide (32 ≤ c.toNat) && !decide (c = 34) && !decide (c = 39) && !decide (c = 96) && !decide (c = 60) && !decide (c = 62) && !decide (c = 38)
theorem Je.byte_tame (c : UInt8) : ∀ d ∈ Js.byte c, Je.tame d = true := by
  have h := Js.all (p := fun c => (Js.byte c).all Je.tame) (by decide +kernel) c
  exact List.all_eq_true.1 h
theorem Je.escK_tame : ∀ (k : Nat) (l : List UInt8), ∀ d ∈ Js.escK k l, Je.tame d = true
  | _, [], d, hd => by simp [Js.escK] at hd
  | k + 1, c :: r, d, hd => Je.escK_tame k r d hd
  | 0, c :: r, d, hd => by
    rw [Js.escK] at hd
    split at hd
    · rename_i hl
      obtain ⟨_, t, ht⟩ := Js.line_parts hl
      rcases List.mem_append.1 hd with q | q
      · rcases ht with rfl | rfl
        · have : ∀ d ∈ ([92, 117, 50, 48, 50, 48 + (168 - 160)] : List UInt8), Je.tame d = true := by decide
          exact this d q
        · have : ∀ d ∈ ([92, 117, 50, 48, 50, 48 + (169 - 160)] : List UInt8), Je.tame d = true := by decide
          exact this d q
      · exact Je.escK_tame 2 r d q
    · rcases List.mem_append.1 hd with q | q
      · exact Je.byte_tame c d q
      · exact Je.escK_tame 0 r d q
theorem Je.esc_tame (l : List UInt8) : ∀ d ∈ Js.esc l, Je.tame d = true := Je.escK_tame 0 _
theorem Je.sgn226 {r : List UInt8} (h : Pl.sgn (226 :: r) ≠ 0) : Pl.sgn (226 :: r) = 3 := by
  unfold Pl.sgn Pl.sgnN at h ⊢
  have e : Pl.nb (226 :: r) 0 = 226 := rfl
  rw [e] at h ⊢
  rw [if_neg (by decide), if_neg (by decide), if_neg (by decide), if_neg (by decide), if_pos (by decide)] at h ⊢
  split at h
  · rw [if_pos (by assumption)]
  · exact absurd rfl h
/-- a sign is escaped alike, whatever stands behind it -/
theorem Je.unit {l : List UInt8} (hs : Pl.sgn l ≠ 0) : ∃ E, ∀ t, Js.escS (l.take (Pl.sgn l) ++ t) = E ++ Js.escS t := by
  cases l with
  | nil => exact absurd rfl (Pl.ne_nil_of_sgn hs)
  | cons c r =>
    by_cases h1 : Pl.sgn (c :: r) = 1
    · have hp : c.toNat < 128 := by
        rcases Pl.sgnN_parts (c :: r).length (Pl.nb (c :: r) 0) (Pl.nb (c :: r) 1) (Pl.nb (c :: r) 2) (Pl.nb (c :: r) 3) _ rfl hs with ⟨_, q1, q2⟩ | ⟨_, _, _, _, q⟩
        · exact q2
        · have q : 1 < Pl.sgn (c :: r) := q
          omega
      refine ⟨Js.byte c, fun t => ?_⟩
      rw [h1]
      exact Js.escS_byte (Js.line_not (fun q => by rw [q] at hp; exact absurd hp (by decide)) _)
    · have hk : 1 < Pl.sgn (c :: r) := by omega
      obtain ⟨g0, g1⟩ := Js.sgn_cont hk
      have hkl : Pl.sgn (c :: r) ≤ (c :: r).length := Pl.sgn_le _
      have et : (c :: r).take (Pl.sgn (c :: r)) = c :: r.take (Pl.sgn (c :: r) - 1) := by
        conv => lhs; rw [show Pl.sgn (c :: r) = (Pl.sgn (c :: r) - 1) + 1 by omega]
        rfl
      by_cases h226 : c = 226
      · subst h226
        have h3 := Je.sgn226 hs
        rw [h3] at et g1 hkl
        rw [h3, et]
        match r, hkl, g1 with
        | a :: b :: r, _, g1 =>
          have eq : (a :: b :: r).take (3 - 1) = [a, b] := rfl
          rw [eq] at g1 ⊢
          cases hl : Js.line 226 [a, b] with
          | true =>
            exact ⟨[92, 117, 50, 48, 50, 48 + (b - 160)], fun t => Js.escS_line (c := 226) (r := a :: b :: t) hl⟩
          | false =>
            refine ⟨226 :: [a, b], fun t => ?_⟩
            have hl2 : Js.line 226 ([a, b] ++ t) = false := hl
            show Js.escS (226 :: ([a, b] ++ t)) = _
            rw [Js.escS_byte hl2, Js.byte_high (by decide), Js.escS_cont _ _ g1]
            rfl
      · refine ⟨c :: r.take (Pl.sgn (c :: r) - 1), fun t => ?_⟩
        rw [et]
        show Js.escS (c :: (r.take (Pl.sgn (c :: r) - 1) ++ t)) = _
        rw [Js.escS_byte (Js.line_not h226 _), Js.byte_high (by omega), Js.escS_cont _ _ g1]
        rfl
theorem Je.append : ∀ (x t : List UInt8), Pl.mayL x = true → Js.escS (x ++ t) = Js.escS x ++ Js.escS t := by
  intro x t
  refine Pl.ind (p := fun x => Pl.mayL x = true → Js.escS (x ++ t) = Js.escS x ++ Js.escS t) ?_ ?_ ?_ x
  · intro _
    rfl
  · intro l hl h0 _ hm
    rw [Pl.mayL_bad l hl h0] at hm
    cases hm
  · intro l hs ih hm
    rw [Pl.mayL_sign l hs] at hm
    have ih := ih hm
    obtain ⟨E, hE⟩ := Je.unit hs
    have e1 := hE (l.drop (Pl.sgn l))
    rw [List.take_append_drop] at e1
    have e2 := hE (l.drop (Pl.sgn l) ++ t)
    rw [← List.append_assoc, List.take_append_drop] at e2
    rw [e1, e2, ih, List.append_assoc]
theorem Je.side (s t : List UInt8) : Js.esc (Pl.normL s ++ t) = Js.esc s ++ Js.esc t := by
  unfold Js.esc
  rw [Pl.norm_append _ _ (Pl.may_norm s), Je.append _ _ (Pl.may_norm s)]
end Go.Proofs.YtiajclmhimkpnaaDoor
/-
  THE VALUES of the law's awake: what each call comes to.
-/
namespace Go.Proofs.YtiajclmhimkpnaaDoor
open Go.RowKit

/-- the record of awake -/
def Vt.rec2 : Vt := .mk 6 0 0 ⟨#[]⟩ 2 (fun i => if i = 0 then Vt.leaf 2 5 0 ⟨#[]⟩ else Vt.leaf 4 0 0 ⟨#[120]⟩) 2 (fun j => if j = 0 then ⟨#[97]⟩ else ⟨#[98]⟩)
theorem Vw.empty : (⟨#[]⟩ : ByteArray).toList = [] := by rw [Lib.toList_data]
theorem Vw.one (c : UInt8) : (⟨#[c]⟩ : ByteArray).toList = [c] := by rw [Lib.toList_data]
theorem Vw.size (c : UInt8) : (⟨#[c]⟩ : ByteArray).size = 1 := rfl
theorem Vw.may : Vt.rec2.may = true := by
  simp [Vt.rec2, Vt.may, Vt.stand, Vt.run, Vt.leaf, Vt.formed, Vt.keysOk, Vt.key, Vt.prev, Op.bytesLess, Vw.size]
theorem Vw.truth : Vt.rec2.truth = true := by
  have := Vw.may
  unfold Vt.rec2 at this
  simp [Vt.rec2, Vt.truth, this]
theorem Vw.told : Vt.rec2.told.2 = 402 := by
  have := Vw.may
  unfold Vt.rec2 at this
  simp [Vt.rec2, Vt.told, this]
theorem Vw.real_may (b : Nat) : (Vt.leaf 3 0 b ⟨#[]⟩).may = true := by
  rw [Vt.leaf_may]
  simp [Vt.formed]
theorem Vw.int_may (x : Int) : (Vt.leaf 2 x 0 ⟨#[]⟩).may = (decide (-9007199254740991 ≤ x) && decide (x ≤ 9007199254740991)) := by
  rw [Vt.leaf_may]
  simp [Vt.formed]
theorem Vw.text_may (s : ByteArray) : (Vt.leaf 4 0 0 s).may = decide (s.size ≤ 65536) := by
  rw [Vt.leaf_may]
  simp [Vt.formed]
theorem Vw.real_told (b : Nat) : (Vt.leaf 3 0 b ⟨#[]⟩).told = (⟨(Re.text b).toArray⟩, 0) := by
  have := Vw.real_may b
  unfold Vt.leaf at this
  simp [Vt.leaf, Vt.told, this]
theorem Vw.t2 : Re.text 9223372036854775808 = [45, 48] := by
  have k : Re.kind 9223372036854775808 = 2 := by decide +kernel
  unfold Re.text
  rw [k]
  decide +kernel
theorem Vw.real_truth (b : Nat) : (Vt.leaf 3 0 b ⟨#[]⟩).truth = (!((Re.kind b : Int) == 2) && !((Re.kind b : Int) == 0)) := by
  have := Vw.real_may b
  unfold Vt.leaf at this
  simp [Vt.leaf, Vt.truth, this]
theorem Vw.real_less (a b : Nat) : (Vt.leaf 3 0 a ⟨#[]⟩).less (Vt.leaf 3 0 b ⟨#[]⟩) = (Re.num a && Re.num b && decide (Re.rank a < Re.rank b), 0) := by
  have h1 := Vw.real_may a
  have h2 := Vw.real_may b
  unfold Vt.leaf at h1 h2
  simp [Vt.leaf, Vt.less, h1, h2]
theorem Vw.real_same (a b : Nat) : (Vt.leaf 3 0 a ⟨#[]⟩).same (Vt.leaf 3 0 b ⟨#[]⟩) = (Re.num a && decide (Re.rank a = Re.rank b)) := by
  have h1 := Vw.real_may a
  have h2 := Vw.real_may b
  unfold Vt.leaf at h1 h2
  simp [Vt.leaf, Vt.same, Vt.alike, h1, h2]
theorem Vw.mixed_less (x : Int) (hx : -9007199254740991 ≤ x ∧ x ≤ 9007199254740991) (s : ByteArray) (hs : s.size ≤ 65536) : ((Vt.leaf 2 x 0 ⟨#[]⟩).less (Vt.leaf 4 0 0 s)).2 = 402 := by
  have h1 := Vw.int_may x
  have h2 := Vw.text_may s
  rw [decide_eq_true hx.1, decide_eq_true hx.2] at h1
  rw [decide_eq_true hs] at h2
  unfold Vt.leaf at h1 h2
  simp at h1 h2
  simp [Vt.leaf, Vt.less, h1, h2]
theorem Vw.get1 (p : Nat → ByteArray) (hp : p 0 = ⟨#[98]⟩) : Vt.rec2.get 1 p = (Vt.leaf 4 0 0 ⟨#[120]⟩, 0) := by
  have h1 := Vw.may
  unfold Vt.get
  rw [if_neg (by rw [h1]; simp)]
  simp [Vt.rec2, Vt.getTo, Vt.under, Vt.pos, hp]
theorem Vw.get2 (p : Nat → ByteArray) (hp : p 0 = ⟨#[99]⟩) : (Vt.rec2.get 1 p).2 = 401 := by
  have h1 := Vw.may
  unfold Vt.get
  rw [if_neg (by rw [h1]; simp)]
  simp [Vt.rec2, Vt.getTo, Vt.under, Vt.pos, hp]
theorem Vw.get3 (p : Nat → ByteArray) (hp : p 0 = ⟨#[97]⟩) : (Vt.rec2.get 2 p).2 = 402 := by
  have h1 := Vw.may
  unfold Vt.get
  rw [if_neg (by rw [h1]; simp)]
  simp [Vt.rec2, Vt.getTo, Vt.under, Vt.pos, hp, Vt.leaf]
theorem Vw.eq (s : ByteArray) : (Vt.leaf 4 0 0 s).eq (Vt.leaf 4 0 0 s) = true := by
  simp [Vt.leaf, Vt.eq, Vt.sameKeys, Vt.allTo]
theorem Vw.big : (Vt.leaf 2 9007199254740992 0 ⟨#[]⟩).may = false := by
  rw [Vw.int_may]
  decide
theorem Vw.less1 : (Vt.leaf 3 0 13830554455654793216 ⟨#[]⟩).less (Vt.leaf 3 0 0 ⟨#[]⟩) = (true, 0) := by
  rw [Vw.real_less]
  decide +kernel
theorem Vw.same1 : (Vt.leaf 3 0 0 ⟨#[]⟩).same (Vt.leaf 3 0 9223372036854775808 ⟨#[]⟩) = true := by
  rw [Vw.real_same]
  decide +kernel
theorem Vw.same2 : (Vt.leaf 3 0 9221120237041090560 ⟨#[]⟩).same (Vt.leaf 3 0 9221120237041090560 ⟨#[]⟩) = false := by
  rw [Vw.real_same]
  decide +kernel
theorem Vw.truth2 : (Vt.leaf 3 0 9223372036854775808 ⟨#[]⟩).truth = false := by
  rw [Vw.real_truth]
  decide +kernel
end Go.Proofs.YtiajclmhimkpnaaDoor
/-
  THE WALK of stolelaw4.awake: it returns true, and turns nothing that was there.
-/
namespace Go.Proofs.YtiajclmhimkpnaaDoor
open Go.RowKit

theorem Vw.rLies (b : Nat) (z : Int) (hz : z = b) (hb : b < 18446744073709551616) (w : World) (R : Nat → Prop) : (Vt.leaf 3 0 b ⟨#[]⟩).Lies w R (.agg #[.int .i64 3, .int .i64 0, .int .u64 z, .string ⟨#[]⟩, .slice none 0 0, .slice none 0 0]) := by
  subst hz
  exact Vt.leaf_lies 3 0 b ⟨#[]⟩ hb w R
theorem Vw.iLies (x : Int) (w : World) (R : Nat → Prop) : (Vt.leaf 2 x 0 ⟨#[]⟩).Lies w R (.agg #[.int .i64 2, .int .i64 x, .int .u64 0, .string ⟨#[]⟩, .slice none 0 0, .slice none 0 0]) := Vt.leaf_lies 2 x 0 ⟨#[]⟩ (by decide) w R
theorem Vw.sLies (s : ByteArray) (w : World) (R : Nat → Prop) : (Vt.leaf 4 0 0 s).Lies w R (.agg #[.int .i64 4, .int .i64 0, .int .u64 0, .string s, .slice none 0 0, .slice none 0 0]) := Vt.leaf_lies 4 0 0 s (by decide) w R

/-- how things stand in awake: the record lies in memory, its variable holds it -/
structure Vw.St (w W : World) (gK gI gR : Nat) : Prop where
  below : Below w.heap.size w W
  tabs : Re.Tabs W
  lies : Vt.rec2.Lies W (· < W.heap.size) (.agg #[.int .i64 6, .int .i64 0, .int .u64 0, .string ⟨#[]⟩, .slice (some ⟨gI, 0, none⟩) 2 2, .slice (some ⟨gK, 0, none⟩) 2 2])
  lt : gR < W.heap.size
  box : Vm.Box W gR (.int .i64 6) (.int .i64 0) (.int .u64 0) (.string ⟨#[]⟩) (.slice (some ⟨gI, 0, none⟩) 2 2) (.slice (some ⟨gK, 0, none⟩) 2 2)
theorem Vw.St.on {w W W' : World} {gK gI gR : Nat} (h : Vw.St w W gK gI gR) (hb : Below W.heap.size W W') : Vw.St w W' gK gI gR :=
  ⟨Vm.then h.below hb, h.tabs.on hb, h.lies.on' hb, Nat.lt_of_lt_of_le h.lt hb.size, h.box.on h.lt hb⟩
theorem Vw.St.alloc {w W : World} {gK gI gR : Nat} (h : Vw.St w W gK gI gR) (o : Obj) : Vw.St w (W.alloc o) gK gI gR := h.on ((Below.refl _ _).alloc (Nat.le_refl _) o)
theorem Vw.St.drew {w W : World} {gK gI gR : Nat} (h : Vw.St w W gK gI gR) : Vw.St w W.drew gK gI gR := h.on ⟨rfl, rfl, rfl, Nat.le_refl _, fun _ _ => rfl⟩
theorem Vw.start {w w1 w2 : World} (ht : Re.Tabs w) (hb1 : Below (w.alloc (.cells #[.string ⟨#[97]⟩, .string ⟨#[98]⟩] 9)).heap.size (w.alloc (.cells #[.string ⟨#[97]⟩, .string ⟨#[98]⟩] 9)) w1) (hb2 : Below w1.heap.size w1 w2) :
    Vw.St w ((w2.alloc (.cells #[.int .i64 2, .int .i64 5, .int .u64 0, .string ⟨#[]⟩, .slice none 0 0, .slice none 0 0, .int .i64 4, .int .i64 0, .int .u64 0, .string ⟨#[120]⟩, .slice none 0 0, .slice none 0 0] 29)).alloc (.cells #[.int .i64 6, .int .i64 0, .int .u64 0, .string ⟨#[]⟩, .slice (some ⟨w2.heap.size, 0, none⟩) 2 2, .slice (some ⟨w.heap.size, 0, none⟩) 2 2] 29)) w.heap.size w2.heap.size (w2.heap.size + 1) := by
  have hb3 := Vm.then (Vm.behind hb1) hb2
  have k1 : w1.heap[w.heap.size]? = some (.cells #[.string ⟨#[97]⟩, .string ⟨#[98]⟩] 9) := Vm.boxed hb1
  have hs1 : w.heap.size < w1.heap.size := (Array.getElem?_eq_some_iff.1 k1).1
  have k2 := (hb2.block _ hs1).trans k1
  have hs2 : w.heap.size < w2.heap.size := (Array.getElem?_eq_some_iff.1 k2).1
  generalize hX : (Obj.cells #[.int .i64 2, .int .i64 5, .int .u64 0, .string ⟨#[]⟩, .slice none 0 0, .slice none 0 0, .int .i64 4, .int .i64 0, .int .u64 0, .string ⟨#[120]⟩, .slice none 0 0, .slice none 0 0] 29) = X
  generalize hY : (Obj.cells #[.int .i64 6, .int .i64 0, .int .u64 0, .string ⟨#[]⟩, .slice (some ⟨w2.heap.size, 0, none⟩) 2 2, .slice (some ⟨w.heap.size, 0, none⟩) 2 2] 29) = Y
  have hbw : Below w.heap.size w ((w2.alloc X).alloc Y) := (hb3.alloc (by omega) X).alloc (by simp; omega) Y
  have k3 : ((w2.alloc X).alloc Y).heap[w.heap.size]? = some (.cells #[.string ⟨#[97]⟩, .string ⟨#[98]⟩] 9) := by
    rw [Below.heap_alloc _ _ _ (by simp; omega), Below.heap_alloc _ _ _ hs2]
    exact k2
  have i3 : ((w2.alloc X).alloc Y).heap[w2.heap.size]? = some X := by
    rw [Below.heap_alloc _ _ _ (by simp)]
    show (w2.heap.push _)[w2.heap.size]? = _
    simp
  have r3 : ((w2.alloc X).alloc Y).heap[w2.heap.size + 1]? = some Y := by
    show ((w2.heap.push _).push _)[w2.heap.size + 1]? = _
    rw [Array.getElem?_push, if_pos (by simp)]
  have hsz : ((w2.alloc X).alloc Y).heap.size = w2.heap.size + 2 := by simp
  subst hX hY
  generalize (w2.alloc _).alloc _ = W at *
  refine ⟨hbw, ht.on hbw, ?_, by omega, ⟨r3⟩⟩
  refine ⟨_, _, _, _, rfl, by decide, Nat.le_refl _, by decide, ⟨Nat.le_refl _, by decide, fun j hj => ?_⟩, fun i hi => ?_⟩
  · refine ⟨_, 0, rfl, by omega, Vm.boxCell k3 _ ?_⟩
    have : j = 0 ∨ j = 1 := by omega
    rcases this with rfl | rfl <;> rfl
  · have : i = 0 ∨ i = 1 := by omega
    rcases this with rfl | rfl
    · exact ⟨_, 0, _, _, _, _, _, _, rfl, by omega, Vm.boxCell i3 _ rfl, Vm.boxCell i3 _ rfl, Vm.boxCell i3 _ rfl, Vm.boxCell i3 _ rfl, Vm.boxCell i3 _ rfl, Vm.boxCell i3 _ rfl, Vw.iLies 5 _ _⟩
    · exact ⟨_, 0, _, _, _, _, _, _, rfl, by omega, Vm.boxCell i3 _ rfl, Vm.boxCell i3 _ rfl, Vm.boxCell i3 _ rfl, Vm.boxCell i3 _ rfl, Vm.boxCell i3 _ rfl, Vm.boxCell i3 _ rfl, Vw.sLies ⟨#[120]⟩ _ _⟩
/-- one or two names in a row of their own -/
theorem Vw.path1 (W : World) (a : ByteArray) (g : Nat) (hg : g = W.heap.size) : Vt.Keys (W.alloc (.cells #[.string a] 9)) (· < (W.alloc (.cells #[.string a] 9)).heap.size) 1 (fun _ => a) (some ⟨g, 0, none⟩) 1 := by
  subst hg
  refine ⟨Nat.le_refl _, by decide, fun j hj => ⟨W.heap.size, 0, rfl, by simp, ?_⟩⟩
  have : j = 0 := by omega
  subst this
  exact Vm.boxCell (cs := #[.string a]) (ty := 9) (by show (W.heap.push _)[W.heap.size]? = _; simp) 0 rfl
theorem Vw.path2 (W : World) (a b : ByteArray) (g : Nat) (hg : g = W.heap.size) : Vt.Keys (W.alloc (.cells #[.string a, .string b] 9)) (· < (W.alloc (.cells #[.string a, .string b] 9)).heap.size) 2 (fun j => if j = 0 then a else b) (some ⟨g, 0, none⟩) 2 := by
  subst hg
  refine ⟨Nat.le_refl _, by decide, fun j hj => ⟨W.heap.size, 0, rfl, by simp, ?_⟩⟩
  have : j = 0 ∨ j = 1 := by omega
  rcases this with rfl | rfl
  · exact Vm.boxCell (cs := #[.string a, .string b]) (ty := 9) (by show (W.heap.push _)[W.heap.size]? = _; simp) 0 rfl
  · exact Vm.boxCell (cs := #[.string a, .string b]) (ty := 9) (by show (W.heap.push _)[W.heap.size]? = _; simp) 1 rfl

/-- the variable that holds what Get gave -/
structure Vw.Ct (W : World) (gC : Nat) (v0 v1 v2 v3 v4 v5 : Value) : Prop where
  lt : gC < W.heap.size
  box : Vm.Box W gC v0 v1 v2 v3 v4 v5
  lies : (Vt.leaf 4 0 0 ⟨#[120]⟩).Lies W (· < W.heap.size) (.agg #[v0, v1, v2, v3, v4, v5])
theorem Vw.Ct.on {W W' : World} {gC : Nat} {v0 v1 v2 v3 v4 v5 : Value} (h : Vw.Ct W gC v0 v1 v2 v3 v4 v5) (hb : Below W.heap.size W W') : Vw.Ct W' gC v0 v1 v2 v3 v4 v5 :=
  ⟨Nat.lt_of_lt_of_le h.lt hb.size, h.box.on h.lt hb, h.lies.on' hb⟩
theorem Vw.Ct.alloc {W : World} {gC : Nat} {v0 v1 v2 v3 v4 v5 : Value} (h : Vw.Ct W gC v0 v1 v2 v3 v4 v5) (o : Obj) : Vw.Ct (W.alloc o) gC v0 v1 v2 v3 v4 v5 := h.on ((Below.refl _ _).alloc (Nat.le_refl _) o)
theorem Vw.Ct.drew {W : World} {gC : Nat} {v0 v1 v2 v3 v4 v5 : Value} (h : Vw.Ct W gC v0 v1 v2 v3 v4 v5) : Vw.Ct W.drew gC v0 v1 v2 v3 v4 v5 := h.on ⟨rfl, rfl, rfl, Nat.le_refl _, fun _ _ => rfl⟩
theorem Vw.Ct.start {W : World} {B : Nat} {v0 v1 v2 v3 v4 v5 : Value} (h : (Vt.leaf 4 0 0 ⟨#[120]⟩).Own W B W.heap.size (.agg #[v0, v1, v2, v3, v4, v5])) : Vw.Ct (W.alloc (.cells #[v0, v1, v2, v3, v4, v5] 29)) W.heap.size v0 v1 v2 v3 v4 v5 :=
  ⟨by simp, ⟨by show (W.heap.push _)[W.heap.size]? = _; simp⟩, Vt.Lies.alloc (h.lies.on fun g hg => ⟨hg.2, rfl⟩) _⟩

/-- THE WORLDS IN WHICH ALL THAT LAY IN L LIES STILL: a class for a region that draws its order and whose calls make memory. -/
def Vw.Wd (L : World) : Type := { u : World // Below L.heap.size L u }
theorem Vw.wd_ne (L : World) : Nonempty (Vw.Wd L) := ⟨⟨L, Below.refl _ _⟩⟩
/-- the quiet walk's theorem at this class -/
theorem Vw.region {L : World} {id : Nat} {Q : Exit → Act → World → Prop} {a : Act} {l : List Oper} (hB : Region.lexB .any l.toArray = true)
    (h : wpQuiet Tryd.prog l.toArray (fun u => ∃ q : Vw.Wd L, u = q.1) (fun a' => ∀ w', (∃ q : Vw.Wd L, w' = q.1) → Q .normal a' w') l a) : (Code.region id l.toArray true).wp Tryd.prog Q a L :=
  wp_region_quiet (C := fun u => ∃ q : Vw.Wd L, u = q.1) (by kernel_rfl) hB ⟨⟨_, (Below.refl _ _).drew⟩, rfl⟩ (by simpa using h)
theorem Vw.call {L : World} {f : FuncId} {args : Array Value} {v v' : Value} (q : Vw.Wd L) (hv : v = v') (h : Calls Tryd.prog f args q.1 fun e w' => e = .returned v ∧ Below q.1.heap.size q.1 w') :
    Calls Tryd.prog f args q.1 fun e w'' => e = .returned v' ∧ ∃ m : Vw.Wd L, w'' = m.1 :=
  h.mono fun _ w'' ⟨he, hb⟩ => ⟨by rw [he, hv], ⟨w'', Vm.then q.2 hb⟩, rfl⟩
theorem Vw.call0 {L : World} {f : FuncId} {args : Array Value} {v : Value} (q : Vw.Wd L) (h : Calls Tryd.prog f args q.1 fun e w' => e = .returned v ∧ w' = q.1) :
    Calls Tryd.prog f args q.1 fun e w'' => e = .returned v ∧ ∃ m : Vw.Wd L, w'' = m.1 :=
  h.mono fun _ _ ⟨he, hb⟩ => ⟨he, q, hb⟩

end Go.Proofs.YtiajclmhimkpnaaDoor
/-
  SMALL THINGS for the walks of the laws on values.
-/
namespace Go.Proofs.YtiajclmhimkpnaaDoor
open Go.RowKit
theorem Bt.and53 (n : Int) : Go.bits .and .i64 n 9007199254740991 = n % 9007199254740992 := by
  have hm : (BitVec.ofInt 64 9007199254740991).toNat = 2 ^ 53 - 1 := by decide
  have key : (BitVec.ofInt 64 n &&& BitVec.ofInt 64 9007199254740991).toNat = (n % ((2 ^ 64 : Nat) : Int)).toNat % 2 ^ 53 := by
    rw [BitVec.toNat_and, BitVec.toNat_ofInt, hm, Nat.and_two_pow_sub_one_eq_mod]
  show IntKind.i64.wrap ((BitVec.ofInt 64 n &&& BitVec.ofInt 64 9007199254740991).toNat : Nat) = n % 9007199254740992
  rw [key, IntKind.wrap_i64]
  omega
structure Vm.Still (p : Prop) : Prop where
  out : p
/-- A PLACE AT WHICH THE WALK STANDS STILL: ahead of the operation that fills this slot -/
theorem Vm.stop (n : Nat) {P : Program} {ops : Array Oper} {Q : Exit → Act → World → Prop} {op : Op} {ty : TypeId} {pos : String} {after : Array Edge} {gd : Option (Nat × Bool)} {rest : List Oper} {a : Act} {w : World} (h : Vm.Still (wpList P ops Q ({ dst := some n, op := op, type := ty, pos := pos, after := after, guard := gd } :: rest) a w)) : wpList P ops Q ({ dst := some n, op := op, type := ty, pos := pos, after := after, guard := gd } :: rest) a w := h.out
theorem Vm.Box.alloc {w : World} {g : Nat} {v0 v1 v2 v3 v4 v5 : Value} (h : Vm.Box w g v0 v1 v2 v3 v4 v5) (hg : g < w.heap.size) (o : Obj) : Vm.Box (w.alloc o) g v0 v1 v2 v3 v4 v5 := ⟨(Below.heap_alloc _ _ _ hg).trans h.all⟩
theorem Vm.Box.other {w : World} {g : Nat} {v0 v1 v2 v3 v4 v5 : Value} (h : Vm.Box w g v0 v1 v2 v3 v4 v5) {g' : Nat} (hg : g ≠ g') (i : Nat) (v : Value) : Vm.Box (w.setCell ⟨g', i, none⟩ v) g v0 v1 v2 v3 v4 v5 := ⟨(Below.heap_setCell _ _ _ _ hg).trans h.all⟩
theorem Vm.new (W : World) (o : Obj) : (W.alloc o).heap[W.heap.size]? = some o := by
  show (W.heap.push _)[W.heap.size]? = _
  simp
/-- a block of memory -/
def Vm.Has (W : World) (g : Nat) (o : Obj) : Prop := W.heap[g]? = some o
theorem Vm.Has.lt {W : World} {g : Nat} {o : Obj} (h : Vm.Has W g o) : g < W.heap.size := (Array.getElem?_eq_some_iff.1 h).1
theorem Vm.Has.on {W W' : World} {g : Nat} {o : Obj} (h : Vm.Has W g o) (hb : Below W.heap.size W W') : Vm.Has W' g o := (hb.block g h.lt).trans h
theorem Vm.Has.alloc {W : World} {g : Nat} {o : Obj} (h : Vm.Has W g o) (o' : Obj) : Vm.Has (W.alloc o') g o := (Below.heap_alloc _ _ _ h.lt).trans h
theorem Vm.Has.other {W : World} {g : Nat} {o : Obj} (h : Vm.Has W g o) {g' : Nat} (hg : g ≠ g') (i : Nat) (v : Value) : Vm.Has (W.setCell ⟨g', i, none⟩ v) g o := (Below.heap_setCell _ _ _ _ hg).trans h
theorem Vm.Has.new (W : World) (o : Obj) (g : Nat) (hg : g = W.heap.size) : Vm.Has (W.alloc o) g o := by
  subst hg
  exact Vm.new W o
theorem Vm.Has.set {W : World} {g : Nat} {cs : Array Value} {ty : TypeId} (h : Vm.Has W g (.cells cs ty)) (i : Nat) (v : Value) : Vm.Has (W.setCell ⟨g, i, none⟩ v) g (.cells (cs.setIfInBounds i v) ty) := Vm.setAt h i v
theorem Vm.Has.cell {W : World} {g : Nat} {cs : Array Value} {ty : TypeId} (h : Vm.Has W g (.cells cs ty)) (i : Nat) {v : Value} (hv : cs[i]? = some v) : W.cell? ⟨g, i, none⟩ = some v := Vm.boxCell h i hv
theorem Vm.Has.frozen {W : World} {g : Nat} {cs : Array Value} {ty : TypeId} (h : Vm.Has W g (.cells cs ty)) (i : Nat) : W.frozen? ⟨g, i, none⟩ = false := Vc.row_frozen h i
theorem Vm.Box.has {W : World} {g : Nat} {v0 v1 v2 v3 v4 v5 : Value} (h : Vm.Box W g v0 v1 v2 v3 v4 v5) : Vm.Has W g (.cells #[v0, v1, v2, v3, v4, v5] 29) := h.all
theorem Vm.Box.lt {W : World} {g : Nat} {v0 v1 v2 v3 v4 v5 : Value} (h : Vm.Box W g v0 v1 v2 v3 v4 v5) : g < W.heap.size := h.has.lt
/-- an object of values is a row with all six cells of each -/
theorem Vm.Box.set0 {w : World} {g : Nat} {v0 v1 v2 v3 v4 v5 : Value} (h : Vm.Box w g v0 v1 v2 v3 v4 v5) (v : Value) : Vm.Box (w.setCell ⟨g, 0, none⟩ v) g v v1 v2 v3 v4 v5 := ⟨Vm.setAt h.all 0 v⟩
theorem Vm.Box.set1 {w : World} {g : Nat} {v0 v1 v2 v3 v4 v5 : Value} (h : Vm.Box w g v0 v1 v2 v3 v4 v5) (v : Value) : Vm.Box (w.setCell ⟨g, 1, none⟩ v) g v0 v v2 v3 v4 v5 := ⟨Vm.setAt h.all 1 v⟩
theorem Vm.Box.set2 {w : World} {g : Nat} {v0 v1 v2 v3 v4 v5 : Value} (h : Vm.Box w g v0 v1 v2 v3 v4 v5) (v : Value) : Vm.Box (w.setCell ⟨g, 2, none⟩ v) g v0 v1 v v3 v4 v5 := ⟨Vm.setAt h.all 2 v⟩
theorem Vm.Has.wrote {W W' : World} {g g' : Nat} {o : Obj} (h : Vm.Has W g o) (hw : Vm.Wrote g' W W') (hg : g ≠ g') : Vm.Has W' g o := (hw.block g hg).trans h
theorem Vm.Box.wrote {W W' : World} {g g' : Nat} {v0 v1 v2 v3 v4 v5 : Value} (h : Vm.Box W g v0 v1 v2 v3 v4 v5) (hw : Vm.Wrote g' W W') (hg : g ≠ g') : Vm.Box W' g v0 v1 v2 v3 v4 v5 := ⟨(hw.block g hg).trans h.all⟩
/-- ONE value in a row of its own -/
theorem Vt.one_lies {W : World} {t : Vt} {g : Nat} {v0 v1 v2 v3 v4 v5 : Value} (h : Vm.Has W g (.cells #[v0, v1, v2, v3, v4, v5] 29)) (hl : t.Lies W (· < W.heap.size) (.agg #[v0, v1, v2, v3, v4, v5])) : (Vt.mk 5 0 0 ⟨#[]⟩ 1 (fun _ => t) 0 (fun _ => ⟨#[]⟩)).Lies W (· < W.heap.size) (.agg #[.int .i64 5, .int .i64 0, .int .u64 0, .string ⟨#[]⟩, .slice (some ⟨g, 0, none⟩) 1 1, .slice none 0 0]) := by
  refine ⟨_, _, _, _, rfl, by decide, Nat.le_refl _, by decide, ⟨Nat.le_refl _, by decide, fun j hj => absurd hj (by omega)⟩, fun i hi => ?_⟩
  have : i = 0 := by omega
  subst this
  exact ⟨g, 0, _, _, _, _, _, _, rfl, h.lt, h.cell _ rfl, h.cell _ rfl, h.cell _ rfl, h.cell _ rfl, h.cell _ rfl, h.cell _ rfl, hl⟩
end Go.Proofs.YtiajclmhimkpnaaDoor

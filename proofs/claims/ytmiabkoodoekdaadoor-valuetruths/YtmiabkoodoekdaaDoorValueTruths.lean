/-
  THE WALK of stolelaw4.ValueTruths.
-/
import Derived.Test.YtmiabkoodoekdaaDoorVKit
namespace Go.Proofs.YtmiabkoodoekdaaDoor
open Go.RowKit

/-- two variables lie in memory -/
structure Vz.St (w W : World) (gL gR : Nat) (l4 r4 r5 : Value) : Prop where
  below : Below w.heap.size w W
  ge : w.heap.size ≤ gL
  ne : gL < gR
  boxL : Vm.Box W gL (.int .i64 5) (.int .i64 0) (.int .u64 0) (.string ⟨#[]⟩) l4 (.slice none 0 0)
  boxR : Vm.Box W gR (.int .i64 6) (.int .i64 0) (.int .u64 0) (.string ⟨#[]⟩) r4 r5
theorem Vz.St.on {w W W' : World} {gL gR : Nat} {l4 r4 r5 : Value} (h : Vz.St w W gL gR l4 r4 r5) (hb : Below W.heap.size W W') : Vz.St w W' gL gR l4 r4 r5 :=
  ⟨Vm.then h.below hb, h.ge, h.ne, h.boxL.on h.boxL.lt hb, h.boxR.on h.boxR.lt hb⟩
theorem Vz.St.alloc {w W : World} {gL gR : Nat} {l4 r4 r5 : Value} (h : Vz.St w W gL gR l4 r4 r5) (o : Obj) : Vz.St w (W.alloc o) gL gR l4 r4 r5 := h.on ((Below.refl _ _).alloc (Nat.le_refl _) o)
theorem Vz.St.setL {w W : World} {gL gR : Nat} {l4 r4 r5 : Value} (h : Vz.St w W gL gR l4 r4 r5) (v : Value) : Vz.St w (W.setCell ⟨gL, 4, none⟩ v) gL gR v r4 r5 :=
  ⟨h.below.setCell h.ge _, h.ge, h.ne, h.boxL.set4 v, h.boxR.other (by have := h.ne; omega) 4 v⟩
theorem Vz.St.setR4 {w W : World} {gL gR : Nat} {l4 r4 r5 : Value} (h : Vz.St w W gL gR l4 r4 r5) (v : Value) : Vz.St w (W.setCell ⟨gR, 4, none⟩ v) gL gR l4 v r5 :=
  ⟨h.below.setCell (Nat.le_trans h.ge (Nat.le_of_lt h.ne)) _, h.ge, h.ne, h.boxL.other (by have := h.ne; omega) 4 v, h.boxR.set4 v⟩
theorem Vz.St.setR5 {w W : World} {gL gR : Nat} {l4 r4 r5 : Value} (h : Vz.St w W gL gR l4 r4 r5) (v : Value) : Vz.St w (W.setCell ⟨gR, 5, none⟩ v) gL gR l4 r4 v :=
  ⟨h.below.setCell (Nat.le_trans h.ge (Nat.le_of_lt h.ne)) _, h.ge, h.ne, h.boxL.other (by have := h.ne; omega) 5 v, h.boxR.set5 v⟩
theorem Vz.start {w w0 : World} (B : Below w.heap.size w w0) : Vz.St w ((w0.alloc (.cells #[.int .i64 5, .int .i64 0, .int .u64 0, .string ⟨#[]⟩, .slice none 0 0, .slice none 0 0] 26)).alloc (.cells #[.int .i64 6, .int .i64 0, .int .u64 0, .string ⟨#[]⟩, .slice none 0 0, .slice none 0 0] 26)) w0.heap.size (w0.heap.size + 1) (.slice none 0 0) (.slice none 0 0) (.slice none 0 0) := by
  have := B.size
  exact ⟨(B.alloc (by omega) _).alloc (by simp; omega) _, B.size, by omega, ⟨(Vm.Has.new w0 _ _ rfl).alloc _⟩, ⟨Vm.Has.new _ _ _ (by simp)⟩⟩
/-- the values -/
theorem Vz.zero : (Vt.leaf 0 0 0 ⟨#[]⟩).truth = false := by simp [Vt.leaf, Vt.truth]
theorem Vz.list : (Vt.leaf 5 0 0 ⟨#[]⟩).truth = false := by simp [Vt.leaf, Vt.truth]
theorem Vz.record : (Vt.leaf 6 0 0 ⟨#[]⟩).truth = false := by simp [Vt.leaf, Vt.truth]
theorem Vz.bool : (Vt.leaf 1 0 0 ⟨#[]⟩).truth = false := by simp [Vt.leaf, Vt.truth]
theorem Vz.bool1 : (Vt.leaf 1 1 0 ⟨#[]⟩).truth = true := by
  have := Vt.leaf_may 1 1 0 ⟨#[]⟩
  unfold Vt.leaf at this
  simp [Vt.leaf, Vt.truth, this, Vt.formed]
def Vt.list1 : Vt := .mk 5 0 0 ⟨#[]⟩ 1 (fun _ => Vt.leaf 0 0 0 ⟨#[]⟩) 0 (fun _ => ⟨#[]⟩)
def Vt.rec1 : Vt := .mk 6 0 0 ⟨#[]⟩ 1 (fun _ => Vt.leaf 0 0 0 ⟨#[]⟩) 1 (fun _ => ⟨#[107]⟩)
theorem Vz.list1 : Vt.list1.truth = true := by
  have h : Vt.list1.may = true := by simp [Vt.list1, Vt.may, Vt.stand, Vt.run, Vt.leaf, Vt.formed]
  unfold Vt.list1 at h
  simp [Vt.list1, Vt.truth, h]
theorem Vz.rec1 : Vt.rec1.truth = true := by
  have h : Vt.rec1.may = true := by simp [Vt.rec1, Vt.may, Vt.stand, Vt.run, Vt.leaf, Vt.formed, Vt.keysOk, Vt.key, Vt.prev, Op.bytesLess, Vw.size]
  unfold Vt.rec1 at h
  simp [Vt.rec1, Vt.truth, h]
theorem Vz.int (x : Int) (h : -9007199254740991 ≤ x ∧ x ≤ 9007199254740991) : (Vt.leaf 2 x 0 ⟨#[]⟩).truth = (x != 0) := by
  have h1 := Vw.int_may x
  rw [decide_eq_true h.1, decide_eq_true h.2] at h1
  unfold Vt.leaf at h1
  simp [Vt.leaf, Vt.truth, h1, bne]
theorem Vz.text (s : ByteArray) (h : s.size ≤ 65536) : (Vt.leaf 4 0 0 s).truth = !(s.toList == []) := by
  have h1 := Vw.text_may s
  rw [decide_eq_true h] at h1
  unfold Vt.leaf at h1
  simp [Vt.leaf, Vt.truth, h1]
theorem Vz.list1_lies {W : World} {g : Nat} (h : Vm.Has W g (.cells #[.int .i64 0, .int .i64 0, .int .u64 0, .string ⟨#[]⟩, .slice none 0 0, .slice none 0 0] 26)) : Vt.list1.Lies W (· < W.heap.size) (.agg #[.int .i64 5, .int .i64 0, .int .u64 0, .string ⟨#[]⟩, .slice (some ⟨g, 0, none⟩) 1 1, .slice none 0 0]) :=
  Vt.one_lies h (Vt.leaf_lies 0 0 0 ⟨#[]⟩ (by decide) _ _)
theorem Vz.rec1_lies {W : World} {g k : Nat} (h : Vm.Has W g (.cells #[.int .i64 0, .int .i64 0, .int .u64 0, .string ⟨#[]⟩, .slice none 0 0, .slice none 0 0] 26)) (hk : Vm.Has W k (.cells #[.string ⟨#[107]⟩] 9)) : Vt.rec1.Lies W (· < W.heap.size) (.agg #[.int .i64 6, .int .i64 0, .int .u64 0, .string ⟨#[]⟩, .slice (some ⟨g, 0, none⟩) 1 1, .slice (some ⟨k, 0, none⟩) 1 1]) := by
  refine ⟨_, _, _, _, rfl, by decide, Nat.le_refl _, by decide, ⟨Nat.le_refl _, by decide, fun j hj => ?_⟩, fun i hi => ?_⟩
  · have : j = 0 := by omega
    subst this
    exact ⟨k, 0, rfl, hk.lt, hk.cell _ rfl⟩
  · have : i = 0 := by omega
    subst this
    exact ⟨g, 0, _, _, _, _, _, _, rfl, h.lt, h.cell _ rfl, h.cell _ rfl, h.cell _ rfl, h.cell _ rfl, h.cell _ rfl, h.cell _ rfl, Vt.leaf_lies 0 0 0 ⟨#[]⟩ (by decide) _ _⟩

theorem Vz.shl (b : Nat) : IntKind.u64.wrap ((b : Int) * 2) = ((b * 2 % 18446744073709551616 : Nat) : Int) := by
  rw [IntKind.wrap_u64]
  omega
theorem Vz.real (b : Nat) : (Vt.leaf 3 0 b ⟨#[]⟩).truth = !(decide (b * 2 % 18446744073709551616 = 0) || (decide (Re.ef b = 2047) && !decide (Re.fr b = 0))) := by
  rw [Vw.real_truth]
  have h2 : b * 2 % 18446744073709551616 = 0 ↔ Re.mag b = 0 := by
    unfold Re.mag Re.ef Re.fr
    split <;> omega
  have h3 : Re.ef b = 2047 → Re.mag b ≠ 0 := by
    intro h
    unfold Re.mag
    rw [if_neg (by omega)]
    omega
  unfold Re.kind
  by_cases e1 : Re.ef b = 2047
  · have := h3 e1
    by_cases e2 : Re.fr b = 0
    · simp [e1, e2, h2, this]
    · simp [e1, e2, h2, this]
  · by_cases e2 : Re.mag b = 0
    · simp [e1, e2, h2]
    · simp only [e1, e2, h2, if_false, decide_false, Bool.false_and, Bool.or_false, Bool.not_false]
      split <;> rfl

set_option maxRecDepth 100000 in
set_option maxHeartbeats 8000000 in
theorem Vx.truths (x : Int) (_ : -9223372036854775808 ≤ x ∧ x ≤ 9223372036854775807) (s : ByteArray) (b : Nat) (hb : b < 18446744073709551616) (w : World) (ht : Re.Tabs w) :
    Calls Tryd.prog 8 #[.int .i64 x, .string s, .int .u64 (b : Int)] w fun e w' => e = .returned (.bool true) ∧ Below w.heap.size w w' := by
  obtain ⟨K, hK⟩ : ∃ K : Int, x % 9007199254740992 = K := ⟨_, rfl⟩
  have hk : 0 ≤ K ∧ K ≤ 9007199254740991 := by omega
  have hand := Bt.and53 x
  rw [hK] at hand
  clear hK
  go_enter Tryd.func8, Tryd.ntmps8
  go_wp2_with fail
  refine (Vw.awake w ht).mono ?_
  rintro e w0 ⟨rfl, B⟩
  go_wp2_with fail
  have S := Vz.start B
  clear B
  generalize (w0.alloc (.cells #[.int .i64 5, .int .i64 0, .int .u64 0, .string ⟨#[]⟩, .slice none 0 0, .slice none 0 0] 26)).alloc (.cells #[.int .i64 6, .int .i64 0, .int .u64 0, .string ⟨#[]⟩, .slice none 0 0, .slice none 0 0] 26) = W0 at *
  generalize hgR : w0.heap.size + 1 = gR at *
  generalize w0.heap.size = gL at *
  clear hgR
  refine (Vm.truth (Vt.leaf 0 0 0 ⟨#[]⟩) _ _ (Vt.leaf_lies 0 0 0 ⟨#[]⟩ (by decide) _ _)).mono ?_
  rintro e W1 ⟨rfl, hb'⟩
  rw [Vz.zero]
  replace S := S.on hb'
  clear hb'
  obtain ⟨c0, c1, c2, c3, c4, c5⟩ := S.boxL.cells
  go_wp2_with fail
  clear c0 c1 c2 c3 c4 c5
  refine (Vm.truth (Vt.leaf 5 0 0 ⟨#[]⟩) _ _ (Vt.leaf_lies 5 0 0 ⟨#[]⟩ (by decide) _ _)).mono ?_
  rintro e W2 ⟨rfl, hb'⟩
  rw [Vz.list]
  replace S := S.on hb'
  clear hb'
  obtain ⟨c0, c1, c2, c3, c4, c5⟩ := S.boxR.cells
  go_wp2_with fail
  clear c0 c1 c2 c3 c4 c5
  refine (Vm.truth (Vt.leaf 6 0 0 ⟨#[]⟩) _ _ (Vt.leaf_lies 6 0 0 ⟨#[]⟩ (by decide) _ _)).mono ?_
  rintro e W3 ⟨rfl, hb'⟩
  rw [Vz.record]
  replace S := S.on hb'
  clear hb'
  go_wp2_with fail
  refine (Vm.truth (Vt.leaf 1 0 0 ⟨#[]⟩) _ _ (Vt.leaf_lies 1 0 0 ⟨#[]⟩ (by decide) _ _)).mono ?_
  rintro e W4 ⟨rfl, hb'⟩
  rw [Vz.bool]
  replace S := S.on hb'
  clear hb'
  have q1 := fun o => ((S.alloc o).boxL).cells.2.2.2.2.1
  have q2 := fun o => ((S.alloc o).boxL).frozen 4
  go_wp2_with (refine Vm.stop 36 ?_)
  clear q1 q2
  have ne1 : W4.heap.size ≠ gR := by have := S.boxR.lt; omega
  have I1 := (Vm.Has.new W4 (.cells #[.int .i64 0, .int .i64 0, .int .u64 0, .string ⟨#[]⟩, .slice none 0 0, .slice none 0 0] 26) _ rfl).other (by have := S.boxL.lt; omega) 4 (.slice (some ⟨W4.heap.size, 0, none⟩) 1 1) (g' := gL)
  replace S := (S.alloc (.cells #[.int .i64 0, .int .i64 0, .int .u64 0, .string ⟨#[]⟩, .slice none 0 0, .slice none 0 0] 26)).setL (.slice (some ⟨W4.heap.size, 0, none⟩) 1 1)
  generalize (W4.alloc (.cells #[.int .i64 0, .int .i64 0, .int .u64 0, .string ⟨#[]⟩, .slice none 0 0, .slice none 0 0] 26)).setCell ⟨gL, 4, none⟩ (.slice (some ⟨W4.heap.size, 0, none⟩) 1 1) = W5 at *
  generalize W4.heap.size = g1 at *
  constructor
  have q1 := fun o => ((S.alloc o).boxR).cells.2.2.2.2.1
  have q2 := fun o => ((S.alloc o).boxR).frozen 4
  go_wp2_with (refine Vm.stop 39 ?_)
  clear q1 q2
  have ne2 : W5.heap.size ≠ gR := by have := S.boxR.lt; omega
  have I2 := (Vm.Has.new W5 (.cells #[.int .i64 0, .int .i64 0, .int .u64 0, .string ⟨#[]⟩, .slice none 0 0, .slice none 0 0] 26) _ rfl).other (by have := S.boxR.lt; omega) 4 (.slice (some ⟨W5.heap.size, 0, none⟩) 1 1) (g' := gR)
  replace I1 := (I1.alloc (.cells #[.int .i64 0, .int .i64 0, .int .u64 0, .string ⟨#[]⟩, .slice none 0 0, .slice none 0 0] 26)).other (ne1) 4 (.slice (some ⟨W5.heap.size, 0, none⟩) 1 1) (g' := gR)
  replace S := (S.alloc (.cells #[.int .i64 0, .int .i64 0, .int .u64 0, .string ⟨#[]⟩, .slice none 0 0, .slice none 0 0] 26)).setR4 (.slice (some ⟨W5.heap.size, 0, none⟩) 1 1)
  generalize (W5.alloc (.cells #[.int .i64 0, .int .i64 0, .int .u64 0, .string ⟨#[]⟩, .slice none 0 0, .slice none 0 0] 26)).setCell ⟨gR, 4, none⟩ (.slice (some ⟨W5.heap.size, 0, none⟩) 1 1) = W6 at *
  generalize W5.heap.size = g2 at *
  constructor
  have q1 := fun o => ((S.alloc o).boxR).cells.2.2.2.2.2
  have q2 := fun o => ((S.alloc o).boxR).frozen 5
  go_wp2_with (refine Vm.stop 41 ?_)
  clear q1 q2
  have I3 := (Vm.Has.new W6 (.cells #[.string ⟨#[107]⟩] 9) _ rfl).other (by have := S.boxR.lt; omega) 5 (.slice (some ⟨W6.heap.size, 0, none⟩) 1 1) (g' := gR)
  replace I1 := (I1.alloc (.cells #[.string ⟨#[107]⟩] 9)).other (ne1) 5 (.slice (some ⟨W6.heap.size, 0, none⟩) 1 1) (g' := gR)
  replace I2 := (I2.alloc (.cells #[.string ⟨#[107]⟩] 9)).other (ne2) 5 (.slice (some ⟨W6.heap.size, 0, none⟩) 1 1) (g' := gR)
  replace S := (S.alloc (.cells #[.string ⟨#[107]⟩] 9)).setR5 (.slice (some ⟨W6.heap.size, 0, none⟩) 1 1)
  generalize (W6.alloc (.cells #[.string ⟨#[107]⟩] 9)).setCell ⟨gR, 5, none⟩ (.slice (some ⟨W6.heap.size, 0, none⟩) 1 1) = W7 at *
  generalize W6.heap.size = g3 at *
  clear ne1 ne2
  constructor
  obtain ⟨c0, c1, c2, c3, c4, c5⟩ := S.boxL.cells
  go_wp2_with fail
  clear c0 c1 c2 c3 c4 c5
  refine (Vm.truth Vt.list1 _ _ (Vz.list1_lies I1)).mono ?_
  rintro e W8 ⟨rfl, hb'⟩
  rw [Vz.list1]
  replace S := S.on hb'
  replace I2 := I2.on hb'
  replace I3 := I3.on hb'
  clear hb' I1
  obtain ⟨c0, c1, c2, c3, c4, c5⟩ := S.boxR.cells
  go_wp2_with fail
  clear c0 c1 c2 c3 c4 c5
  refine (Vm.truth Vt.rec1 _ _ (Vz.rec1_lies I2 I3)).mono ?_
  rintro e W9 ⟨rfl, hb'⟩
  rw [Vz.rec1]
  have B := Vm.then S.below hb'
  clear hb' I2 I3 S
  go_wp2_with fail
  refine (Vm.truth (Vt.leaf 1 1 0 ⟨#[]⟩) _ _ (Vt.leaf_lies 1 1 0 ⟨#[]⟩ (by decide) _ _)).mono ?_
  rintro e W10 ⟨rfl, hb'⟩
  rw [Vz.bool1]
  replace B := Vm.then B hb'
  clear hb'
  have h1 := Rt.and52 b hb
  have h2 := Rt.and11 b hb
  have h3 := Vz.shl b
  have HT := Lib.hid (Vz.real b)
  generalize hM : b * 2 % 18446744073709551616 = M at *
  generalize hE : Re.ef b = E at *
  generalize hF : Re.fr b = F at *
  clear hM hE hF
  have HK1 := Lib.hid (Vz.int K (by omega))
  have HK2 : Hid ((Vt.leaf 2 (-K) 0 ⟨#[]⟩).truth = (K != 0)) := by
    unfold Hid
    rw [Vz.int (-K) (by omega)]
    rw [Bool.eq_iff_iff, bne_iff_ne, bne_iff_ne]
    omega
  have hZ : (M = 0 ∨ (M ≠ 0 ∧ E = 2047 ∧ F ≠ 0)) ∨ (M ≠ 0 ∧ (E ≠ 2047 ∨ E = 2047 ∧ F = 0)) := by omega
  rcases hZ with (m0 | ⟨m0, e0, f0⟩) | ⟨m0, e0 | ⟨e0, f0⟩⟩
  · have d1 : ((M : Int) == 0) = true := beq_iff_eq.2 (by omega)
    have HR : Hid ((Vt.leaf 3 0 b ⟨#[]⟩).truth = !true) := by have := HT.out; rw [decide_eq_true m0] at this; exact this
    clear HT m0
    go_wp2_with (refine Vm.stop 66 ?_)
    constructor
    clear h1 h2 h3
    go_wp2_with fail
    refine (Vn.num K _).mono ?_
    rintro e W11 ⟨rfl, hb'⟩
    replace B := Vm.then B hb'
    clear hb'
    go_wp2_with fail
    refine (Vm.truth (Vt.leaf 2 K 0 ⟨#[]⟩) _ _ (Vw.iLies K _ _)).mono ?_
    rintro e W12 ⟨rfl, hb'⟩
    rw [HK1.out]
    replace B := Vm.then B hb'
    clear hb'
    go_wp2_with fail
    refine (Vn.num (-K) _).mono ?_
    rintro e W11 ⟨rfl, hb'⟩
    replace B := Vm.then B hb'
    clear hb'
    go_wp2_with fail
    refine (Vm.truth (Vt.leaf 2 (-K) 0 ⟨#[]⟩) _ _ (Vw.iLies (-K) _ _)).mono ?_
    rintro e W12 ⟨rfl, hb'⟩
    rw [HK2.out]
    replace B := Vm.then B hb'
    clear hb'
    by_cases hs : s.size ≤ 65536
    · have hs' : decide (65536 < (s.size : Int)) = false := decide_eq_false (by omega)
      have HX := Lib.hid (Vz.text s hs)
      clear hs
      go_wp2_with fail
      refine (Vn.text s _).mono ?_
      rintro e W11 ⟨rfl, hb'⟩
      replace B := Vm.then B hb'
      clear hb'
      go_wp2_with fail
      refine (Vm.truth (Vt.leaf 4 0 0 s) _ _ (Vw.sLies s _ _)).mono ?_
      rintro e W12 ⟨rfl, hb'⟩
      rw [HX.out]
      replace B := Vm.then B hb'
      clear hb'
      go_wp2_with fail
      refine (Vn.bits (b : Int) _).mono ?_
      rintro e W11 ⟨rfl, hb'⟩
      replace B := Vm.then B hb'
      clear hb'
      go_wp2_with fail
      refine (Vm.truth (Vt.leaf 3 0 b ⟨#[]⟩) _ _ (Vw.rLies b _ rfl hb _ _)).mono ?_
      rintro e W12 ⟨rfl, hb'⟩
      rw [HR.out]
      replace B := Vm.then B hb'
      clear hb'
      go_wp2
      go_ret
      exact ⟨rfl, B⟩
    · have hs' : decide (65536 < (s.size : Int)) = true := decide_eq_true (by omega)
      clear hs
      go_wp2_with fail
      refine (Vn.bits (b : Int) _).mono ?_
      rintro e W11 ⟨rfl, hb'⟩
      replace B := Vm.then B hb'
      clear hb'
      go_wp2_with fail
      refine (Vm.truth (Vt.leaf 3 0 b ⟨#[]⟩) _ _ (Vw.rLies b _ rfl hb _ _)).mono ?_
      rintro e W12 ⟨rfl, hb'⟩
      rw [HR.out]
      replace B := Vm.then B hb'
      clear hb'
      go_wp2
      go_ret
      exact ⟨rfl, B⟩
  · have d1 : ((M : Int) == 0) = false := beq_eq_false_iff_ne.2 (by omega)
    have d2 : ((E : Int) == 2047) = true := beq_iff_eq.2 (by omega)
    have d3 : ((F : Int) != 0) = true := bne_iff_ne.2 (by omega)
    have HR : Hid ((Vt.leaf 3 0 b ⟨#[]⟩).truth = !true) := by have := HT.out; rw [decide_eq_false m0, decide_eq_true e0, decide_eq_false f0] at this; exact this
    clear HT m0 e0 f0
    go_wp2_with (refine Vm.stop 66 ?_)
    constructor
    clear h1 h2 h3
    go_wp2_with fail
    refine (Vn.num K _).mono ?_
    rintro e W11 ⟨rfl, hb'⟩
    replace B := Vm.then B hb'
    clear hb'
    go_wp2_with fail
    refine (Vm.truth (Vt.leaf 2 K 0 ⟨#[]⟩) _ _ (Vw.iLies K _ _)).mono ?_
    rintro e W12 ⟨rfl, hb'⟩
    rw [HK1.out]
    replace B := Vm.then B hb'
    clear hb'
    go_wp2_with fail
    refine (Vn.num (-K) _).mono ?_
    rintro e W11 ⟨rfl, hb'⟩
    replace B := Vm.then B hb'
    clear hb'
    go_wp2_with fail
    refine (Vm.truth (Vt.leaf 2 (-K) 0 ⟨#[]⟩) _ _ (Vw.iLies (-K) _ _)).mono ?_
    rintro e W12 ⟨rfl, hb'⟩
    rw [HK2.out]
    replace B := Vm.then B hb'
    clear hb'
    by_cases hs : s.size ≤ 65536
    · have hs' : decide (65536 < (s.size : Int)) = false := decide_eq_false (by omega)
      have HX := Lib.hid (Vz.text s hs)
      clear hs
      go_wp2_with fail
      refine (Vn.text s _).mono ?_
      rintro e W11 ⟨rfl, hb'⟩
      replace B := Vm.then B hb'
      clear hb'
      go_wp2_with fail
      refine (Vm.truth (Vt.leaf 4 0 0 s) _ _ (Vw.sLies s _ _)).mono ?_
      rintro e W12 ⟨rfl, hb'⟩
      rw [HX.out]
      replace B := Vm.then B hb'
      clear hb'
      go_wp2_with fail
      refine (Vn.bits (b : Int) _).mono ?_
      rintro e W11 ⟨rfl, hb'⟩
      replace B := Vm.then B hb'
      clear hb'
      go_wp2_with fail
      refine (Vm.truth (Vt.leaf 3 0 b ⟨#[]⟩) _ _ (Vw.rLies b _ rfl hb _ _)).mono ?_
      rintro e W12 ⟨rfl, hb'⟩
      rw [HR.out]
      replace B := Vm.then B hb'
      clear hb'
      go_wp2
      go_ret
      exact ⟨rfl, B⟩
    · have hs' : decide (65536 < (s.size : Int)) = true := decide_eq_true (by omega)
      clear hs
      go_wp2_with fail
      refine (Vn.bits (b : Int) _).mono ?_
      rintro e W11 ⟨rfl, hb'⟩
      replace B := Vm.then B hb'
      clear hb'
      go_wp2_with fail
      refine (Vm.truth (Vt.leaf 3 0 b ⟨#[]⟩) _ _ (Vw.rLies b _ rfl hb _ _)).mono ?_
      rintro e W12 ⟨rfl, hb'⟩
      rw [HR.out]
      replace B := Vm.then B hb'
      clear hb'
      go_wp2
      go_ret
      exact ⟨rfl, B⟩
  · have d1 : ((M : Int) == 0) = false := beq_eq_false_iff_ne.2 (by omega)
    have d2 : ((E : Int) == 2047) = false := beq_eq_false_iff_ne.2 (by omega)
    have HR : Hid ((Vt.leaf 3 0 b ⟨#[]⟩).truth = !false) := by have := HT.out; rw [decide_eq_false m0, decide_eq_false e0] at this; exact this
    clear HT m0 e0
    go_wp2_with (refine Vm.stop 66 ?_)
    constructor
    clear h1 h2 h3
    go_wp2_with fail
    refine (Vn.num K _).mono ?_
    rintro e W11 ⟨rfl, hb'⟩
    replace B := Vm.then B hb'
    clear hb'
    go_wp2_with fail
    refine (Vm.truth (Vt.leaf 2 K 0 ⟨#[]⟩) _ _ (Vw.iLies K _ _)).mono ?_
    rintro e W12 ⟨rfl, hb'⟩
    rw [HK1.out]
    replace B := Vm.then B hb'
    clear hb'
    go_wp2_with fail
    refine (Vn.num (-K) _).mono ?_
    rintro e W11 ⟨rfl, hb'⟩
    replace B := Vm.then B hb'
    clear hb'
    go_wp2_with fail
    refine (Vm.truth (Vt.leaf 2 (-K) 0 ⟨#[]⟩) _ _ (Vw.iLies (-K) _ _)).mono ?_
    rintro e W12 ⟨rfl, hb'⟩
    rw [HK2.out]
    replace B := Vm.then B hb'
    clear hb'
    by_cases hs : s.size ≤ 65536
    · have hs' : decide (65536 < (s.size : Int)) = false := decide_eq_false (by omega)
      have HX := Lib.hid (Vz.text s hs)
      clear hs
      go_wp2_with fail
      refine (Vn.text s _).mono ?_
      rintro e W11 ⟨rfl, hb'⟩
      replace B := Vm.then B hb'
      clear hb'
      go_wp2_with fail
      refine (Vm.truth (Vt.leaf 4 0 0 s) _ _ (Vw.sLies s _ _)).mono ?_
      rintro e W12 ⟨rfl, hb'⟩
      rw [HX.out]
      replace B := Vm.then B hb'
      clear hb'
      go_wp2_with fail
      refine (Vn.bits (b : Int) _).mono ?_
      rintro e W11 ⟨rfl, hb'⟩
      replace B := Vm.then B hb'
      clear hb'
      go_wp2_with fail
      refine (Vm.truth (Vt.leaf 3 0 b ⟨#[]⟩) _ _ (Vw.rLies b _ rfl hb _ _)).mono ?_
      rintro e W12 ⟨rfl, hb'⟩
      rw [HR.out]
      replace B := Vm.then B hb'
      clear hb'
      go_wp2
      go_ret
      exact ⟨rfl, B⟩
    · have hs' : decide (65536 < (s.size : Int)) = true := decide_eq_true (by omega)
      clear hs
      go_wp2_with fail
      refine (Vn.bits (b : Int) _).mono ?_
      rintro e W11 ⟨rfl, hb'⟩
      replace B := Vm.then B hb'
      clear hb'
      go_wp2_with fail
      refine (Vm.truth (Vt.leaf 3 0 b ⟨#[]⟩) _ _ (Vw.rLies b _ rfl hb _ _)).mono ?_
      rintro e W12 ⟨rfl, hb'⟩
      rw [HR.out]
      replace B := Vm.then B hb'
      clear hb'
      go_wp2
      go_ret
      exact ⟨rfl, B⟩
  · have d1 : ((M : Int) == 0) = false := beq_eq_false_iff_ne.2 (by omega)
    have d2 : ((E : Int) == 2047) = true := beq_iff_eq.2 (by omega)
    have d3 : ((F : Int) != 0) = false := by rw [f0]; rfl
    have HR : Hid ((Vt.leaf 3 0 b ⟨#[]⟩).truth = !false) := by have := HT.out; rw [decide_eq_false m0, decide_eq_true e0, decide_eq_true f0] at this; exact this
    clear HT m0 e0 f0
    go_wp2_with (refine Vm.stop 66 ?_)
    constructor
    clear h1 h2 h3
    go_wp2_with fail
    refine (Vn.num K _).mono ?_
    rintro e W11 ⟨rfl, hb'⟩
    replace B := Vm.then B hb'
    clear hb'
    go_wp2_with fail
    refine (Vm.truth (Vt.leaf 2 K 0 ⟨#[]⟩) _ _ (Vw.iLies K _ _)).mono ?_
    rintro e W12 ⟨rfl, hb'⟩
    rw [HK1.out]
    replace B := Vm.then B hb'
    clear hb'
    go_wp2_with fail
    refine (Vn.num (-K) _).mono ?_
    rintro e W11 ⟨rfl, hb'⟩
    replace B := Vm.then B hb'
    clear hb'
    go_wp2_with fail
    refine (Vm.truth (Vt.leaf 2 (-K) 0 ⟨#[]⟩) _ _ (Vw.iLies (-K) _ _)).mono ?_
    rintro e W12 ⟨rfl, hb'⟩
    rw [HK2.out]
    replace B := Vm.then B hb'
    clear hb'
    by_cases hs : s.size ≤ 65536
    · have hs' : decide (65536 < (s.size : Int)) = false := decide_eq_false (by omega)
      have HX := Lib.hid (Vz.text s hs)
      clear hs
      go_wp2_with fail
      refine (Vn.text s _).mono ?_
      rintro e W11 ⟨rfl, hb'⟩
      replace B := Vm.then B hb'
      clear hb'
      go_wp2_with fail
      refine (Vm.truth (Vt.leaf 4 0 0 s) _ _ (Vw.sLies s _ _)).mono ?_
      rintro e W12 ⟨rfl, hb'⟩
      rw [HX.out]
      replace B := Vm.then B hb'
      clear hb'
      go_wp2_with fail
      refine (Vn.bits (b : Int) _).mono ?_
      rintro e W11 ⟨rfl, hb'⟩
      replace B := Vm.then B hb'
      clear hb'
      go_wp2_with fail
      refine (Vm.truth (Vt.leaf 3 0 b ⟨#[]⟩) _ _ (Vw.rLies b _ rfl hb _ _)).mono ?_
      rintro e W12 ⟨rfl, hb'⟩
      rw [HR.out]
      replace B := Vm.then B hb'
      clear hb'
      go_wp2
      go_ret
      exact ⟨rfl, B⟩
    · have hs' : decide (65536 < (s.size : Int)) = true := decide_eq_true (by omega)
      clear hs
      go_wp2_with fail
      refine (Vn.bits (b : Int) _).mono ?_
      rintro e W11 ⟨rfl, hb'⟩
      replace B := Vm.then B hb'
      clear hb'
      go_wp2_with fail
      refine (Vm.truth (Vt.leaf 3 0 b ⟨#[]⟩) _ _ (Vw.rLies b _ rfl hb _ _)).mono ?_
      rintro e W12 ⟨rfl, hb'⟩
      rw [HR.out]
      replace B := Vm.then B hb'
      clear hb'
      go_wp2
      go_ret
      exact ⟨rfl, B⟩
end Go.Proofs.YtmiabkoodoekdaaDoor

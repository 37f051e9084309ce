/-
  stolelaw14.awake; stolelaw0.Num; words that were written down.
-/
import Derived.Test.YtnophkbbeipaaaaOProg
import Derived.Test.YtnophkbbeipaaaaOSame
namespace Go.Proofs.Ytnophkbbeipaaaa
open Go.RowKit
theorem Ow.num (x : Int) (w : World) : Calls Try.prog 10 #[.int .i64 x] w fun e w' => e = .returned (.int .i64 x) ∧ w' = w := by
  go_enter Try.func10, Try.ntmps10
  go_wp2
  go_ret
  exact ⟨rfl, rfl⟩
/-- the cells of words, their paths' slices given -/
def Wo.rows : List Wo → List Value → List Value
  | x :: ws, v :: vs => Wo.four x v ++ Wo.rows ws vs
  | _, _ => []
/-- each word's path lies where its slice says -/
def Wo.fits (w : World) (R : Nat → Prop) : List Wo → List Value → Prop
  | [], [] => True
  | x :: ws, v :: vs => St.Lies w R x.path v ∧ Wo.fits w R ws vs
  | _, _ => False
theorem Wo.rows_get {w : World} {R : Nat → Prop} : ∀ (ws : List Wo) (vs : List Value), Wo.fits w R ws vs → ∀ (i : Nat) (x : Wo), ws[i]? = some x → ∃ v, St.Lies w R x.path v ∧ ∀ r, r < 4 → (Wo.rows ws vs)[i * 4 + r]? = (Wo.four x v)[r]? := by
  intro ws
  induction ws with
  | nil => intro vs _ i t h; simp at h
  | cons u ws ih =>
    intro vs hl i t h
    cases vs with
    | nil => exact hl.elim
    | cons a vs =>
      cases i with
      | zero =>
        simp only [List.getElem?_cons_zero, Option.some.injEq] at h
        subst h
        refine ⟨a, hl.1, fun r hr => ?_⟩
        rw [Wo.rows, List.getElem?_append_left (by simp [Wo.four]; omega), Nat.zero_mul, Nat.zero_add]
      | succ i =>
        rw [List.getElem?_cons_succ] at h
        obtain ⟨av, h1, h2⟩ := ih vs hl.2 i t h
        refine ⟨av, h1, fun r hr => ?_⟩
        rw [Wo.rows, List.getElem?_append_right (by simp [Wo.four]; omega)]
        show (Wo.rows ws vs)[(i + 1) * 4 + r - 4]? = _
        rw [show (i + 1) * 4 + r - 4 = i * 4 + r by omega]
        exact h2 r hr
theorem Ow.lit {w : World} {g : Nat} {cs : Array Value} {R : Nat → Prop} (ws : List Wo) (vs : List Value) (n : Nat) (h : Bs.Box w g cs 37) (hn : ws.length = n) (hm : n ≤ 1000) (hR : R g) (hc : cs.toList = Wo.rows ws vs) (hf : Wo.fits w R ws vs) : Wo.Lies w R ws (.slice (some ⟨g, 0, none⟩) n n) := by
  subst hn
  refine ⟨_, _, rfl, Nat.le_refl _, by unfold maxLen; omega, fun j x hj => ?_⟩
  obtain ⟨v, hl, hq⟩ := Wo.rows_get ws vs hf j x hj
  rw [← hc] at hq
  have h0 := hq 0 (by decide)
  have h1 := hq 1 (by decide)
  have h2 := hq 2 (by decide)
  have h3 := hq 3 (by decide)
  exact ⟨g, 0, v, rfl, hR, h.cell _ (by rw [Nat.zero_add, ← Array.getElem?_toList]; exact h0), h.cell _ (by rw [Nat.zero_add, ← Array.getElem?_toList]; exact h1), h.cell _ (by rw [Nat.zero_add, ← Array.getElem?_toList]; exact h2), h.cell _ (by rw [Nat.zero_add, ← Array.getElem?_toList]; exact h3), hl⟩
theorem Ow.path {w : World} {g : Nat} {cs : Array Value} {R : Nat → Prop} (ts : List (List UInt8)) (n : Nat) (h : Bs.Box w g cs 9) (hn : ts.length = n) (hm : n ≤ 1000) (hR : R g) (hc : cs.toList = St.cells ts) : St.Lies w R ts (.slice (some ⟨g, 0, none⟩) n n) := by
  subst hn
  refine ⟨_, _, rfl, Nat.le_refl _, by unfold maxLen; omega, fun j x hj => ⟨g, 0, rfl, hR, h.cell _ ?_⟩⟩
  rw [Nat.zero_add, ← Array.getElem?_toList, hc]
  simp [St.cells, hj]
theorem Ow.drewN {B : Nat} {a w : World} (h : Below B a w) (n : Nat) : Below B a (w.drewN n) := ⟨h.os, h.tape, h.output, h.size, h.block⟩
/-- words that lay below stay -/
theorem Wo.Lies.below {w w' : World} {B : Nat} {ws : List Wo} {v : Value} (h : Wo.Lies w (fun k => B ≤ k ∧ k < w.heap.size ∧ Rm.Ub w k) ws v) (hb : Below w.heap.size w w') : Wo.Lies w' (fun k => B ≤ k ∧ k < w'.heap.size ∧ Rm.Ub w' k) ws v :=
  h.on fun k hk => ⟨⟨hk.1, Nat.lt_of_lt_of_le hk.2.1 hb.size, hk.2.2.on (hb.block k hk.2.1)⟩, hb.block k hk.2.1⟩
def Ow.want : List Wo := [⟨1, [], [[97], [98]], 0⟩, ⟨5, [], [], 0⟩, ⟨0, [101, 113], [], 0⟩, ⟨2, [120, 95, 49], [[99]], 0⟩, ⟨3, [], [], -12⟩, ⟨4, [113, 10, 34], [], 0⟩, ⟨6, [], [], 0⟩, ⟨1, [], [], 0⟩]
set_option maxRecDepth 100000 in
theorem Ow.words1 : Wx.words ⟨#[46, 97, 46, 98, 32, 124, 32, 101, 113, 32, 36, 120, 95, 49, 46, 99, 32, 45, 49, 50, 32, 34, 113, 92, 110, 92, 34, 34, 32, 58, 61, 32, 46]⟩ = (Ow.want, 0) := by kernel_rfl
theorem Ow.words2 : Wx.words ⟨#[34, 97]⟩ = ([], 1401) := by kernel_rfl
theorem Ow.words3 : Wx.words ⟨#[45]⟩ = ([], 1402) := by kernel_rfl
theorem Ow.words4 : Wx.words ⟨#[46, 97, 37]⟩ = ([], 1400) := by kernel_rfl
theorem Ow.below3 (w : World) (a b c : Obj) : Below w.heap.size w (((w.alloc a).alloc b).alloc c) := (((Below.refl _ _).alloc (Nat.le_refl _) a).alloc (by simp) b).alloc (by simp; omega) c
theorem Ow.wantLies (w : World) : Wo.Lies (((w.alloc (.cells #[.string ⟨#[97]⟩, .string ⟨#[98]⟩] 9)).alloc (.cells #[.string ⟨#[99]⟩] 9)).alloc (.cells #[.int .i64 1, .string ⟨#[]⟩, .slice (some ⟨w.heap.size, 0, none⟩) 2 2, .int .i64 0, .int .i64 5, .string ⟨#[]⟩, .slice none 0 0, .int .i64 0, .int .i64 0, .string ⟨#[101, 113]⟩, .slice none 0 0, .int .i64 0, .int .i64 2, .string ⟨#[120, 95, 49]⟩, .slice (some ⟨w.heap.size + 1, 0, none⟩) 1 1, .int .i64 0, .int .i64 3, .string ⟨#[]⟩, .slice none 0 0, .int .i64 (-12), .int .i64 4, .string ⟨#[113, 10, 34]⟩, .slice none 0 0, .int .i64 0, .int .i64 6, .string ⟨#[]⟩, .slice none 0 0, .int .i64 0, .int .i64 1, .string ⟨#[]⟩, .slice none 0 0, .int .i64 0] 37)) (fun _ => True) Ow.want (.slice (some ⟨w.heap.size + 1 + 1, 0, none⟩) 8 8) := by
  refine Ow.lit Ow.want [.slice (some ⟨w.heap.size, 0, none⟩) 2 2, .slice none 0 0, .slice none 0 0, .slice (some ⟨w.heap.size + 1, 0, none⟩) 1 1, .slice none 0 0, .slice none 0 0, .slice none 0 0, .slice none 0 0] 8 (Bs.Box.new _ _ _ _ (by simp)) rfl (by decide) trivial rfl ⟨?_, St.Lies.nil _ _, St.Lies.nil _ _, ?_, St.Lies.nil _ _, St.Lies.nil _ _, St.Lies.nil _ _, St.Lies.nil _ _, trivial⟩
  · refine Ow.path [[97], [98]] 2 (cs := #[.string ⟨#[97]⟩, .string ⟨#[98]⟩]) ?_ rfl (by decide) trivial rfl
    exact (Below.heap_alloc _ _ _ (by simp; omega)).trans ((Below.heap_alloc _ _ _ (by simp)).trans (Bs.Box.new w _ _ _ rfl))
  · refine Ow.path [[99]] 1 (cs := #[.string ⟨#[99]⟩]) ?_ rfl (by decide) trivial rfl
    exact (Below.heap_alloc _ _ _ (by simp)).trans (Bs.Box.new _ _ _ _ (by simp))
set_option maxRecDepth 100000 in
set_option maxHeartbeats 2000000 in
theorem Ow.awake (w : World) (hT : Op.T w) : Calls Try.prog 12 #[] w fun e w' => e = .returned (.bool true) ∧ Below w.heap.size w w' := by
  have c1 := fun u h => Op.words ⟨#[46, 97, 46, 98, 32, 124, 32, 101, 113, 32, 36, 120, 95, 49, 46, 99, 32, 45, 49, 50, 32, 34, 113, 92, 110, 92, 34, 34, 32, 58, 61, 32, 46]⟩ u h (by decide)
  have c2 := fun u h => Op.words ⟨#[34, 97]⟩ u h (by decide)
  have c3 := fun u h => Op.words ⟨#[45]⟩ u h (by decide)
  have c4 := fun u h => Op.words ⟨#[46, 97, 37]⟩ u h (by decide)
  rw [Ow.words1] at c1
  rw [Ow.words2] at c2
  rw [Ow.words3] at c3
  rw [Ow.words4] at c4
  have HT := Lib.hid hT
  have nm := fun x u => Ow.num x u
  clear hT
  go_enter Try.func12, Try.ntmps12
  go_wp2_with (first | (go_at_call 7; refine (c1 _ HT.out).mono ?_; rintro e w1 ⟨v1, rfl, l1, b1⟩; have HL1 := Lib.hid l1; have HB1 := Lib.hid b1; clear l1 b1 c1) | (go_at_call 7; refine (c2 _ (HT.out.on HB1.out)).mono ?_; rintro e w2 ⟨v2, rfl, l2, b2⟩; have HL2 := Lib.hid (HL1.out.below b2); have HB2 := Lib.hid (Wk.below_step HB1.out b2); clear l2 b2 c2 HL1) | (go_at_call 7; refine (c3 _ (HT.out.on HB2.out)).mono ?_; rintro e w3 ⟨v3, rfl, l3, b3⟩; have HL3 := Lib.hid (HL2.out.below b3); have HB3 := Lib.hid (Wk.below_step HB2.out b3); clear l3 b3 c3 HL2) | (go_at_call 7; refine (c4 _ (HT.out.on HB3.out)).mono ?_; rintro e w4 ⟨v4, rfl, l4, b4⟩; have HL4 := Lib.hid (HL3.out.below b4); have HB4 := Lib.hid (Wk.below_step HB3.out b4); clear l4 b4 c4 HL3) | (go_at_call 9; refine (Sa.words _ _ _ _ _ _ (HL4.out.below (Ow.below3 _ _ _ _)) (Ow.wantLies _)).mono ?_; rintro e w5 ⟨rfl, n5, rfl⟩) | (go_at_call 10; refine (nm _ _).mono ?_; rintro e w6 ⟨rfl, hw⟩; have hw := hw.symm; subst hw))
  go_ret
  exact ⟨rfl, Ow.drewN (Wk.below_step HB4.out (Ow.below3 _ _ _ _)) _⟩
end Go.Proofs.Ytnophkbbeipaaaa

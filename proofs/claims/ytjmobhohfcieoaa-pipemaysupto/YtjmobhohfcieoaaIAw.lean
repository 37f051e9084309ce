/-
  stolelaw15.awake.
-/
import Derived.Test.YtjmobhohfcieoaaIProg
import Derived.Test.YtjmobhohfcieoaaILit
namespace Go.Proofs.Ytjmobhohfcieoaa
open Go.RowKit
def Iw.ws : List Wi := [⟨1, [], [[97]], 0⟩, ⟨5, [], [], 0⟩, ⟨0, [101, 113], [], 0⟩, ⟨0, [116, 114, 117, 101], [], 0⟩]
def Iw.want : List Cm := [⟨[], [⟨0, [], [[97]], 0, []⟩]⟩, ⟨[101, 113], [⟨4, [], [], 1, []⟩]⟩]
theorem Iw.p1 : Pi.parse Iw.ws = (Iw.want, 0) := by kernel_rfl
theorem Iw.p2 : Pi.parse [] = ([], 1500) := by kernel_rfl
theorem Iw.p3 : Pi.parse [⟨0, [102, 111, 111], [], 0⟩] = ([], 1500) := by kernel_rfl
theorem Iw.p4 : Pi.parse [⟨3, [], [], 0⟩, ⟨3, [], [], 0⟩] = ([], 1500) := by kernel_rfl
theorem Iw.m1 : Pi.may Iw.want = true := by kernel_rfl
theorem Iw.m2 : Pi.may [] = false := by kernel_rfl
theorem Iw.fits1 : Wi.Fits Iw.ws := by
  refine ⟨by decide, fun x hx => ?_⟩
  simp only [Iw.ws, List.mem_cons, List.not_mem_nil, or_false] at hx
  rcases hx with rfl | rfl | rfl | rfl
  all_goals exact ⟨by decide, by decide, fun t ht => by simp at ht; try (subst ht; decide)⟩
set_option maxRecDepth 100000 in
theorem Iw.wsLies (w : World) : Dt.Lies ((w.alloc (.cells #[.string ⟨#[97]⟩] 9)).alloc (.cells #[.int .i64 1, .string ⟨#[]⟩, .slice (some ⟨w.heap.size, 0, none⟩) 1 1, .int .i64 0, .int .i64 5, .string ⟨#[]⟩, .slice none 0 0, .int .i64 0, .int .i64 0, .string ⟨#[101, 113]⟩, .slice none 0 0, .int .i64 0, .int .i64 0, .string ⟨#[116, 114, 117, 101]⟩, .slice none 0 0, .int .i64 0] 45)) (fun _ => True) (Wi.rows Iw.ws) (.slice (some ⟨w.heap.size + 1, 0, none⟩) 4 4) := by
  refine Dt.lit Iw.ws 4 (Bs.Box.new _ _ _ _ (by simp)) rfl (by decide) trivial (fun _ => rfl) ?_
  refine ⟨Dt.i, Dt.s, Dt.tx [[97]] 1 (cs := #[.string ⟨#[97]⟩]) (ty := 9) ((Bs.Box.new w _ _ _ rfl).alloc _) rfl (by decide) trivial rfl, Dt.i, Dt.i, Dt.s, Dt.n, Dt.i, Dt.i, Dt.s, Dt.n, Dt.i, Dt.i, Dt.s, Dt.n, Dt.i, trivial⟩
theorem Iw.ws3 (w : World) : Dt.Lies (w.alloc (.cells #[.int .i64 0, .string ⟨#[102, 111, 111]⟩, .slice none 0 0, .int .i64 0] 45)) (fun _ => True) (Wi.rows [⟨0, [102, 111, 111], [], 0⟩]) (.slice (some ⟨w.heap.size, 0, none⟩) 1 1) :=
  Dt.lit [_] 1 (Bs.Box.new _ _ _ _ rfl) rfl (by decide) trivial (fun _ => rfl) ⟨Dt.i, Dt.s, Dt.n, Dt.i, trivial⟩
theorem Iw.ws4 (w : World) : Dt.Lies (w.alloc (.cells #[.int .i64 3, .string ⟨#[]⟩, .slice none 0 0, .int .i64 0, .int .i64 3, .string ⟨#[]⟩, .slice none 0 0, .int .i64 0] 45)) (fun _ => True) (Wi.rows [⟨3, [], [], 0⟩, ⟨3, [], [], 0⟩]) (.slice (some ⟨w.heap.size, 0, none⟩) 2 2) :=
  Dt.lit [_, _] 2 (Bs.Box.new _ _ _ _ rfl) rfl (by decide) trivial (fun _ => rfl) ⟨Dt.i, Dt.s, Dt.n, Dt.i, Dt.i, Dt.s, Dt.n, Dt.i, trivial⟩
theorem Iw.wantLies (w : World) : Dt.Lies ((((w.alloc (.cells #[.string ⟨#[97]⟩] 9)).alloc (.cells #[.int .i64 0, .string ⟨#[]⟩, .slice (some ⟨w.heap.size, 0, none⟩) 1 1, .int .i64 0, .string ⟨#[]⟩] 41)).alloc (.cells #[.int .i64 4, .string ⟨#[]⟩, .slice none 0 0, .int .i64 1, .string ⟨#[]⟩] 41)).alloc (.cells #[.string ⟨#[]⟩, .slice (some ⟨w.heap.size + 1, 0, none⟩) 1 1, .string ⟨#[101, 113]⟩, .slice (some ⟨w.heap.size + 1 + 1, 0, none⟩) 1 1] 38)) (fun _ => True) (Cm.rows Iw.want) (.slice (some ⟨w.heap.size + 1 + 1 + 1, 0, none⟩) 2 2) := by
  refine Dt.lit Iw.want 2 (Bs.Box.new _ _ _ _ (by simp)) rfl (by decide) trivial (fun _ => rfl) ?_
  refine ⟨Dt.s, Dt.lit [_] 1 (cs := #[.int .i64 0, .string ⟨#[]⟩, .slice (some ⟨w.heap.size, 0, none⟩) 1 1, .int .i64 0, .string ⟨#[]⟩]) (ty := 41) (((Bs.Box.new _ _ _ _ (by simp)).alloc _).alloc _) rfl (by decide) trivial (fun _ => rfl) ⟨Dt.i, Dt.s, Dt.tx [[97]] 1 (cs := #[.string ⟨#[97]⟩]) (ty := 9) ((((Bs.Box.new w _ _ _ rfl).alloc _).alloc _).alloc _) rfl (by decide) trivial rfl, Dt.i, Dt.s, trivial⟩, Dt.s, Dt.lit [_] 1 (cs := #[.int .i64 4, .string ⟨#[]⟩, .slice none 0 0, .int .i64 1, .string ⟨#[]⟩]) (ty := 41) ((Bs.Box.new _ _ _ _ (by simp)).alloc _) rfl (by decide) trivial (fun _ => rfl) ⟨Dt.i, Dt.s, Dt.n, Dt.i, Dt.s, trivial⟩, trivial⟩
theorem Iw.fits3 (k : Int) (t : List UInt8) (n : Nat) (ht : t.length ≤ 1000) (hn : n ≤ 2) : Wi.Fits (List.replicate n ⟨k, t, [], 0⟩) :=
  ⟨by rw [List.length_replicate]; omega, fun x hx => by rw [(List.mem_replicate.1 hx).2]; exact ⟨by show t.length ≤ _; omega, Nat.zero_le _, fun q hq => by cases hq⟩⟩
theorem Iw.held1 : Cm.Held Iw.want := by
  refine ⟨by decide, fun c hc => ?_⟩
  simp only [Iw.want, List.mem_cons, List.not_mem_nil, or_false] at hc
  rcases hc with rfl | rfl
  all_goals
    refine ⟨by decide, by decide, fun x hx => ?_⟩
    simp only [List.mem_cons, List.not_mem_nil, or_false] at hx
    subst hx
    exact ⟨by decide, by decide, by decide, fun t ht => by simp at ht; try (subst ht; decide)⟩
theorem Iw.held0 : Cm.Held [] := ⟨by decide, fun c hc => by cases hc⟩
set_option maxRecDepth 100000 in
set_option maxHeartbeats 2000000 in
theorem Iw.awake (w : World) (hT : Ip.T w) : Calls Try.prog 15 #[] w fun e w' => e = .returned (.bool true) ∧ Below w.heap.size w w' := by
  have c1 := fun u (h : Ip.T u) l => Ip.parse Iw.ws (.slice (some ⟨w.heap.size + 1, 0, none⟩) 4 4) (fun _ => True) u h l Iw.fits1
  have c2 := fun u (h : Ip.T u) => Ip.parse [] (.slice none 0 0) (fun _ => True) u h (Dt.n) ⟨by decide, fun x hx => by cases hx⟩
  have c3 := fun u (h : Ip.T (u.alloc _)) => Ip.parse [⟨0, [102, 111, 111], [], 0⟩] _ (fun _ => True) _ h (Iw.ws3 u) (Iw.fits3 0 [102, 111, 111] 1 (by decide) (by decide))
  have c4 := fun u (h : Ip.T (u.alloc _)) => Ip.parse [⟨3, [], [], 0⟩, ⟨3, [], [], 0⟩] _ (fun _ => True) _ h (Iw.ws4 u) (Iw.fits3 3 [] 2 (by decide) (by decide))
  have m1 := fun v u (h : Ip.T u) l => Ip.may Iw.want v (fun _ => True) u h l Iw.held1
  have m2 := fun u (h : Ip.T u) => Ip.may [] (.slice none 0 0) (fun _ => True) u h Dt.n Iw.held0
  rw [Iw.m1] at m1
  rw [Iw.m2] at m2
  rw [Iw.p1] at c1
  rw [Iw.p2] at c2
  rw [Iw.p3] at c3
  rw [Iw.p4] at c4
  have nm := fun x u => Iw.num x u
  have HT := Lib.hid hT
  clear hT
  go_enter Try.func15, Try.ntmps15
  go_wp2_with (first | (go_at_call 7; with_reducible refine Calls.mono (c1 _ (HT.out.on (Iw.b2 w _ _)) (Iw.wsLies w)) ?_; rintro e w1 ⟨v1, rfl, l1, b1⟩; have HL1 := Lib.hid l1; have HB1 := Lib.hid (Wk.below_step (Iw.b2 w _ _) b1); clear l1 b1 c1) | (go_at_call 7; with_reducible refine Calls.mono (c2 _ (HT.out.on HB1.out)) ?_; rintro e w2 ⟨v2, rfl, l2, b2⟩; have HL2 := Lib.hid (HL1.out.below b2); have HB2 := Lib.hid (Wk.below_step HB1.out b2); clear l2 b2 c2 HL1) | (go_at_call 7; with_reducible refine Calls.mono (c3 _ (HT.out.on (Wk.below_step HB2.out (Iw.b1 _ _)))) ?_; rintro e w3 ⟨v3, rfl, l3, b3⟩; have B3 := Wk.below_step (Iw.b1 w2 _) b3; have HL3 := Lib.hid (HL2.out.below B3); have HB3 := Lib.hid (Wk.below_step HB2.out B3); clear l3 b3 c3 HL2 B3) | (go_at_call 7; with_reducible refine Calls.mono (c4 _ (HT.out.on (Wk.below_step HB3.out (Iw.b1 _ _)))) ?_; rintro e w4 ⟨v4, rfl, l4, b4⟩; have B4 := Wk.below_step (Iw.b1 w3 _) b4; have HL4 := Lib.hid (HL3.out.below B4); have HB4 := Lib.hid (Wk.below_step HB3.out B4); clear l4 b4 c4 HL3 B4) | (go_at_call 9; with_reducible refine Calls.mono (Sa.pipe Iw.want _ _ _ _ _ (HL4.out.below (Iw.b4 _ _ _ _ _)) (Iw.wantLies _) (by decide)) ?_; rintro e w5 ⟨rfl, b5⟩; have HW5 := Lib.hid ((Iw.wantLies w4).later b5); have HB5 := Lib.hid (Wk.below_step (Wk.below_step HB4.out (Iw.b4 _ _ _ _ _)) b5); clear b5 HL4) | (go_at_call 10; refine (nm _ _).mono ?_; rintro e w6 ⟨rfl, hw⟩; have hw := hw.symm; subst hw) | (go_at_call 13; with_reducible refine Calls.mono (m1 _ _ (HT.out.on HB5.out) HW5.out) ?_; rintro e w7 ⟨rfl, b7⟩; have HB7 := Lib.hid (Wk.below_step HB5.out b7); clear b7 HW5 m1) | (go_at_call 13; with_reducible refine Calls.mono (m2 _ (HT.out.on HB7.out)) ?_; rintro e w8 ⟨rfl, b8⟩; have HB8 := Lib.hid (Wk.below_step HB7.out b8); clear b8 m2))
  go_ret
  exact ⟨rfl, HB8.out⟩
end Go.Proofs.Ytjmobhohfcieoaa

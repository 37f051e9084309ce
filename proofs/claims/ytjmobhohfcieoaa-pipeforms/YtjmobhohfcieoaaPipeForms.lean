/-
  THE WALK of stolelaw15.PipeForms: it returns true.
-/
import Derived.Test.YtjmobhohfcieoaaIForms
namespace Go.Proofs.Ytjmobhohfcieoaa
open Go.RowKit
theorem If.and6 (n : Int) : bits .and .i64 n 63 = n % 64 := by
  have hm : (BitVec.ofInt 64 63).toNat = 2 ^ 6 - 1 := by decide
  have key : (BitVec.ofInt 64 n &&& BitVec.ofInt 64 63).toNat = (n % ((2 ^ 64 : Nat) : Int)).toNat % 2 ^ 6 := by
    rw [BitVec.toNat_and, BitVec.toNat_ofInt, hm, Nat.and_two_pow_sub_one_eq_mod]
  show IntKind.i64.wrap ((BitVec.ofInt 64 n &&& BitVec.ofInt 64 63).toNat : Nat) = n % 64
  rw [key, IntKind.wrap_i64]
  omega
theorem If.index18 (wh : Int) : ∃ q : Nat, q < 18 ∧ wrap64 ((IntKind.u64.wrap wh).tmod 18) = (q : Int) ∧ IntKind.i64.wrap ((IntKind.u64.wrap wh).tmod 18) = (q : Int) := by
  have h1 : 0 ≤ IntKind.u64.wrap wh := by
    rw [IntKind.wrap_u64]; omega
  have h2 : (IntKind.u64.wrap wh).tmod 18 = IntKind.u64.wrap wh % 18 := Int.tmod_eq_emod_of_nonneg h1
  refine ⟨(IntKind.u64.wrap wh % 18).toNat, by omega, ?_, ?_⟩
  · rw [h2]
    unfold wrap64
    omega
  · rw [h2, IntKind.wrap_i64]
    omega
def If.good : List Wi := [⟨1, [], [], 0⟩, ⟨5, [], [], 0⟩, ⟨0, [108, 101, 110], [], 0⟩]
def If.want : List Cm := [⟨[], [⟨0, [], [], 0, []⟩]⟩, ⟨[108, 101, 110], []⟩]
theorem If.good_parse : Pi.parse If.good = (If.want, 0) := by kernel_rfl
theorem If.good_fits : Wi.Fits If.good := by
  refine ⟨by decide, fun x hx => ?_⟩
  simp only [If.good, List.mem_cons, List.not_mem_nil, or_false] at hx
  rcases hx with rfl | rfl | rfl
  all_goals exact ⟨by decide, by decide, fun t ht => by cases ht⟩
theorem If.goodLies (w : World) : Dt.Lies (w.alloc (.cells #[.int .i64 1, .string ⟨#[]⟩, .slice none 0 0, .int .i64 0, .int .i64 5, .string ⟨#[]⟩, .slice none 0 0, .int .i64 0, .int .i64 0, .string ⟨#[108, 101, 110]⟩, .slice none 0 0, .int .i64 0] 45)) (fun _ => True) (Wi.rows If.good) (.slice (some ⟨w.heap.size, 0, none⟩) 3 3) :=
  Dt.lit If.good 3 (Bs.Box.new _ _ _ _ rfl) rfl (by decide) trivial (fun _ => rfl) ⟨Dt.i, Dt.s, Dt.n, Dt.i, Dt.i, Dt.s, Dt.n, Dt.i, Dt.i, Dt.s, Dt.n, Dt.i, trivial⟩
theorem If.wantLies (w : World) : Dt.Lies ((w.alloc (.cells #[.int .i64 0, .string ⟨#[]⟩, .slice none 0 0, .int .i64 0, .string ⟨#[]⟩] 41)).alloc (.cells #[.string ⟨#[]⟩, .slice (some ⟨w.heap.size, 0, none⟩) 1 1, .string ⟨#[108, 101, 110]⟩, .slice none 0 0] 38)) (fun _ => True) (Cm.rows If.want) (.slice (some ⟨w.heap.size + 1, 0, none⟩) 2 2) := by
  refine Dt.lit If.want 2 (Bs.Box.new _ _ _ _ (by simp)) rfl (by decide) trivial (fun _ => rfl) ?_
  exact ⟨Dt.s, Dt.lit [_] 1 (cs := #[.int .i64 0, .string ⟨#[]⟩, .slice none 0 0, .int .i64 0, .string ⟨#[]⟩]) (ty := 41) ((Bs.Box.new w _ _ _ rfl).alloc _) rfl (by decide) trivial (fun _ => rfl) ⟨Dt.i, Dt.s, Dt.n, Dt.i, Dt.s, trivial⟩, Dt.s, Dt.n, trivial⟩
set_option maxRecDepth 100000 in
set_option maxHeartbeats 4000000 in
theorem Law.pipeForms (x y : Int) (w : World) (hT : Ip.T w) :
    Calls Try.prog 6 #[.int .i64 x, .int .i64 y] w fun e w' => e = .returned (.bool true) ∧ Below w.heap.size w w' := by
  have aw := fun u h => Iw.awake u h
  have nm := fun x u => Iw.num x u
  have HT := Lib.hid hT
  obtain ⟨dd, hd, hd2, hd1⟩ : ∃ dd : Nat, 1 + y % 64 = (dd : Int) ∧ dd ≤ 64 ∧ 1 ≤ dd := ⟨(1 + y % 64).toNat, by omega, by omega, by omega⟩
  have h6 := If.and6 y
  have hw1 : IntKind.i64.wrap (1 + y % 64) = (dd : Int) := by rw [IntKind.wrap_i64]; omega
  have hw2 : wrap64 (1 + y % 64) = (dd : Int) := by unfold wrap64; omega
  have hw3 : wrap64 (6 + (dd : Int)) = 6 + (dd : Int) := by unfold wrap64; omega
  have hw4 : wrap64 (-(dd : Int)) = -(dd : Int) := by unfold wrap64; omega
  have hw5 : wrap64 (9007199254740991 + (dd : Int)) = 9007199254740991 + (dd : Int) := by unfold wrap64; omega
  obtain ⟨q, hq, hz, hz2⟩ := If.index18 x
  obtain ⟨l, hl⟩ : ∃ l, (If.bads dd)[q]? = some l := ⟨_, List.getElem?_eq_getElem (show q < (If.bads dd).length from hq)⟩
  obtain ⟨hp, hfit⟩ := If.bad dd hd1 hd2 l (List.mem_of_getElem? hl)
  have ps := fun v R u (h : Ip.T u) l' => Ip.parse l v R u h l' hfit
  rw [hp] at ps
  have p2 := fun u (h : Ip.T (u.alloc _)) => Ip.parse If.good _ (fun _ => True) _ h (If.goodLies u) If.good_fits
  rw [If.good_parse] at p2
  clear hT hd
  go_enter Try.func6, Try.ntmps6
  go_upto_region 6 with (first | (go_at_call 15; with_reducible refine Calls.mono (aw _ HT.out) ?_; rintro e w1 ⟨rfl, b1⟩; have HB1 := Lib.hid b1; clear b1))
  have hBW := If.bw_below dd w1
  have hbl := If.badsLies dd w1
  have hbd := If.dot dd w1
  have hbb := If.bar dd w1
  have hbf := If.fn dd w1
  obtain ⟨W3, hW3⟩ : ∃ W3, If.bw dd w1 = W3 := ⟨_, rfl⟩
  rw [hW3] at hBW hbl hbd hbb hbf
  unfold If.bw at hW3
  rw [hW3]
  clear hW3
  obtain ⟨v, cv, lv⟩ := If.get hbl q l hl
  have HLV := Lib.hid lv
  have HB3 := Lib.hid (Wk.below_step HB1.out hBW)
  have HD := Lib.hid hbd
  have HR := Lib.hid hbb
  have HF := Lib.hid hbf
  obtain ⟨G, hG⟩ : ∃ G, w1.heap.size + 1 + 1 + 1 + 1 + 1 + 1 + 1 + 1 + 1 + 1 + 1 + 1 + 1 + 1 + 1 + 1 + 1 + 1 + 1 + 1 + 1 + 1 = G := ⟨_, rfl⟩
  rw [hG] at cv ⊢
  have hq18 : (q : Int) < 18 := by omega
  have hq0 : (0 : Int) ≤ (q : Int) := by omega
  clear hBW hbl hbd hbb hbf hG lv hw1 hw2 hw3 hw4 hw5
  go_wp2_with (first | (go_at_call 7; with_reducible refine Calls.mono (ps _ _ _ (HT.out.on HB3.out) HLV.out) ?_; rintro e w4 ⟨a4, rfl, l4, b4⟩; obtain ⟨p4, e4, rfl, _, _, _⟩ := Cm.get l4; have HB4 := Lib.hid (Wk.below_step HB3.out b4); have D4 := HD.out.on b4 HD.out.lt; have R4 := HR.out.on b4 HR.out.lt; have F4 := HF.out.on b4 HF.out.lt; have d0 := D4.cell 0 rfl; have d1 := D4.cell 1 rfl; have d2 := D4.cell 2 rfl; have d3 := D4.cell 3 rfl; have r0 := R4.cell 0 rfl; have r1 := R4.cell 1 rfl; have r2 := R4.cell 2 rfl; have r3 := R4.cell 3 rfl; have f0 := F4.cell 0 rfl; have f1 := F4.cell 1 rfl; have f2 := F4.cell 2 rfl; have f3 := F4.cell 3 rfl; clear l4 b4 ps D4 R4 F4) | (go_at_call 7; with_reducible refine Calls.mono (p2 _ (HT.out.on (Wk.below_step HB4.out (Iw.b1 _ _)))) ?_; rintro e w5 ⟨a5, rfl, l5, b5⟩; have HL5 := Lib.hid l5; have HB5 := Lib.hid (Wk.below_step HB4.out (Wk.below_step (Iw.b1 _ _) b5)); clear l5 b5 p2 d0 d1 d2 d3 r0 r1 r2 r3 f0 f1 f2 f3) | (go_at_call 9; with_reducible refine Calls.mono (Sa.pipe If.want _ _ _ _ _ (HL5.out.below (Iw.b2 _ _ _)) (If.wantLies _) (by decide)) ?_; rintro e w6 ⟨rfl, b6⟩; have HB6 := Lib.hid (Wk.below_step (Wk.below_step HB5.out (Iw.b2 _ _ _)) b6); clear b6 HL5) | (go_at_call 10; refine (nm _ _).mono ?_; rintro e w7 ⟨rfl, hw⟩; have hw := hw.symm; subst hw))
  go_ret
  exact ⟨rfl, HB6.out⟩
end Go.Proofs.Ytjmobhohfcieoaa

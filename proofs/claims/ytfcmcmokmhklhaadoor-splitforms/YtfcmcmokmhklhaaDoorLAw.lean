/-
  stolelaw13.awake; stolelaw0.Num; pieces that were written down.
-/
import Derived.Test.YtfcmcmokmhklhaaDoorLProg
namespace Go.Proofs.YtfcmcmokmhklhaaDoor
open Go.RowKit
theorem Lw.num (x : Int) (w : World) : Calls Tryd.prog 11 #[.int .i64 x] w fun e w' => e = .returned (.int .i64 x) ∧ w' = w := by
  go_enter Tryd.func11, Tryd.ntmps11
  go_wp2
  go_ret
  exact ⟨rfl, rfl⟩
/-- pieces that lie in one block, laid anew -/
theorem Lw.lit {w : World} {g : Nat} {cs : Array Value} (ps : List Pc) (n : Nat) (h : Bs.Box w g cs 33) (hn : ps.length = n) (hm : n ≤ 1000) (hc : cs.toList = Pc.cells ps) : Pc.Lies w (fun k => k = g) ps (.slice (some ⟨g, 0, none⟩) n n) := by
  subst hn
  refine ⟨_, _, rfl, Nat.le_refl _, by unfold maxLen; omega, fun j x hj => ?_⟩
  obtain ⟨h1, h2, h3⟩ := Pc.cells_get ps j x hj
  rw [← hc] at h1 h2 h3
  exact ⟨g, 0, rfl, rfl, h.cell _ (by rw [Nat.zero_add, ← h1]; simp), h.cell _ (by rw [Nat.zero_add, ← h2]; simp), h.cell _ (by rw [Nat.zero_add, ← h3]; simp)⟩
theorem Lw.drewN {B : Nat} {a w : World} (h : Below B a w) (n : Nat) : Below B a (w.drewN n) := ⟨h.os, h.tape, h.output, h.size, h.block⟩
/-- pieces that lay below stay -/
theorem Pc.Lies.below {w w' : World} {B : Nat} {ps : List Pc} {v : Value} (h : Pc.Lies w (fun k => B ≤ k ∧ k < w.heap.size) ps v) (hb : Below w.heap.size w w') : Pc.Lies w' (fun k => B ≤ k ∧ k < w'.heap.size) ps v :=
  h.on fun k hk => ⟨⟨hk.1, Nat.lt_of_lt_of_le hk.2 hb.size⟩, hb.block k hk.2⟩
set_option maxRecDepth 100000 in
theorem Lw.split1 : Lx.split ⟨#[97, 32, 123, 123, 45, 32, 46, 120, 32, 45, 125, 125, 32, 98, 13, 10, 123, 123, 47, 42, 32, 99, 32, 42, 47, 125, 125, 123, 123, 34, 125, 125, 34, 125, 125]⟩ = ([⟨false, [97], 0⟩, ⟨true, [46, 120], 2⟩, ⟨false, [98, 10], 12⟩, ⟨true, [34, 125, 125, 34], 26⟩], 0) := by kernel_rfl
theorem Lw.split2 : Lx.split ⟨#[123, 123, 32, 120]⟩ = ([], 1300) := by kernel_rfl
set_option maxRecDepth 100000 in
set_option maxHeartbeats 2000000 in
theorem Lw.awake (w : World) (hT : Lp.T w) : Calls Tryd.prog 12 #[] w fun e w' => e = .returned (.bool true) ∧ Below w.heap.size w w' := by
  have c1 := fun u h => Lp.split ⟨#[97, 32, 123, 123, 45, 32, 46, 120, 32, 45, 125, 125, 32, 98, 13, 10, 123, 123, 47, 42, 32, 99, 32, 42, 47, 125, 125, 123, 123, 34, 125, 125, 34, 125, 125]⟩ u h
  have c2 := fun u h => Lp.split ⟨#[123, 123, 32, 120]⟩ u h
  rw [Lw.split1] at c1
  rw [Lw.split2] at c2
  have HT := Lib.hid hT
  have nm := fun x u => Lw.num x u
  clear hT
  go_enter Tryd.func12, Tryd.ntmps12
  go_wp2_with (first | (go_at_call 8; refine (c1 _ HT.out).mono ?_; rintro e w1 ⟨v1, rfl, l1, b1⟩; have HL1 := Lib.hid l1; have HB1 := Lib.hid b1; clear l1 b1 c1) | (go_at_call 8; refine (c2 _ (HT.out.on HB1.out)).mono ?_; rintro e w2 ⟨v2, rfl, l2, b2⟩; have HL2 := Lib.hid (Pc.Lies.below HL1.out b2); have HB2 := Lib.hid (Wk.below_step HB1.out b2); clear l2 b2 c2 HL1) | (go_at_call 10; refine (Sa.pieces _ _ _ _ _ _ (HL2.out.below ((Below.refl _ _).alloc (Nat.le_refl _) _)) (Lw.lit [⟨false, [97], 0⟩, ⟨true, [46, 120], 2⟩, ⟨false, [98, 10], 12⟩, ⟨true, [34, 125, 125, 34], 26⟩] 4 (Bs.Box.new _ _ _ _ rfl) rfl (by decide) rfl)).mono ?_; rintro e w3 ⟨rfl, n3, rfl⟩) | (go_at_call 11; refine (nm _ _).mono ?_; rintro e w' ⟨rfl, hw⟩; have hw := hw.symm; subst hw))
  go_ret
  exact ⟨rfl, Lw.drewN (HB2.out.alloc HB2.out.size _) _⟩
end Go.Proofs.YtfcmcmokmhklhaaDoor

/-
  THE WALK of stolelaw15.PipeMays: it returns true.
-/
import Derived.Test.YtjmobhohfcieoaaIBads
namespace Go.Proofs.Ytjmobhohfcieoaa
open Go.RowKit
set_option maxRecDepth 100000 in
set_option maxHeartbeats 4000000 in
theorem Law.pipeMays (ws : List Wi) (v1 : Value) (x : Int) (w : World) (hT : Ip.T w) (h1 : Dt.Lies w (· < w.heap.size) (Wi.rows ws) v1) (hw : Wi.Fits ws) :
    Calls Try.prog 4 #[v1, .int .i64 x] w fun e w' => e = .returned (.bool true) ∧ Below w.heap.size w w' := by
  have lw := fun (u : World) (hb : Below w.heap.size w u) => (show Dt.Lies u (· < w.heap.size) (Wi.rows ws) v1 from h1.on fun k hk => ⟨hk, hb.block k hk⟩)
  have ps := fun u (h : Ip.T u) l => Ip.parse ws v1 (· < w.heap.size) u h l hw
  obtain ⟨_, hheld⟩ := Pi.parse_few hw
  have hpm := Pi.parse_may ws
  have cy := fun v R u l => Cy.own (Pi.parse ws).1 v R u l hheld.small
  have my := fun v R u (h : Ip.T u) l => Ip.may (Pi.parse ws).1 v R u h l hheld
  have aw := fun u h => Iw.awake u h
  have nm := fun x u => Iw.num x u
  have HT := Lib.hid hT
  have LW := Lib.hid lw
  generalize (Pi.parse ws).1 = X at *
  generalize (Pi.parse ws).2 = E at *
  have HH := Lib.hid hheld
  clear hT h1 lw hheld
  obtain ⟨M, hmk, hM⟩ := Iw.made
  have HM := Lib.hid hM
  obtain ⟨q, hq, hz, hz2⟩ := Iw.index8 x
  have hq8 : (q : Int) < 8 := by omega
  have hq0 : (0 : Int) ≤ (q : Int) := by omega
  clear hM
  rcases hpm with ⟨rfl, hm, hl1, hl8⟩ | ⟨rfl, hE⟩
  · obtain ⟨c, hc⟩ : ∃ c, Pi.bads[q]? = some c := ⟨_, List.getElem?_eq_getElem (show q < Pi.bads.length from hq)⟩
    have mp := fun v R u (h : Ip.T u) l => Ip.may X v R u h l HH.out
    rw [hm] at mp
    have mq := fun v R u (h : Ip.T u) l => Ip.may (X ++ [c]) v R u h l (Iw.held_snoc HH.out hl8 hc)
    rw [Pi.bad_may hl1 hc] at mq
    have hd8 : decide ((X.length : Int) ≤ 8) = true := decide_eq_true (by omega)
    clear my hm
    go_enter Try.func4, Try.ntmps4
    go_upto_region 7 with (first | (go_at_call 15; with_reducible refine Calls.mono (aw _ HT.out) ?_; rintro e w1 ⟨rfl, b1⟩; have HB1 := Lib.hid b1; clear b1) | (go_at_call 7; with_reducible refine Calls.mono (ps _ (HT.out.on HB1.out) (LW.out _ HB1.out)) ?_; rintro e w2 ⟨a2, rfl, l2, b2⟩; obtain ⟨p2, e2, rfl, _, _, _⟩ := id (Cm.get l2); have HL2 := Lib.hid l2; have HB2 := Lib.hid (Wk.below_step HB1.out b2); clear l2 b2) | (go_at_call 10; refine (nm _ _).mono ?_; rintro e w6 ⟨rfl, hw⟩; have hw := hw.symm; subst hw))
    have hBW := Iw.bw_below M w2
    have hbl := Iw.badsLies M HM.out w2 (fun k => w2.heap.size ≤ k ∧ k < (Iw.bw M w2).heap.size ∧ Rm.Ub (Iw.bw M w2) k) (fun k h1 h2 => ⟨h1, by rw [Iw.bw_size]; exact h2, Iw.bw_ub M w2 k h1 (by rw [Iw.bw_size]; exact h2)⟩)
    obtain ⟨W3, hW3⟩ : ∃ W3, Iw.bw M w2 = W3 := ⟨_, rfl⟩
    rw [hW3] at hBW hbl
    unfold Iw.bw at hW3
    rw [hW3]
    have HB3 := Lib.hid (Wk.below_step HB2.out hBW)
    have hs23 := hBW.size
    have HA3 := Lib.hid (fun (u : World) (hb : Below W3.heap.size W3 u) => (HL2.out.later hBW).later hb)
    obtain ⟨av, c0, c1, hl⟩ := Iw.bad_get hbl q c hc
    obtain ⟨a3, d3, rfl, hd3, hm3, hx3⟩ := Ar.get hl
    have HL := Lib.hid hl
    obtain ⟨F, hF⟩ : ∃ F : ByteArray, (⟨c.fn.toArray⟩ : ByteArray) = F := ⟨_, rfl⟩
    rw [hF] at c0
    have HF := Lib.hid hF.symm
    have cp := fun (u : World) (hb : Below W3.heap.size W3 u) => cy (.slice p2 X.length e2) (fun _ => True) u (HA3.out u hb)
    have HS23 := Lib.hid hs23
    clear hl hx3 hm3 hd3 hF hbl hBW hW3 cy hs23
    clear hmk HM HL2
    generalize w2.heap.size + 1 + 1 + 1 + 1 + 1 + 1 = G at *
    go_region_law (first | (refine Ro.step_push rfl (.tmp 53) (.tmp 61) 23 38 2 40 _ rfl Try.underlying23 Cm.info rfl (by decide) (.slice a4 X.length d4) (by simp [Act.eval]) (HO4.out.own.alloc _) w4.heap.size (Cm.two F (.slice a3 c.args.length d3)) (by simp [Act.eval]) (Gr.cells w4 (Cm.two F (.slice a3 c.args.length d3)) 38) rfl (Cm.ones _ _ _ _) (by unfold maxLen; omega) (by omega) (by have := HB4.out.size; have := HS23.out; first | omega | (simp; omega)) ?_; intro v7 w7 R7 hg7 hf7; obtain ⟨⟨a7, d7, rfl⟩, l7, b7⟩ := Iw.pushed (W := W3) HO4.out HF.out HL4.out (Pr.boxed w4 _) R7 hg7 hf7 HB4.out HW4.out; have HL7 := Lib.hid l7; have HB7 := Lib.hid b7; clear l7 b7 R7 hg7 hf7) | (refine Ro.step_push rfl (.tmp 53) (.tmp 61) 23 38 2 40 _ rfl Try.underlying23 Cm.info rfl (by decide) (.slice a4 X.length d4) (by simp [Act.eval]) HO4.out.own W3.heap.size (Cm.two F (.slice a3 c.args.length d3)) (by simp [Act.eval]) HG.out rfl (Cm.ones _ _ _ _) (by unfold maxLen; omega) (by omega) (by have := HB4.out.size; have := HS23.out; first | omega | (simp; omega)) ?_; intro v7 w7 R7 hg7 hf7; obtain ⟨⟨a7, d7, rfl⟩, l7, b7⟩ := Iw.pushed (W := W3) HO4.out HF.out HL4.out (Below.refl _ _) R7 hg7 hf7 HB4.out HW4.out; have HL7 := Lib.hid l7; have HB7 := Lib.hid b7; clear l7 b7 R7 hg7 hf7) | (rw [if_pos (by simp [Region.wanted])]; go_simp; go_at_call 12; refine (cp ((W3.alloc (.cells #[.string F, .slice a3 c.args.length d3] 38)).drew) (((Below.refl W3.heap.size W3).alloc (Nat.le_refl _) _).drew)).mono ?_; rintro e w4 ⟨a4, d4, xs, rfl, ho, b4⟩; have HG : Hid (∀ j u, (Cm.two F (.slice a3 c.args.length d3))[j]? = some u → w4.cell? ⟨W3.heap.size, j, none⟩ = some u) := fun j u h => Tp.keep b4 (Gr.cells W3 (Cm.two F (.slice a3 c.args.length d3)) 38 j u h); have hbu : Below W3.heap.size W3 (W3.alloc (.cells #[.string F, .slice a3 c.args.length d3] 38)).drew := ((Below.refl W3.heap.size W3).alloc (Nat.le_refl _) (.cells #[.string F, .slice a3 c.args.length d3] 38)).drew; have c0 := Tp.keep (Wk.below_step hbu b4) c0; have c1 := Tp.keep (Wk.below_step hbu b4) c1; have HL4 := Lib.hid (Iw.args4 HL.out hbu ho b4); have HW4 := Lib.hid (fun (k : Nat) (e : (Value.slice a4 X.length d4).ownBlock = some k) => Nat.le_trans hbu.size (ho.own.lt k e).1); have HO4 := Lib.hid (ho.older (Nat.le_trans HS23.out hbu.size)); have HB4 := Lib.hid (Wk.below_step hbu b4); clear ho b4 hbu) | (rw [if_pos (by simp [Region.wanted])]; go_simp; go_at_call 12; refine (cp _ (by exact (Below.refl _ _).drew)).mono ?_; rintro e w4 ⟨a4, d4, xs, rfl, ho, b4⟩;  have hbu : Below W3.heap.size W3 W3.drew := (Below.refl W3.heap.size W3).drew; have c0 := Tp.keep (Wk.below_step hbu b4) c0; have c1 := Tp.keep (Wk.below_step hbu b4) c1; have HL4 := Lib.hid (Iw.args4 HL.out hbu ho b4); have HW4 := Lib.hid (fun (k : Nat) (e : (Value.slice a4 X.length d4).ownBlock = some k) => Nat.le_trans hbu.size (ho.own.lt k e).1); have HO4 := Lib.hid (ho.older (Nat.le_trans HS23.out hbu.size)); have HB4 := Lib.hid (Wk.below_step hbu b4); clear ho b4 hbu))
    all_goals go_wp2_with (first | (go_at_call 13; with_reducible refine Calls.mono (mp _ _ _ (HT.out.on (Wk.below_step HB3.out HB7.out)) (HA3.out _ HB7.out)) ?_; rintro e w8 ⟨rfl, b8⟩; have HB8 := Lib.hid (Wk.below_step HB7.out b8); have HL8 := Lib.hid (HL7.out.later b8); clear b8 HL7) | (go_at_call 13; with_reducible refine Calls.mono (mq _ _ _ (HT.out.on (Wk.below_step HB3.out HB8.out)) HL8.out) ?_; rintro e w9 ⟨rfl, b9⟩; have HB9 := Lib.hid (Wk.below_step HB8.out b9); clear b9))
    all_goals go_ret
    all_goals exact ⟨rfl, Wk.below_step HB3.out HB9.out⟩
  · have hE5 : (E == 1500 || E == 1501) = true := by rcases hE with rfl | rfl <;> rfl
    have hE0 : (E != 0) = true := by rcases hE with rfl | rfl <;> rfl
    rcases hE with rfl | rfl
    all_goals
      go_enter Try.func4, Try.ntmps4
      go_wp2_with (first | (go_at_call 15; with_reducible refine Calls.mono (aw _ HT.out) ?_; rintro e w1 ⟨rfl, b1⟩; have HB1 := Lib.hid b1; clear b1) | (go_at_call 7; with_reducible refine Calls.mono (ps _ (HT.out.on HB1.out) (LW.out _ HB1.out)) ?_; rintro e w2 ⟨a2, rfl, l2, b2⟩; have HB2 := Lib.hid (Wk.below_step HB1.out b2); obtain ⟨_, _, rfl, _, _, _⟩ := Cm.get l2; clear l2 b2) | (go_at_call 10; refine (nm _ _).mono ?_; rintro e w6 ⟨rfl, hw⟩; have hw := hw.symm; subst hw))
      go_ret
      exact ⟨rfl, HB2.out⟩
end Go.Proofs.Ytjmobhohfcieoaa

/-
  THE WALK of stolelaw15.Pipes: it returns true.
-/
import Derived.Test.YtjmobhohfcieoaaIAw
import Derived.Test.YtjmobhohfcieoaaIFew
namespace Go.Proofs.Ytjmobhohfcieoaa
open Go.RowKit
theorem Sw.Rel.below {R : Nat → Prop} {n B : Nat} {w w1 w2 : World} (h : Sw.Rel R n w1 w2) (hb : Below B w w1) (hR : ∀ k, R k → B ≤ k) : Below B w w2 :=
  ⟨h.os.trans hb.os, h.tape.trans hb.tape, h.output.trans hb.output, by rw [h.size]; exact hb.size, fun k hk => (h.out k (fun q => by have := hR k q; omega)).trans (hb.block k hk)⟩
theorem Pi.mine {w1 w2 w3 : World} {B : Nat} {t : Dt} {v : Value} (h : Dt.Lies w1 (fun k => B ≤ k ∧ k < w1.heap.size ∧ Rm.Ub w1 k) t v) (b2 : Below w1.heap.size w1 w2) (b3 : Below w2.heap.size w2 w3) : Dt.Lies w3 (fun k => B ≤ k ∧ k < w1.heap.size ∧ Rm.Ub w3 k) t v :=
  h.on fun k hk => by
    have e := (b2.trans (b3.mono b2.size)).block k hk.2.1
    exact ⟨⟨hk.1, hk.2.1, hk.2.2.on e⟩, e⟩
theorem Pi.theirs {w1 w2 w3 w4 : World} {B n : Nat} {t : Dt} {v : Value} (h : Dt.Lies w2 (fun k => w1.heap.size ≤ k ∧ k < w2.heap.size ∧ Rm.Ub w2 k) t v) (b3 : Below w2.heap.size w2 w3) (q : Sw.Rel (fun k => B ≤ k ∧ k < w1.heap.size ∧ Rm.Ub w3 k) n w3 w4) : Dt.Lies w4 (fun _ => True) t v :=
  h.on fun k hk => ⟨trivial, (q.out k (fun r => by have := r.2.1; have := hk.1; omega)).trans (b3.block k hk.2.1)⟩
set_option maxRecDepth 100000 in
set_option maxHeartbeats 4000000 in
theorem Law.pipes (ws : List Wi) (cs : List Cm) (v1 v2 : Value) (w : World) (hT : Ip.T w) (h1 : Dt.Lies w (· < w.heap.size) (Wi.rows ws) v1) (h2 : Dt.Lies w (· < w.heap.size) (Cm.rows cs) v2) (hw : Wi.Fits ws) (hc : Cm.Held cs) :
    Calls Try.prog 3 #[v1, v2] w fun e w' => e = .returned (.bool true) ∧ Below w.heap.size w w' := by
  have lw := fun (u : World) (hb : Below w.heap.size w u) => (show Dt.Lies u (· < w.heap.size) (Wi.rows ws) v1 from h1.on fun k hk => ⟨hk, hb.block k hk⟩)
  have lc := fun (u : World) (hb : Below w.heap.size w u) => (show Dt.Lies u (· < w.heap.size) (Cm.rows cs) v2 from h2.on fun k hk => ⟨hk, hb.block k hk⟩)
  have ps := fun u (h : Ip.T u) l => Ip.parse ws v1 (· < w.heap.size) u h l hw
  have rs := fun u l => Pr.parse ws v1 (· < w.heap.size) u l hw.1 (fun x hx => ⟨by have := (hw.2 x hx).1; omega, fun t ht => by have := (hw.2 x hx).2.2 t ht; omega⟩)
  obtain ⟨hfew, hheld⟩ := Pi.parse_few hw
  have cy := fun u l => Cy.pipe cs v2 (· < w.heap.size) u l hc.small
  have my := fun v R u (h : Ip.T u) l => Ip.may cs v R u h l hc
  have mr := fun u l => Pr.may cs v2 (· < w.heap.size) u l hc.1 hc.fits
  have sp := fun v R u l hU => Sy.pipe (Pi.parse ws).1 v R 32 u l hU hfew (by decide)
  have sa := fun v R v' R' u l l' => Sa.pipe (Pi.parse ws).1 v v' R R' u l l' hheld.1
  have sb := fun v R v' R' u l l' => Sa.pipe cs v v' R R' u l l' hc.1
  have aw := fun u h => Iw.awake u h
  have nm := fun x u => Iw.num x u
  have HT := Lib.hid hT
  have LW := Lib.hid lw
  have LC := Lib.hid lc
  generalize (Pi.parse ws).1 = X at *
  generalize (Pi.parse ws).2 = E at *
  clear hT h1 h2 lw lc hfew hheld
  go_enter Try.func3, Try.ntmps3
  go_wp2_with (first | (go_at_call 7; with_reducible refine Calls.mono (ps _ HT.out (LW.out _ (Below.refl _ _))) ?_; rintro e w1 ⟨a1, rfl, l1, b1⟩; have HL1 := Lib.hid l1; have HB1 := Lib.hid b1; clear l1 b1) | (go_at_call 8; with_reducible refine Calls.mono (rs _ (LW.out _ HB1.out)) ?_; rintro e w2 ⟨a2, rfl, l2, b2⟩; have HL2 := Lib.hid l2; have HM1 := Lib.hid (HL1.out.later b2); have HV2 := Lib.hid b2; have HB2 := Lib.hid (Wk.below_step HB1.out b2); clear l2 b2 rs) | (go_at_call 9; with_reducible refine Calls.mono (sa _ _ _ _ _ HM1.out HL2.out) ?_; rintro e w3 ⟨rfl, b3⟩; have HM3 := Lib.hid (Pi.mine HL1.out HV2.out b3); have HV3 := Lib.hid b3; have HB3 := Lib.hid (Wk.below_step HB2.out b3); clear b3 HM1 HL1) | (go_at_call 11; with_reducible refine Calls.mono (sp _ _ _ HM3.out (fun k hk => hk.2.2)) ?_; rintro e w4 ⟨rfl, q4⟩; have HL4 := Lib.hid (Pi.theirs HL2.out HV3.out q4); have HB4 := Lib.hid (Sw.Rel.below q4 HB3.out (fun k hk => hk.1)); clear q4 HM3 HL2 HV3 HV2) | (go_at_call 7; with_reducible refine Calls.mono (ps _ (HT.out.on HB4.out) (LW.out _ HB4.out)) ?_; rintro e w5 ⟨a5, rfl, l5, b5⟩; have HC5 := Lib.hid l5; have HL5 := Lib.hid (HL4.out.later b5); have HB5 := Lib.hid (Wk.below_step HB4.out b5); clear l5 b5 HL4) | (go_at_call 12; with_reducible refine Calls.mono (cy _ (LC.out _ HB5.out)) ?_; rintro e w6 ⟨a6, rfl, l6, b6⟩; have HX6 := Lib.hid l6; have HC6 := Lib.hid (HC5.out.later b6); have HL6 := Lib.hid (HL5.out.later b6); have HB6 := Lib.hid (Wk.below_step HB5.out b6); clear l6 b6 HL5 HC5) | (go_at_call 9; with_reducible refine Calls.mono (sa _ _ _ _ _ HC6.out HL6.out) ?_; rintro e w7 ⟨rfl, b7⟩; have HX7 := Lib.hid (HX6.out.later b7); have HB7 := Lib.hid (Wk.below_step HB6.out b7); clear b7 HX6 HC6 HL6) | (go_at_call 13; with_reducible refine Calls.mono (my _ _ _ (HT.out.on HB7.out) HX7.out) ?_; rintro e w8 ⟨rfl, b8⟩; have HX8 := Lib.hid (HX7.out.later b8); have HB8 := Lib.hid (Wk.below_step HB7.out b8); clear b8 HX7) | (go_at_call 14; with_reducible refine Calls.mono (mr _ (LC.out _ HB8.out)) ?_; rintro e w9 ⟨rfl, b9⟩; have HX9 := Lib.hid (HX8.out.later b9); have HB9 := Lib.hid (Wk.below_step HB8.out b9); clear b9 HX8) | (go_at_call 9; with_reducible refine Calls.mono (sb _ _ _ _ _ HX9.out (LC.out _ HB9.out)) ?_; rintro e w10 ⟨rfl, b10⟩; have HB10 := Lib.hid (Wk.below_step HB9.out b10); clear b10 HX9) | (go_at_call 15; with_reducible refine Calls.mono (aw _ (HT.out.on HB10.out)) ?_; rintro e w11 ⟨rfl, b11⟩; have HB11 := Lib.hid (Wk.below_step HB10.out b11); clear b11) | (go_at_call 10; refine (nm _ _).mono ?_; rintro e w6 ⟨rfl, hw⟩; have hw := hw.symm; subst hw))
  go_ret
  exact ⟨rfl, HB11.out⟩
end Go.Proofs.Ytjmobhohfcieoaa

/-
  THE CONTRACTS of the landed pipe.Parse and pipe.May.
-/
import Derived.Test.YtjmobhohfcieoaaKRead
import Derived.Test.YtjmobhohfcieoaaICopy
namespace Go.Proofs.Ytjmobhohfcieoaa
open Go.RowKit
/-- what the program reads of package variables: nothing -/
structure Ip.T (w : World) : Prop where
  out : True
theorem Ip.T.on {w w' : World} (_h : Ip.T w) (_hb : Below w.heap.size w w') : Ip.T w' := ⟨trivial⟩
set_option maxRecDepth 100000 in
set_option maxHeartbeats 4000000 in
theorem Ip.parse (ws : List Wi) (v : Value) (R : Nat → Prop) (w : World) (_hT : Ip.T w) (h : Dt.Lies w R (Wi.rows ws) v) (hz : Wi.Fits ws) : Calls Try.prog 7 #[v] w fun e w' => ∃ v', e = .returned (.tuple #[v', .int .i64 (Pi.parse ws).2]) ∧ Dt.Lies w' (fun b => w.heap.size ≤ b ∧ b < w'.heap.size ∧ Rm.Ub w' b) (Cm.rows (Pi.parse ws).1) v' ∧ Below w.heap.size w w' := by
  have hpa := Kp.parse ws
  have hfi := Kp.read_fine hz
  have hft := Kp.read_fits hz
  have hne : decide (0 < (Kp.read ws).1.length) = true := rfl
  have hat : Kc.At w (w.alloc (.cells #[v, .int .i64 0] 49)) w.heap.size v ws.length 0 := ⟨Bs.Box.new w _ _ _ rfl, (Below.refl _ _).alloc (Nat.le_refl _) _, Nat.le_refl _, Nat.zero_le _⟩
  have cm := Kc.commands hat h hz.1
  obtain ⟨a0, d0, ev, _, _, _⟩ := Wi.get h
  have HT := Lib.hid hat
  have hs1 : (w.alloc (.cells #[v, .int .i64 0] 49)).heap.size = w.heap.size + 1 := by simp
  generalize Kp.read ws = G at *
  obtain ⟨X1, X2, hX⟩ : ∃ X1 X2, Pi.parse ws = (X1, X2) := ⟨_, _, rfl⟩
  rw [hX] at hpa ⊢
  have HX := Lib.hid hpa
  have HFI := Lib.hid hfi
  have HFT := Lib.hid hft
  clear hat h hpa hfi hft hX hz
  simp only
  subst ev
  have hlow : ∀ u, Below w.heap.size w u → Dt.Lies u (fun b => w.heap.size ≤ b ∧ b < u.heap.size ∧ Rm.Ub u b) (Cm.rows []) (.slice none 0 0) := fun u _ => Dt.Lies.nil _ _ _ _
  go_enter Try.func7, Try.ntmps7
  go_upto_region 3 with (go_at_call 16; refine cm.mono ?_; rintro e w2 ⟨v', xs, av, ys, j, rfl, hr, ha, hd, hk⟩; have HR := Lib.hid hr; have HA := Lib.hid ha; have HD := Lib.hid hd; clear hr ha hd hk cm)
  have ov := Kc.isOver HA.out
  by_cases hj : ws.length ≤ j
  · rw [decide_eq_true hj] at ov
    have hG2 : G.2 = [] := HD.out.symm.trans (Kp.at_end hj)
    have fo := fun u (hu : Below w2.heap.size w2 u) => Kf.areFormed G.1 v' (fun _ => True) u (((HR.out.below hu).imp (Q := fun _ _ => St.Lies u (fun _ => True)) fun _ _ _ _ _ _ _ hp => hp.later (HA.out.low.trans (hu.mono HA.out.low.size))).lies fun _ _ _ _ => trivial) HFT.out
    have fe := fun u (hu : Below w2.heap.size w2 u) => Kf.areFew G.1 v' (fun _ => True) u (((HR.out.below hu).imp (Q := fun _ _ => St.Lies u (fun _ => True)) fun _ _ _ _ _ _ _ hp => hp.later (HA.out.low.trans (hu.mono HA.out.low.size))).lies fun _ _ _ _ => trivial)
    have ow := fun u (hu : Below w2.heap.size w2 u) => Ko.own (w0 := w) (HR.out.below hu) (Nat.le_trans (by have := HA.out.lt; omega) hu.size) (by omega) (HA.out.low.trans (hu.mono HA.out.low.size)) HFI.out
    have hne2 := hne
    cases hrow : Kf.row 0 G.1 with
    | false =>
      have hXX := HX.out
      rw [if_neg (fun q => by rw [hrow] at q; cases q.2)] at hXX
      injection hXX with e1 e2
      subst e1 e2
      rw [hrow] at fo
      have hlw := HA.out.low
      have hs2 := hlw.size
      clear HX hG2 HD fe ow hne2 hrow
      go_wp2_with (first | (go_at_call 17; refine ov.mono ?_; rintro e w3 ⟨rfl, n1, rfl⟩; have B3 : Hid (Below w2.heap.size w2 (w2.drewN n1)) := ((Kc.Kept.refl w2 w2.heap.size).drewN n1).low (Below.refl _ _) (Nat.le_refl _)) | (go_at_call 18; refine (fo _ B3.out).mono ?_; rintro e w4 ⟨rfl, b4⟩; have B4 := Lib.hid (B3.out.trans (b4.mono B3.out.size)); clear b4 fo))
      go_ret2
      exact ⟨.slice none 0 0, rfl, Dt.Lies.nil _ _ _ _, hlw.trans (B4.out.mono hs2)⟩
    | true =>
      rw [hrow, hne, Bool.and_true] at fo
      cases hfew : Kf.few G.1 with
      | false =>
        have hXX := HX.out
        rw [if_pos ⟨hG2, hrow⟩, hfew, if_neg (by decide)] at hXX
        injection hXX with e1 e2
        subst e1 e2
        rw [hfew] at fe
        have hlw := HA.out.low
        have hs2 := hlw.size
        clear HX hG2 HD ow hne2 hrow hfew
        go_wp2_with (first | (go_at_call 17; refine ov.mono ?_; rintro e w3 ⟨rfl, n1, rfl⟩; have B3 : Hid (Below w2.heap.size w2 (w2.drewN n1)) := ((Kc.Kept.refl w2 w2.heap.size).drewN n1).low (Below.refl _ _) (Nat.le_refl _)) | (go_at_call 18; refine (fo _ B3.out).mono ?_; rintro e w4 ⟨rfl, b4⟩; have B4 := Lib.hid (B3.out.trans (b4.mono B3.out.size)); clear b4 fo) | (go_at_call 19; refine (fe _ B4.out).mono ?_; rintro e w5 ⟨rfl, b5⟩; have B5 := Lib.hid (B4.out.trans (b5.mono B4.out.size)); clear b5 fe))
        go_ret2
        exact ⟨.slice none 0 0, rfl, Dt.Lies.nil _ _ _ _, hlw.trans (B5.out.mono hs2)⟩
      | true =>
        have hXX := HX.out
        rw [if_pos ⟨hG2, hrow⟩, hfew, if_pos rfl] at hXX
        injection hXX with e1 e2
        subst e1 e2
        rw [hfew] at fe
        obtain ⟨a9, d9, rfl⟩ := Gr.form HR.out.own
        clear HX hG2 HD hne2 hrow hfew
        go_wp2_with (first | (go_at_call 17; refine ov.mono ?_; rintro e w3 ⟨rfl, n1, rfl⟩; have B3 : Hid (Below w2.heap.size w2 (w2.drewN n1)) := ((Kc.Kept.refl w2 w2.heap.size).drewN n1).low (Below.refl _ _) (Nat.le_refl _)) | (go_at_call 18; refine (fo _ B3.out).mono ?_; rintro e w4 ⟨rfl, b4⟩; have B4 := Lib.hid (B3.out.trans (b4.mono B3.out.size)); clear b4 fo) | (go_at_call 19; refine (fe _ B4.out).mono ?_; rintro e w5 ⟨rfl, b5⟩; have B5 := Lib.hid (B4.out.trans (b5.mono B4.out.size)); clear b5 fe) | (go_at_call 20; refine (ow _ B5.out).mono ?_; rintro e w6 ⟨rfl, h6, b6⟩; have H6 := Lib.hid h6; have B6 := Lib.hid b6; clear h6 b6 ow))
        go_ret2
        exact ⟨_, rfl, H6.out, B6.out⟩
  · rw [decide_eq_false hj] at ov
    have hG2 : ¬ G.2 = [] := fun e => hj (by have := HD.out.trans e; rwa [List.drop_eq_nil_iff] at this)
    have hXX := HX.out
    rw [if_neg (fun q => hG2 q.1)] at hXX
    injection hXX with e1 e2
    subst e1 e2
    clear HX hG2 HD
    go_wp2_with (go_at_call 17; refine ov.mono ?_; rintro e w3 ⟨rfl, n1, rfl⟩)
    go_ret2
    exact ⟨.slice none 0 0, rfl, Dt.Lies.nil _ _ _ _, (HA.out.drewN n1).low⟩
theorem Cm.Held.small {cs : List Cm} (h : Cm.Held cs) : Cm.Small cs := ⟨h.1, fun c hc => ⟨(h.2 c hc).2.1, fun x hx => ((h.2 c hc).2.2 x hx).2.2.1⟩⟩
theorem Ip.may (cs : List Cm) (v : Value) (R : Nat → Prop) (w : World) (_hT : Ip.T w) (h : Dt.Lies w R (Cm.rows cs) v) (hz : Cm.Held cs) : Calls Try.prog 13 #[v] w fun e w' => e = .returned (.bool (Pi.may cs)) ∧ Below w.heap.size w w' := Kf.may cs v R w h hz.fits
end Go.Proofs.Ytjmobhohfcieoaa

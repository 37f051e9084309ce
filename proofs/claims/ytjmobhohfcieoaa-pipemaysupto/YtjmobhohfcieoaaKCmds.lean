/-
  THE WALK of the landed commands.
-/
import Derived.Test.YtjmobhohfcieoaaKRow2
import Derived.Test.YtjmobhohfcieoaaKCmd
namespace Go.Proofs.Ytjmobhohfcieoaa
open Go.RowKit
/-- rows whose paths lie in w0 -/
abbrev Kr.In (w0 : World) : Nat → Nat → List (List UInt8) → Value → Prop := fun _ _ => St.Lies w0 (fun _ => True)
theorem Kp.more_step {n j : Nat} {ws : List Wi} (h : Kp.isBar (ws.drop j) = true) : Kp.more (n + 1) (ws.drop j) = (Kp.cmd (ws.drop (j + 1)) :: (Kp.more n (Kp.left (ws.drop (j + 1)))).1, (Kp.more n (Kp.left (ws.drop (j + 1)))).2) := by
  show (if Kp.isBar (ws.drop j) = true then _ else _) = _
  rw [if_pos h, List.tail_drop]
theorem Kp.more_stop {n : Nat} {l : List Wi} (h : Kp.isBar l = false) : Kp.more n l = ([], l) := by
  cases n with
  | zero => rfl
  | succ n =>
    show (if Kp.isBar l = true then _ else _) = _
    rw [h]
    rfl
theorem Kp.bar_lt {ws : List Wi} {j : Nat} (h : Kp.isBar (ws.drop j) = true) : j < ws.length := by
  by_cases q : j < ws.length
  · exact q
  · rw [Kp.at_end (by omega)] at h
    cases h
/-- what commands answers -/
def Kc.Out (w0 w w' : World) (g : Nat) (ws : List Wi) (v : Value) (G : List Cm × List Wi) (e : Ending) : Prop := ∃ v' xs av ys j, e = .returned v' ∧ Kr.Cmds w' w.heap.size (Kr.In w0) G.1 v' xs av ys ∧ Kc.At w0 w' g v ws.length j ∧ ws.drop j = G.2 ∧ Kc.Kept w w' g
theorem Kc.apart {w : World} {base : Nat} {P : Nat → Nat → List (List UInt8) → Value → Prop} {cs : List Cm} {v u : Value} {xs : List Value} {av : Nat → Value} {ys : Nat → List Value} (h : Kr.Cmds w base P cs v xs av ys) (hu : ∀ b, u.ownBlock = some b → w.heap.size ≤ b) : ∀ b, u.ownBlock = some b → v.ownBlock ≠ some b ∧ ∀ i, i < cs.length → (av i).ownBlock ≠ some b :=
  fun b hb => ⟨fun q => by have := hu b hb; have := (h.own.lt b q).2; omega, fun i hi q => by have := hu b hb; have := ((h.args i cs[i] (List.getElem?_eq_getElem hi)).own.lt b q).2; omega⟩
set_option maxRecDepth 100000 in
set_option maxHeartbeats 8000000 in
theorem Kc.commands {w0 w : World} {g : Nat} {ws : List Wi} {v : Value} {R : Nat → Prop} (h : Kc.At w0 w g v ws.length 0) (hl : Dt.Lies w0 R (Wi.rows ws) v) (hz : ws.length ≤ 1048576) :
    Calls Try.prog 16 #[.pointer (some ⟨g, 0, none⟩)] w fun e w' => Kc.Out w0 w w' g ws v (Kp.read ws) e := by
  have fu := fun i u (hu : Kc.At w0 u g v ws.length i) => Kc.command hu hl hz
  have sk := fun i u (hu : Kc.At w0 u g v ws.length i) => Kc.skipPipe hu hl
  obtain ⟨G, hG⟩ : ∃ G, Kp.read ws = G := ⟨_, rfl⟩
  rw [hG]
  have HG : Hid ((Kp.cmd (ws.drop 0) :: (Kp.more ws.length (Kp.left (ws.drop 0))).1, (Kp.more ws.length (Kp.left (ws.drop 0))).2) = G) := hG
  have H := Lib.hid h
  have hgw := h.lt
  obtain ⟨c0, hc0⟩ : ∃ c0, Kp.cmd (ws.drop 0) = c0 := ⟨_, rfl⟩
  have fu0 := fu 0
  rw [hc0] at fu0 HG
  clear h hl hG hc0
  go_enter Try.func16, Try.ntmps16
  go_wp2_with (go_at_call 27; refine (fu0 _ H.out).mono ?_; rintro e w1 ⟨a1, d1, zs, j, rfl, ha, hj, h1, hd, k1⟩; have HA := Lib.hid ha; have H1 := Lib.hid h1; have HD := Lib.hid hd; have K1 := Lib.hid k1; clear ha h1 hd k1 fu0)
  have hs1 := K1.out.size
  have HO2 := Lib.hid (Kr.Cmds.one (P := Kr.In w0) HA.out.gen hs1)
  have H2 := Lib.hid (H1.out.then ((Below.refl _ _).alloc (Nat.le_refl _) (.cells #[.string ⟨c0.fn.toArray⟩, .slice a1 c0.args.length d1] 38)))
  have K2 := Lib.hid (K1.out.alloc (.cells #[.string ⟨c0.fn.toArray⟩, .slice a1 c0.args.length d1] 38))
  have HG2 : Hid (([c0] ++ (Kp.more ws.length (ws.drop j)).1, (Kp.more ws.length (ws.drop j)).2) = G) := by rw [HD.out]; exact HG.out
  clear HG H1 HA HD K1
  generalize w1.alloc (.cells #[.string ⟨c0.fn.toArray⟩, .slice a1 c0.args.length d1] 38) = w2 at *
  go_loopw [3] (fun pv wr => ∃ (n j : Nat) (cs : List Cm) (a1 : Option Addr) (d1 : Nat) (xs : List Value) (av : Nat → Value) (ys : Nat → List Value), pv = .slice a1 cs.length d1 ∧ cs.length ≤ j + 1 ∧ (ws.drop j).length ≤ n ∧ Hid ((cs ++ (Kp.more n (ws.drop j)).1, (Kp.more n (ws.drop j)).2) = G) ∧ Hid (Kr.Cmds wr w.heap.size (Kr.In w0) cs (.slice a1 cs.length d1) xs av ys) ∧ Hid (Kc.At w0 wr g v ws.length j) ∧ Hid (Kc.Kept w wr g)) (fun _ wr => ws.length - (intOf ((wr.cell? ⟨g, 1, none⟩).getD undef)).toNat)
  case atStart => exact ⟨ws.length, j, [c0], _, _, _, _, _, rfl, by simp, by rw [List.length_drop]; omega, HG2, HO2, H2, K2⟩
  case round =>
    clear HG2 HO2 H2 K2 H
    obtain ⟨n, j, cs, a1, d1, xs, av, ys, rfl, hcl, hn, HG, HO, H, K⟩ := hrel
    have HM := Lib.hid H.out.c1
    have sk := sk j _ H.out
    cases hb : Kp.isBar (ws.drop j) with
    | false =>
      rw [hb] at sk
      have hfin : (cs, ws.drop j) = G := by
        have := HG.out
        rw [Kp.more_stop hb, List.append_nil] at this
        exact this
      subst hfin
      go_wp2_with (go_at_call 28; refine sk.mono ?_; rintro e w3 ⟨rfl, h3, k3⟩; have HO3 := Lib.hid (HO.out.kept k3 hgw); have K3 := Lib.hid (K.out.trans k3); have H3 := Lib.hid h3; clear h3 k3 sk)
      go_ret
      exact ⟨_, xs, av, ys, j, rfl, HO3.out, H3.out, rfl, K3.out⟩
    | true =>
      rw [hb] at sk
      have hlt := Kp.bar_lt hb
      have hlen : (ws.drop j).length = ws.length - j := List.length_drop
      obtain ⟨n, rfl⟩ : ∃ m, n = m + 1 := ⟨n - 1, by omega⟩
      have hst := HG.out
      rw [Kp.more_step hb] at hst
      have fu1 := fu (j + 1)
      generalize Kp.cmd (ws.drop (j + 1)) = c at *
      have HST := Lib.hid hst
      clear hst hb HG fu
      go_wp2_with (first | (go_at_call 28; refine sk.mono ?_; rintro e w3 ⟨rfl, h3, k3⟩; have HO3 := Lib.hid (HO.out.kept k3 hgw); have K3 := Lib.hid (K.out.trans k3); have H3 := Lib.hid h3; clear h3 k3 sk) | (go_at_call 27; refine (fu1 _ H3.out).mono ?_; rintro e w4 ⟨a4, d4, zs, j4, rfl, ha, hj4, h4, hd4, k4⟩; have HO4 := Lib.hid (HO3.out.kept k4 hgw); have HA := Lib.hid (ha.gen.lower (show w.heap.size ≤ w3.heap.size from K3.out.size)); have H4 := Lib.hid h4; have HD := Lib.hid hd4; have K4 := Lib.hid (K3.out.trans k4); have HAP : Hid (∀ b, (Value.slice a4 c.args.length d4).ownBlock = some b → (Value.slice a1 cs.length d1).ownBlock ≠ some b ∧ ∀ i, i < cs.length → (av i).ownBlock ≠ some b) := Kc.apart HO3.out (fun b hb => (ha.own.lt b hb).1); clear ha h4 hd4 k4 fu1) | (at_builtin; refine Ro.push rfl _ _ 23 38 2 40 _ rfl Try.underlying23 Cm.info rfl (by decide) _ rfl (HO4.out.own.alloc _) w4.heap.size (Cm.two ⟨c.fn.toArray⟩ (.slice a4 c.args.length d4)) rfl (Gr.cells w4 (Cm.two ⟨c.fn.toArray⟩ (.slice a4 c.args.length d4)) 38) rfl (Cm.ones _ _ _ _) (by unfold maxLen; omega) (by omega) (by have := K4.out.size; simp; omega) ?_; intro v7 w7 R7 hg7 hf7; have HN7 := Lib.hid (HO4.out.push HA.out HAP.out ((Below.refl w4.heap.size w4).alloc (Nat.le_refl _) _) R7 hg7 hf7); obtain ⟨a7, d7, rfl⟩ := Gr.form R7; have B7 : Below w.heap.size w4 w7 := ((Below.refl w.heap.size w4).alloc K4.out.size _).grown hg7 (by have := K4.out.size; simp; omega) (fun k e => (HO4.out.own.lt k e).1); have H7 := Lib.hid (H4.out.upon B7 hgw); have K7 := Lib.hid (K4.out.upon B7 (Nat.le_refl _)); clear R7 hg7 hf7 B7))
      have HST2 : Hid (((cs ++ [c]) ++ (Kp.more n (ws.drop j4)).1, (Kp.more n (ws.drop j4)).2) = G) := by
        unfold Hid
        rw [HD.out, List.append_assoc]
        exact HST.out
      have el : (cs ++ [c]).length = cs.length + 1 := by rw [List.length_append]; rfl
      go_roundw
      case rel => exact ⟨n, j4, cs ++ [c], a7, d7, _, _, _, by rw [el], by omega, by rw [List.length_drop]; omega, HST2, by rw [el]; exact HN7, H7, K7⟩
      case measure => rw [HM.out, H7.out.c1]; simp [intOf]; omega
end Go.Proofs.Ytjmobhohfcieoaa

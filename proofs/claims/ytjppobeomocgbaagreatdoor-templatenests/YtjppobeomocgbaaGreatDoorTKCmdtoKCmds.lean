/-
  THE WALK of the landed command.
-/
import Derived.Test.YtjppobeomocgbaaGreatDoorTKArg2toKRow
import Derived.Test.YtjppobeomocgbaaGreatDoorTKRow2toNTop
namespace Go.Proofs.YtjppobeomocgbaaGreatDoor
open Go.RowKit
/-- seen through writes behind B -/
theorem Kc.Kept.upon {w w1 w2 : World} {g B : Nat} (h : Kc.Kept w w1 g) (hb : Below B w1 w2) (hB : w.heap.size ≤ B) : Kc.Kept w w2 g :=
  ⟨hb.os.trans h.os, hb.tape.trans h.tape, hb.output.trans h.output, Nat.le_trans h.size hb.size, fun k hk hg => (hb.block k (Nat.lt_of_lt_of_le hk hB)).trans (h.block k hk hg)⟩
theorem Kc.At.upon {w0 w w' : World} {g n i B : Nat} {v : Value} (h : Kc.At w0 w g v n i) (hb : Below B w w') (hg : g < B) : Kc.At w0 w' g v n i := ⟨Bs.Box.on h.box hb hg, h.low.trans (hb.mono (by have := h.old; omega)), h.old, h.le⟩
theorem Kc.At.setNew {w0 w : World} {g n i b k : Nat} {v u : Value} (h : Kc.At w0 w g v n i) (hb : w0.heap.size ≤ b) (hne : g ≠ b) : Kc.At w0 (w.setCell ⟨b, k, none⟩ u) g v n i := ⟨(Below.heap_setCell _ _ _ _ hne).trans h.box, h.low.setCell hb _, h.old, h.le⟩
/-- what a command's end leaves -/
theorem Kc.fin {w0 w W : World} {g i i1 j c : Nat} {ws : List Wi} {v : Value} {A acc : List Ar} {F : ByteArray} {a1 : Option Addr} {d1 : Nat} {xs : List Value} (hA : A = acc) (hle1 : i ≤ i1) (hj : i1 + acc.length = j) (hgw : g < w.heap.size) (hqc : w.heap.size < c) (H : Kc.At w0 W g v ws.length j) (HO : Kr.Args w0 W (c + 1) acc (.slice a1 acc.length d1) xs) (K : Kc.Kept w W g) :
    ∃ a1' d1' xs' j', Ending.returned (.agg #[.string F, .slice a1 acc.length d1]) = .returned (.agg #[.string F, .slice a1' A.length d1']) ∧ Kr.Args w0 ((W.setCell ⟨w.heap.size, 0, none⟩ (.string F)).setCell ⟨w.heap.size, 1, none⟩ (.slice a1 acc.length d1)) w.heap.size A (.slice a1' A.length d1') xs' ∧ i ≤ j' ∧ Kc.At w0 ((W.setCell ⟨w.heap.size, 0, none⟩ (.string F)).setCell ⟨w.heap.size, 1, none⟩ (.slice a1 acc.length d1)) g v ws.length j' ∧ ws.drop j' = ws.drop (i1 + A.length) ∧ Kc.Kept w ((W.setCell ⟨w.heap.size, 0, none⟩ (.string F)).setCell ⟨w.heap.size, 1, none⟩ (.slice a1 acc.length d1)) g := by
  subst hA
  have ho : w0.heap.size ≤ w.heap.size := by have := H.old; omega
  exact ⟨a1, d1, xs, j, rfl, ((HO.set (by omega) _).set (by omega) _).lower (by omega), by omega, (H.setNew ho (by omega)).setNew ho (by omega), by rw [hj], (K.setNew (Nat.le_refl _) _ _).setNew (Nat.le_refl _) _ _⟩
set_option maxRecDepth 100000 in
set_option maxHeartbeats 8000000 in
theorem Kc.command {w0 w : World} {g i : Nat} {ws : List Wi} {v : Value} {R : Nat → Prop} (h : Kc.At w0 w g v ws.length i) (hl : Dt.Lies w0 R (Wi.rows ws) v) (hz : ws.length ≤ 1048576) :
    Calls Tryz.prog 137 #[.pointer (some ⟨g, 0, none⟩)] w fun e w' => ∃ a1 d1 xs j, e = .returned (.agg #[.string ⟨(Kp.cmd (ws.drop i)).fn.toArray⟩, .slice a1 (Kp.cmd (ws.drop i)).args.length d1]) ∧ Kr.Args w0 w' w.heap.size (Kp.cmd (ws.drop i)).args (.slice a1 (Kp.cmd (ws.drop i)).args.length d1) xs ∧ i ≤ j ∧ Kc.At w0 w' g v ws.length j ∧ ws.drop j = Kp.left (ws.drop i) ∧ Kc.Kept w w' g := by
  have fu := fun u (hu : Kc.At w0 u g v ws.length i) => Kc.function hu hl
  obtain ⟨a, d, rfl, hd, hm, hx⟩ := Wi.get hl
  obtain ⟨i1, hi1⟩ : ∃ i1, (if Kp.isf (ws.drop i) = true then i + 1 else i) = i1 := ⟨_, rfl⟩
  have hbe := Kp.behind_at hi1
  have hle1 : i ≤ i1 := by subst hi1; split <;> omega
  have hc : Kp.cmd (ws.drop i) = ⟨Kp.fn (ws.drop i), Kp.args (ws.drop i1)⟩ := by unfold Kp.cmd; rw [hbe]
  have hlf : Kp.left (ws.drop i) = ws.drop (i1 + (Kp.args (ws.drop i1)).length) := by unfold Kp.left; rw [hbe, List.drop_drop]
  rw [hc, hlf]
  simp only
  rw [hi1] at fu
  clear hi1 hbe hc hlf
  obtain ⟨F, hF⟩ : ∃ F : ByteArray, ⟨(Kp.fn (ws.drop i)).toArray⟩ = F := ⟨_, rfl⟩
  rw [hF] at fu
  rw [hF]
  clear hF
  obtain ⟨A, hA⟩ : ∃ A, Kp.args (ws.drop i1) = A := ⟨_, rfl⟩
  rw [hA]
  have HA := Lib.hid hA
  have HX := Lib.hid hx
  have H := Lib.hid h
  have HG := Lib.hid h.lt
  have hml : ws.length ≤ 9223372036854775807 := by omega
  clear hA hx h hl hm
  go_enter Tryz.func137, Tryz.ntmps137
  go_wp2_with (go_at_call 159; refine (fu _ (H.out.then ((Below.refl _ _).alloc (Nat.le_refl _) _))).mono ?_; rintro e w1 ⟨rfl, h1, k1⟩; have H1 := Lib.hid h1; have HQ1 : Hid (Bs.Box w1 w.heap.size #[.string ⟨#[]⟩, .slice none 0 0] 46) := k1.box (by have := HG.out; omega) (Bs.Box.new w _ _ _ rfl); have K1 : Hid (Kc.Kept w w1 g) := ((Kc.Kept.refl w g).alloc _).trans k1; clear h1 k1 fu)
  have H2 := Lib.hid (H1.out.then ((Below.refl w1.heap.size w1).alloc (Nat.le_refl _) (.cells #[.string F, .slice none 0 0] 46)))
  have HQ2 := Lib.hid (HQ1.out.alloc (.cells #[.string F, .slice none 0 0] 46))
  have HC2 : Hid (Bs.Box (w1.alloc (.cells #[.string F, .slice none 0 0] 46)) w1.heap.size #[.string F, .slice none 0 0] 46) := Bs.Box.new w1 _ _ _ rfl
  have K2 := Lib.hid (K1.out.alloc (.cells #[.string F, .slice none 0 0] 46))
  have HO2 : Hid (Kr.Args w0 (w1.alloc (.cells #[.string F, .slice none 0 0] 46)) (w1.heap.size + 1) [] (.slice none 0 0) []) := Kr.Args.nil _ _ _
  have hqc : w.heap.size < w1.heap.size := HQ1.out.lt
  have hgc : g < w1.heap.size := H1.out.lt
  have hgw := HG.out
  have hi1 := H1.out.le
  clear H1 HQ1 K1 H HG
  generalize w1.alloc (.cells #[.string F, .slice none 0 0] 46) = w2 at *
  generalize w1.heap.size = c at *
  have HGoal : Hid (A = [] ++ Kp.args (ws.drop i1)) := HA.out.symm
  go_loopw [] (fun wr => ∃ (j : Nat) (acc : List Ar) (a1 : Option Addr) (d1 : Nat) (xs : List Value), i1 + acc.length = j ∧ j ≤ ws.length ∧ Hid (A = acc ++ Kp.args (ws.drop j)) ∧ Hid (Kc.At w0 wr g (.slice a ws.length d) ws.length j) ∧ Hid (Bs.Box wr w.heap.size #[.string ⟨#[]⟩, .slice none 0 0] 46) ∧ Hid (Bs.Box wr c #[.string F, .slice a1 acc.length d1] 46) ∧ Hid (Kr.Args w0 wr (c + 1) acc (.slice a1 acc.length d1) xs) ∧ Hid (Kc.Kept w wr g)) (fun wr => ws.length - (intOf ((wr.cell? ⟨g, 1, none⟩).getD undef)).toNat)
  case atStart => exact ⟨i1, [], none, 0, [], rfl, hi1, HGoal, H2, HQ2, HC2, HO2, K2⟩
  case round =>
    clear H2 HQ2 HC2 K2 HO2 HGoal
    obtain ⟨j, acc, a1, d1, xs, hj, hjl, HJ, H, HQ, HC, HO, K⟩ := hrel
    have ov := Kc.isOver H.out
    have HM := Lib.hid H.out.c1
    by_cases hlt : j < ws.length
    · rw [decide_eq_false (by omega)] at ov
      obtain ⟨b, o, pv, e1, _, x0, x1, x2, x3, hp⟩ := HX.out j ws[j] (List.getElem?_eq_getElem hlt)
      subst e1
      obtain ⟨ap, dp, rfl, hd1, hd2, hd3⟩ := hp
      have hpp : St.Lies w0 (fun _ => True) ws[j].path (.slice ap ws[j].path.length dp) := St.Lies.later ⟨ap, dp, rfl, hd1, hd2, hd3⟩ (Below.refl w0.heap.size w0)
      have hpa := Lib.hid (Ka.path hpp)
      have hst := Kp.args_step hlt
      have x0 := Tp.keep H.out.low x0
      have x1 := Tp.keep H.out.low x1
      have x2 := Tp.keep H.out.low x2
      have x3 := Tp.keep H.out.low x3
      have hjd : j < d := by omega
      have am := fun u => Ka.argument ws[j] ap dp u
      rw [hst] at HJ
      clear hst hpp hd1 hd2 hd3 HX
      generalize ws[j] = z at *
      obtain ⟨aq, dq, eq, _, _, _⟩ := hpa.out
      rw [eq] at am hpa
      unfold Ka.five at am
      clear eq
      generalize (Ka.arg z).1 = X at *
      obtain ⟨ok, hok⟩ : ∃ ok, (Ka.arg z).2 = ok := ⟨_, rfl⟩
      rw [hok] at am HJ
      clear hok
      go_upto_region 3 with (go_at_call 114; refine ov.mono ?_; rintro e w3 ⟨rfl, n1, rfl⟩)
      have H1 := Lib.hid (H.out.drewN n1)
      have HQ1 : Hid (Bs.Box (wr.drewN n1) w.heap.size #[.string ⟨#[]⟩, .slice none 0 0] 46) := HQ.out
      have HC1 : Hid (Bs.Box (wr.drewN n1) c #[.string F, .slice a1 acc.length d1] 46) := HC.out
      have HO1 : Hid (Kr.Args w0 (wr.drewN n1) (c + 1) acc (.slice a1 acc.length d1) xs) := HO.out.on (fun _ _ => rfl)
      have K1 := Lib.hid (K.out.drewN n1)
      have x0 : (wr.drewN n1).cell? _ = _ := x0
      have x1 : (wr.drewN n1).cell? _ = _ := x1
      have x2 : (wr.drewN n1).cell? _ = _ := x2
      have x3 : (wr.drewN n1).cell? _ = _ := x3
      clear H HQ HC HO K ov
      generalize wr.drewN n1 = w3 at *
      have c0 := H1.out.c0
      have c1 := H1.out.c1
      go_cut [4, 5] from 9 to 40 (fun pv okv wx => ∃ b4, pv = .pointer (some ⟨b4, 0, none⟩) ∧ okv = .bool ok ∧ w3.heap.size ≤ b4 ∧ Hid (Bs.Box wx b4 #[.int .i64 X.kind, .string ⟨X.name.toArray⟩, .slice aq X.path.length dq, .int .i64 X.num, .string ⟨X.text.toArray⟩] 43) ∧ Hid (Below w3.heap.size w3 wx))
      case first =>
        have hb2 := (Below.refl w3.heap.size w3).alloc (Nat.le_refl _) (.cells #[.int .i64 0, .string ⟨#[]⟩, .slice none 0 0, .int .i64 0, .string ⟨#[]⟩] 43)
        have y0 := Tp.keep hb2 x0
        have y1 := Tp.keep hb2 x1
        have y2 := Tp.keep hb2 x2
        have y3 := Tp.keep hb2 x3
        have H2 := Lib.hid (H1.out.then hb2)
        have e0 := H2.out.c0
        have e1 := H2.out.c1
        clear HJ hpa HQ1 HC1 HO1 K1 hb2 H2 H1
        go_region_with (go_at_call 160; refine (am _).mono ?_; rintro e w5 ⟨rfl, b5⟩; first | (have HX5 : Hid (Bs.Box w5 w3.heap.size #[.int .i64 0, .string ⟨#[]⟩, .slice none 0 0, .int .i64 0, .string ⟨#[]⟩] 43) := ((b5.block _ (by simp)).trans (by exact Bs.Box.new w3 _ _ _ rfl)); have B5 : Hid (Below w3.heap.size w3 w5) := (((Below.refl w3.heap.size w3).alloc (Nat.le_refl _) _).drew.trans (b5.mono (by simp))); clear b5; have q0 := HX5.out.cell 0 rfl; have q1 := HX5.out.cell 1 rfl; have q2 := HX5.out.cell 2 rfl; have q3 := HX5.out.cell 3 rfl; have q4 := HX5.out.cell 4 rfl; have qf := HX5.out.frozen; have HX6 : Hid (Bs.Box (((((w5.setCell ⟨w3.heap.size, 0, none⟩ (.int .i64 X.kind)).setCell ⟨w3.heap.size, 1, none⟩ (.string ⟨X.name.toArray⟩)).setCell ⟨w3.heap.size, 2, none⟩ (.slice aq X.path.length dq)).setCell ⟨w3.heap.size, 3, none⟩ (.int .i64 X.num)).setCell ⟨w3.heap.size, 4, none⟩ (.string ⟨X.text.toArray⟩)) w3.heap.size #[.int .i64 X.kind, .string ⟨X.name.toArray⟩, .slice aq X.path.length dq, .int .i64 X.num, .string ⟨X.text.toArray⟩] 43) := ((((HX5.out.set 0 _).set 1 _).set 2 _).set 3 _).set 4 _; have B6 : Hid (Below w3.heap.size w3 (((((w5.setCell ⟨w3.heap.size, 0, none⟩ (.int .i64 X.kind)).setCell ⟨w3.heap.size, 1, none⟩ (.string ⟨X.name.toArray⟩)).setCell ⟨w3.heap.size, 2, none⟩ (.slice aq X.path.length dq)).setCell ⟨w3.heap.size, 3, none⟩ (.int .i64 X.num)).setCell ⟨w3.heap.size, 4, none⟩ (.string ⟨X.text.toArray⟩))) := (((((B5.out.setCell (p := ⟨w3.heap.size, 0, none⟩) (Nat.le_refl _) _).setCell (p := ⟨w3.heap.size, 1, none⟩) (Nat.le_refl _) _).setCell (p := ⟨w3.heap.size, 2, none⟩) (Nat.le_refl _) _).setCell (p := ⟨w3.heap.size, 3, none⟩) (Nat.le_refl _) _).setCell (p := ⟨w3.heap.size, 4, none⟩) (Nat.le_refl _) _)) | (have B5 : Hid (Below w3.heap.size w3 w5) := ((Below.refl w3.heap.size w3).drew.trans (b5.mono (by simp))); clear b5; have HX6 : Hid (Bs.Box (w5.alloc (.cells #[.int .i64 X.kind, .string ⟨X.name.toArray⟩, .slice aq X.path.length dq, .int .i64 X.num, .string ⟨X.text.toArray⟩] 43)) w5.heap.size #[.int .i64 X.kind, .string ⟨X.name.toArray⟩, .slice aq X.path.length dq, .int .i64 X.num, .string ⟨X.text.toArray⟩] 43) := Bs.Box.new w5 _ _ _ rfl; have B6 : Hid (Below w3.heap.size w3 (w5.alloc (.cells #[.int .i64 X.kind, .string ⟨X.name.toArray⟩, .slice aq X.path.length dq, .int .i64 X.num, .string ⟨X.text.toArray⟩] 43))) := B5.out.alloc B5.out.size _))
        all_goals go_wp2_with fail
        all_goals go_meet
        all_goals first | exact ⟨_, rfl, rfl, Nat.le_refl _, HX6, B6⟩ | exact ⟨_, rfl, rfl, B5.out.size, HX6, B6⟩
      case rest =>
        obtain ⟨b4, rfl, rfl, hb4, HX4, B4⟩ := hcut
        have H4 := Lib.hid (H1.out.then B4.out)
        have HQ4 := Lib.hid (HQ1.out.on B4.out HQ1.out.lt)
        have HC4 := Lib.hid (HC1.out.on B4.out HC1.out.lt)
        have HO4 := Lib.hid (HO1.out.below B4.out)
        have K4 := Lib.hid (K1.out.then B4.out)
        have hcl := HC4.out.lt
        have y0 := HC4.out.cell 0 rfl
        have y1 := HC4.out.cell 1 rfl
        clear H1 HQ1 HC1 HO1 K1 B4 x0 x1 x2 x3 c0 c1 am
        cases ok with
        | false =>
          have hA : A = acc := by
            have := HJ.out
            rw [if_neg (by decide), List.append_nil] at this
            exact this
          have q0 := HQ4.out.cell 0 rfl
          have q1 := HQ4.out.cell 1 rfl
          have qf := HQ4.out.frozen
          have HFI := Lib.hid (Kc.fin (F := F) hA hle1 hj hgw hqc H4.out HO4.out K4.out)
          have HQ5 := Lib.hid ((HQ4.out.set 0 (.string F)).set 1 (.slice a1 acc.length d1))
          clear hA HJ
          go_wp2_with fail
          have r0 := HQ5.out.cell 0 rfl
          have r1 := HQ5.out.cell 1 rfl
          refine bodyPost_ret (v := .agg #[.string F, .slice a1 acc.length d1]) (by simp [results, Tryz.results137, go_sem, r0, r1]) rfl ?_
          exact HFI.out
        | true =>
          have HJ2 : Hid (A = (acc ++ [X]) ++ Kp.args (ws.drop (j + 1))) := by
            have := HJ.out
            rw [if_pos rfl] at this
            rw [List.append_assoc]
            exact this
          have s0 := HX4.out.cell 0 rfl
          have s1 := HX4.out.cell 1 rfl
          have s2 := HX4.out.cell 2 rfl
          have s3 := HX4.out.cell 3 rfl
          have s4 := HX4.out.cell 4 rfl
          have hal : acc.length ≤ 1048576 := by omega
          have hsw : c + 1 ≤ wc.heap.size := hcl
          have hw0c : w0.heap.size ≤ c := by have := H4.out.old; omega
          have hgne : g ≠ c := by omega
          clear HJ
          go_wp2_with (at_builtin; refine Ro.push rfl _ _ 44 43 5 72 _ rfl Tryz.underlying44 Ar.info rfl (by decide) _ rfl (HO4.out.own.alloc _) wc.heap.size (Ar.five X (.slice aq X.path.length dq)) rfl (Gr.cells wc (Ar.five X (.slice aq X.path.length dq)) 43) rfl (Ar.ones X _ _ _) (by unfold maxLen; omega) (by omega) (by simp; omega) ?_; intro v7 w7 R7 hg7 hf7; have HN7 := Lib.hid (HO4.out.push hpa.out R7); obtain ⟨a7, d7, rfl⟩ := Gr.form R7; have B7 : Below (c + 1) wc w7 := ((Below.refl (c + 1) wc).alloc hsw _).grown hg7 (by simp; omega) (fun k e => (HO4.out.own.lt k e).1); have H7 := Lib.hid (H4.out.upon B7 (by omega)); have HC7 := Lib.hid (HC4.out.on B7 (by omega)); have HQ7 := Lib.hid (HQ4.out.on B7 (by omega)); have K7 := Lib.hid (K4.out.upon B7 (by omega)); clear R7 hg7 hf7 B7; have m1 := HC7.out.cell 1 rfl; have mf := HC7.out.frozen; have H8 := Lib.hid (H7.out.setNew (k := 1) (u := .slice a7 (acc.length + 1) d7) hw0c hgne); have c1 := H8.out.c1; have cf := H8.out.fz)
          have H9 := Lib.hid (H8.out.set1 (j + 1) hlt)
          have HC9 := Lib.hid (((Kc.Kept.refl _ _).set 1 (.int .i64 ((j + 1 : Nat) : Int))).box (show c ≠ g by omega) (HC7.out.set 1 (.slice a7 (acc.length + 1) d7)))
          have HQ9 : Hid (Bs.Box ((w7.setCell ⟨c, 1, none⟩ (.slice a7 (acc.length + 1) d7)).setCell ⟨g, 1, none⟩ (.int .i64 ((j + 1 : Nat) : Int))) w.heap.size #[.string ⟨#[]⟩, .slice none 0 0] 46) := (Below.heap_setCell _ _ _ _ (by show w.heap.size ≠ g; omega)).trans ((Below.heap_setCell _ _ _ _ (by show w.heap.size ≠ c; omega)).trans HQ7.out)
          have HO9 := Lib.hid ((HN7.out.set (i := 1) (show c < c + 1 by omega) (.slice a7 (acc.length + 1) d7)).set (i := 1) (show g < c + 1 by omega) (.int .i64 ((j + 1 : Nat) : Int)))
          have K9 := Lib.hid ((K7.out.setNew (b := c) (by omega) 1 (.slice a7 (acc.length + 1) d7)).set 1 (.int .i64 ((j + 1 : Nat) : Int)))
          rw [show ((j + 1 : Nat) : Int) = (j : Int) + 1 by omega] at H9 HC9 HQ9 HO9 K9
          have el : (acc ++ [X]).length = acc.length + 1 := by rw [List.length_append]; rfl
          go_roundw
          case rel => exact ⟨j + 1, acc ++ [X], a7, d7, xs ++ Ar.five X (.slice aq X.path.length dq), by omega, by omega, HJ2, H9, HQ9, by rw [el]; exact HC9, by rw [el]; exact HO9, K9⟩
          case measure => rw [HM.out, H9.out.c1]; simp [intOf]; omega
    · rw [decide_eq_true (by omega)] at ov
      have hA : A = acc := by
        have := HJ.out
        rw [Kp.at_end (by omega)] at this
        rw [this, show Kp.args [] = [] from rfl, List.append_nil]
      clear HJ HX
      go_upto_region 7 with (go_at_call 114; refine ov.mono ?_; rintro e w3 ⟨rfl, n1, rfl⟩)
      have HFI := Lib.hid (Kc.fin (F := F) hA hle1 hj hgw hqc (H.out.drewN n1) (HO.out.on (w' := wr.drewN n1) (fun _ _ => rfl)) (K.out.drewN n1))
      have HQ1 : Hid (Bs.Box (wr.drewN n1) w.heap.size #[.string ⟨#[]⟩, .slice none 0 0] 46) := HQ.out
      have HC1 : Hid (Bs.Box (wr.drewN n1) c #[.string F, .slice a1 acc.length d1] 46) := HC.out
      clear H HQ HC HO K ov hA
      generalize wr.drewN n1 = w3 at *
      have y0 := HC1.out.cell 0 rfl
      have y1 := HC1.out.cell 1 rfl
      have q0 := HQ1.out.cell 0 rfl
      have q1 := HQ1.out.cell 1 rfl
      have qf := HQ1.out.frozen
      have HQ5 := Lib.hid ((HQ1.out.set 0 (.string F)).set 1 (.slice a1 acc.length d1))
      go_wp2_with fail
      have r0 := HQ5.out.cell 0 rfl
      have r1 := HQ5.out.cell 1 rfl
      refine bodyPost_ret (v := .agg #[.string F, .slice a1 acc.length d1]) (by simp [results, Tryz.results137, go_sem, r0, r1]) rfl ?_
      exact HFI.out
end Go.Proofs.YtjppobeomocgbaaGreatDoor
/-
  THE WALK of the landed commands.
-/
namespace Go.Proofs.YtjppobeomocgbaaGreatDoor
open Go.RowKit
/-- rows whose paths lie in w0 -/
abbrev Kr.In (w0 : World) : Nat → Nat → List (List UInt8) → Value → Prop := fun _ _ => St.Lies w0 (fun _ => True)
theorem Kp.more_step {n j : Nat} {ws : List Wi} (h : Kp.isBar (ws.drop j) = true) : Kp.more (n + 1) (ws.drop j) = (Kp.cmd (ws.drop (j + 1)) :: (Kp.more n (Kp.left (ws.drop (j + 1)))).1, (Kp.more n (Kp.left (ws.drop (j + 1)))).2) := by
  show (if Kp.isBar (ws.drop j) = true then _ else _) = _
  rw [if_pos h, List.tail_drop]
theorem Kp.more_stop {n : Nat} {l : List Wi} (h : Kp.isBar l = false) : Kp.more n l = ([], l) := by
  cases n with
  | zero => rfl
  | succ n =>
    show (if Kp.isBar l = true then _ else _) = _
    rw [h]
    rfl
theorem Kp.bar_lt {ws : List Wi} {j : Nat} (h : Kp.isBar (ws.drop j) = true) : j < ws.length := by
  by_cases q : j < ws.length
  · exact q
  · rw [Kp.at_end (by omega)] at h
    cases h
/-- what commands answers -/
def Kc.Out (w0 w w' : World) (g : Nat) (ws : List Wi) (v : Value) (G : List Cm × List Wi) (e : Ending) : Prop := ∃ v' xs av ys j, e = .returned v' ∧ Kr.Cmds w' w.heap.size (Kr.In w0) G.1 v' xs av ys ∧ Kc.At w0 w' g v ws.length j ∧ ws.drop j = G.2 ∧ Kc.Kept w w' g
theorem Kc.apart {w : World} {base : Nat} {P : Nat → Nat → List (List UInt8) → Value → Prop} {cs : List Cm} {v u : Value} {xs : List Value} {av : Nat → Value} {ys : Nat → List Value} (h : Kr.Cmds w base P cs v xs av ys) (hu : ∀ b, u.ownBlock = some b → w.heap.size ≤ b) : ∀ b, u.ownBlock = some b → v.ownBlock ≠ some b ∧ ∀ i, i < cs.length → (av i).ownBlock ≠ some b :=
  fun b hb => ⟨fun q => by have := hu b hb; have := (h.own.lt b q).2; omega, fun i hi q => by have := hu b hb; have := ((h.args i cs[i] (List.getElem?_eq_getElem hi)).own.lt b q).2; omega⟩
set_option maxRecDepth 100000 in
set_option maxHeartbeats 8000000 in
theorem Kc.commands {w0 w : World} {g : Nat} {ws : List Wi} {v : Value} {R : Nat → Prop} (h : Kc.At w0 w g v ws.length 0) (hl : Dt.Lies w0 R (Wi.rows ws) v) (hz : ws.length ≤ 1048576) :
    Calls Tryz.prog 113 #[.pointer (some ⟨g, 0, none⟩)] w fun e w' => Kc.Out w0 w w' g ws v (Kp.read ws) e := by
  have fu := fun i u (hu : Kc.At w0 u g v ws.length i) => Kc.command hu hl hz
  have sk := fun i u (hu : Kc.At w0 u g v ws.length i) => Kc.skipPipe hu hl
  obtain ⟨G, hG⟩ : ∃ G, Kp.read ws = G := ⟨_, rfl⟩
  rw [hG]
  have HG : Hid ((Kp.cmd (ws.drop 0) :: (Kp.more ws.length (Kp.left (ws.drop 0))).1, (Kp.more ws.length (Kp.left (ws.drop 0))).2) = G) := hG
  have H := Lib.hid h
  have hgw := h.lt
  obtain ⟨c0, hc0⟩ : ∃ c0, Kp.cmd (ws.drop 0) = c0 := ⟨_, rfl⟩
  have fu0 := fu 0
  rw [hc0] at fu0 HG
  clear h hl hG hc0
  go_enter Tryz.func113, Tryz.ntmps113
  go_wp2_with (go_at_call 137; refine (fu0 _ H.out).mono ?_; rintro e w1 ⟨a1, d1, zs, j, rfl, ha, hj, h1, hd, k1⟩; have HA := Lib.hid ha; have H1 := Lib.hid h1; have HD := Lib.hid hd; have K1 := Lib.hid k1; clear ha h1 hd k1 fu0)
  have hs1 := K1.out.size
  have HO2 := Lib.hid (Kr.Cmds.one (P := Kr.In w0) HA.out.gen hs1)
  have H2 := Lib.hid (H1.out.then ((Below.refl _ _).alloc (Nat.le_refl _) (.cells #[.string ⟨c0.fn.toArray⟩, .slice a1 c0.args.length d1] 46)))
  have K2 := Lib.hid (K1.out.alloc (.cells #[.string ⟨c0.fn.toArray⟩, .slice a1 c0.args.length d1] 46))
  have HG2 : Hid (([c0] ++ (Kp.more ws.length (ws.drop j)).1, (Kp.more ws.length (ws.drop j)).2) = G) := by rw [HD.out]; exact HG.out
  clear HG H1 HA HD K1
  generalize w1.alloc (.cells #[.string ⟨c0.fn.toArray⟩, .slice a1 c0.args.length d1] 46) = w2 at *
  go_loopw [3] (fun pv wr => ∃ (n j : Nat) (cs : List Cm) (a1 : Option Addr) (d1 : Nat) (xs : List Value) (av : Nat → Value) (ys : Nat → List Value), pv = .slice a1 cs.length d1 ∧ cs.length ≤ j + 1 ∧ (ws.drop j).length ≤ n ∧ Hid ((cs ++ (Kp.more n (ws.drop j)).1, (Kp.more n (ws.drop j)).2) = G) ∧ Hid (Kr.Cmds wr w.heap.size (Kr.In w0) cs (.slice a1 cs.length d1) xs av ys) ∧ Hid (Kc.At w0 wr g v ws.length j) ∧ Hid (Kc.Kept w wr g)) (fun _ wr => ws.length - (intOf ((wr.cell? ⟨g, 1, none⟩).getD undef)).toNat)
  case atStart => exact ⟨ws.length, j, [c0], _, _, _, _, _, rfl, by simp, by rw [List.length_drop]; omega, HG2, HO2, H2, K2⟩
  case round =>
    clear HG2 HO2 H2 K2 H
    obtain ⟨n, j, cs, a1, d1, xs, av, ys, rfl, hcl, hn, HG, HO, H, K⟩ := hrel
    have HM := Lib.hid H.out.c1
    have sk := sk j _ H.out
    cases hb : Kp.isBar (ws.drop j) with
    | false =>
      rw [hb] at sk
      have hfin : (cs, ws.drop j) = G := by
        have := HG.out
        rw [Kp.more_stop hb, List.append_nil] at this
        exact this
      subst hfin
      go_wp2_with (go_at_call 138; refine sk.mono ?_; rintro e w3 ⟨rfl, h3, k3⟩; have HO3 := Lib.hid (HO.out.kept k3 hgw); have K3 := Lib.hid (K.out.trans k3); have H3 := Lib.hid h3; clear h3 k3 sk)
      go_ret
      exact ⟨_, xs, av, ys, j, rfl, HO3.out, H3.out, rfl, K3.out⟩
    | true =>
      rw [hb] at sk
      have hlt := Kp.bar_lt hb
      have hlen : (ws.drop j).length = ws.length - j := List.length_drop
      obtain ⟨n, rfl⟩ : ∃ m, n = m + 1 := ⟨n - 1, by omega⟩
      have hst := HG.out
      rw [Kp.more_step hb] at hst
      have fu1 := fu (j + 1)
      generalize Kp.cmd (ws.drop (j + 1)) = c at *
      have HST := Lib.hid hst
      clear hst hb HG fu
      go_wp2_with (first | (go_at_call 138; refine sk.mono ?_; rintro e w3 ⟨rfl, h3, k3⟩; have HO3 := Lib.hid (HO.out.kept k3 hgw); have K3 := Lib.hid (K.out.trans k3); have H3 := Lib.hid h3; clear h3 k3 sk) | (go_at_call 137; refine (fu1 _ H3.out).mono ?_; rintro e w4 ⟨a4, d4, zs, j4, rfl, ha, hj4, h4, hd4, k4⟩; have HO4 := Lib.hid (HO3.out.kept k4 hgw); have HA := Lib.hid (ha.gen.lower (show w.heap.size ≤ w3.heap.size from K3.out.size)); have H4 := Lib.hid h4; have HD := Lib.hid hd4; have K4 := Lib.hid (K3.out.trans k4); have HAP : Hid (∀ b, (Value.slice a4 c.args.length d4).ownBlock = some b → (Value.slice a1 cs.length d1).ownBlock ≠ some b ∧ ∀ i, i < cs.length → (av i).ownBlock ≠ some b) := Kc.apart HO3.out (fun b hb => (ha.own.lt b hb).1); clear ha h4 hd4 k4 fu1) | (at_builtin; refine Ro.push rfl _ _ 35 46 2 40 _ rfl Tryz.underlying35 Cm.info rfl (by decide) _ rfl (HO4.out.own.alloc _) w4.heap.size (Cm.two ⟨c.fn.toArray⟩ (.slice a4 c.args.length d4)) rfl (Gr.cells w4 (Cm.two ⟨c.fn.toArray⟩ (.slice a4 c.args.length d4)) 46) rfl (Cm.ones _ _ _ _) (by unfold maxLen; omega) (by omega) (by have := K4.out.size; simp; omega) ?_; intro v7 w7 R7 hg7 hf7; have HN7 := Lib.hid (HO4.out.push HA.out HAP.out ((Below.refl w4.heap.size w4).alloc (Nat.le_refl _) _) R7 hg7 hf7); obtain ⟨a7, d7, rfl⟩ := Gr.form R7; have B7 : Below w.heap.size w4 w7 := ((Below.refl w.heap.size w4).alloc K4.out.size _).grown hg7 (by have := K4.out.size; simp; omega) (fun k e => (HO4.out.own.lt k e).1); have H7 := Lib.hid (H4.out.upon B7 hgw); have K7 := Lib.hid (K4.out.upon B7 (Nat.le_refl _)); clear R7 hg7 hf7 B7))
      have HST2 : Hid (((cs ++ [c]) ++ (Kp.more n (ws.drop j4)).1, (Kp.more n (ws.drop j4)).2) = G) := by
        unfold Hid
        rw [HD.out, List.append_assoc]
        exact HST.out
      have el : (cs ++ [c]).length = cs.length + 1 := by rw [List.length_append]; rfl
      go_roundw
      case rel => exact ⟨n, j4, cs ++ [c], a7, d7, _, _, _, by rw [el], by omega, by rw [List.length_drop]; omega, HST2, by rw [el]; exact HN7, H7, K7⟩
      case measure => rw [HM.out, H7.out.c1]; simp [intOf]; omega
end Go.Proofs.YtjppobeomocgbaaGreatDoor

/-
  THE WALK of stolelaw0.CopyPipe: the same commands, in blocks of their own.
-/
import Derived.Test.YtjmobhohfcieoaaIPipeMay
namespace Go.Proofs.Ytjmobhohfcieoaa
open Go.RowKit
/-- rows that a machine can copy -/
def Cm.Small (cs : List Cm) : Prop := cs.length ≤ 1048576 ∧ ∀ c ∈ cs, c.args.length ≤ 1048576 ∧ ∀ x ∈ c.args, x.path.length ≤ 1048576
set_option maxRecDepth 100000 in
set_option maxHeartbeats 4000000 in
theorem Cy.own (cs : List Cm) (v : Value) (R : Nat → Prop) (w : World) (h : Dt.Lies w R (Cm.rows cs) v) (hz : Cm.Small cs) :
    Calls Try.prog 12 #[v] w fun e w' => ∃ a d xs, e = .returned (.slice a cs.length d) ∧ Cm.Own w.heap.size cs w' (.slice a cs.length d) xs ∧ Below w.heap.size w w' := by
  obtain ⟨a, d, rfl, hd, hm, hx⟩ := Cm.get h
  obtain ⟨hn, hz⟩ := hz
  have HX := Lib.hid hx
  have HZ := Lib.hid hz
  have hml : cs.length ≤ 9223372036854775807 := by omega
  have HO0 : Hid (Cm.Own w.heap.size [] w (.slice none 0 0) []) := Gr.Own.nil _ _ _ _ _
  clear hx hz h hm
  go_enter Try.func12, Try.ntmps12
  go_wp2_with fail
  go_loopw [3, 4] (fun ov iv wr => ∃ (i : Nat) (a1 : Option Addr) (d1 : Nat) (xs : List Value), i ≤ cs.length ∧ ov = .slice a1 i d1 ∧ iv = .int .i64 (i : Int) ∧ Hid (Gr.Own w.heap.size (fun _ => False) 38 2 i ((cs.take i).flatMap Cm.dt) wr (.slice a1 i d1) xs) ∧ Hid (Below w.heap.size w wr)) (fun _ iv _ => cs.length - (intOf iv).toNat)
  case atStart => exact ⟨0, none, 0, [], Nat.zero_le _, rfl, rfl, by rw [List.take_zero]; exact HO0, Below.refl _ _⟩
  case round =>
    clear HO0
    obtain ⟨i, a1, d1, xs, hi, rfl, rfl, HO, HB⟩ := hrel
    obtain ⟨W, hWW⟩ : ∃ W, W = wr := ⟨_, rfl⟩
    subst hWW
    by_cases hlt : i < cs.length
    · have dlt : decide ((i : Int) < (cs.length : Int)) = true := decide_eq_true (by omega)
      obtain ⟨b, o, av, rfl, _, c0, c1, hl⟩ := HX.out i cs[i] (List.getElem?_eq_getElem hlt)
      have hzc := HZ.out cs[i] (List.getElem_mem hlt)
      have htk : cs.take (i + 1) = cs.take i ++ [cs[i]] := List.take_succ_eq_append_getElem hlt
      obtain ⟨a3, d3, rfl, hd3, hm3, hx3⟩ := Ar.get hl
      have hid : i < d := by omega
      generalize cs[i] = c at *
      have HTK := Lib.hid htk
      have HX3 := Lib.hid hx3
      have HZC := Lib.hid hzc.2
      have hac := hzc.1
      have hm5 : c.args.length ≤ 9223372036854775807 := by omega
      have k0 := Tp.keep HB.out c0
      have hF : ∃ F : ByteArray, (⟨c.fn.toArray⟩ : ByteArray) = F := ⟨_, rfl⟩
      obtain ⟨F, hF⟩ := hF
      rw [hF] at k0
      have HF := Lib.hid hF
      have HC0 : Hid (Bs.Box (W.alloc (.cells #[.string F, .slice none 0 0] 38)) W.heap.size #[.string F, .slice none 0 0] 38) := Bs.Box.new W _ _ _ rfl
      have HW0 := Lib.hid ((Below.refl W.heap.size W).alloc (Nat.le_refl _) (.cells #[.string F, .slice none 0 0] 38))
      have HA0 : Hid (Ar.Own (W.heap.size + 1) [] (W.alloc (.cells #[.string F, .slice none 0 0] 38)) (.slice none 0 0) []) := Gr.Own.nil _ _ _ _ _
      have hs0 : W.heap.size + 1 ≤ (W.alloc (.cells #[.string F, .slice none 0 0] 38)).heap.size := by simp
      clear htk hl hx3 hzc hm3 hF
      go_wp2_with fail
      generalize hW : W.alloc (.cells #[.string F, .slice none 0 0] 38) = W0 at *
      clear hW
      go_loopw [6] (fun jv u => ∃ (j : Nat) (a5 : Option Addr) (d5 : Nat) (ys : List Value), j ≤ c.args.length ∧ jv = .int .i64 (j : Int) ∧ Hid (Bs.Box u W.heap.size #[.string F, .slice a5 j d5] 38) ∧ Hid (Gr.Own (W.heap.size + 1) (fun _ => False) 41 5 j ((c.args.take j).flatMap Ar.dt) u (.slice a5 j d5) ys) ∧ Hid (Below W.heap.size W u) ∧ W.heap.size + 1 ≤ u.heap.size) (fun jv _ => c.args.length - (intOf jv).toNat)
      case atStart => exact ⟨0, none, 0, [], Nat.zero_le _, rfl, HC0, by rw [List.take_zero]; exact HA0, HW0, hs0⟩
      case round =>
        clear HC0 HA0 HW0 hs0
        obtain ⟨j, a5, d5, ys, hj, rfl, HC, HA, HW, hsz⟩ := hrel
        have HBW := Lib.hid (HB.out.trans (HW.out.mono HB.out.size))
        have k1 := Tp.keep HBW.out c1
        by_cases hjl : j < c.args.length
        · have dlj : decide ((j : Int) < (c.args.length : Int)) = true := decide_eq_true (by omega)
          obtain ⟨b3, o3, pv3, rfl, _, x0, x1, x2, x3, x4, hp3⟩ := HX3.out j c.args[j] (List.getElem?_eq_getElem hjl)
          have hzp := HZC.out c.args[j] (List.getElem_mem hjl)
          have htj : c.args.take (j + 1) = c.args.take j ++ [c.args[j]] := List.take_succ_eq_append_getElem hjl
          obtain ⟨ap, dp, rfl, _, _, _⟩ := id hp3
          generalize c.args[j] = X at *
          have HTJ := Lib.hid htj
          have x0 := Tp.keep HBW.out x0
          have x1 := Tp.keep HBW.out x1
          have x2 := Tp.keep HBW.out x2
          have x3 := Tp.keep HBW.out x3
          have x4 := Tp.keep HBW.out x4
          have hjd : j < d3 := by omega
          have hpth : St.Lies _ (fun _ => True) X.path (.slice ap X.path.length dp) := hp3.later HBW.out
          clear c0
          go_upto_region 10 with fail
          have HA1 : Hid (Bs.Box (wr.alloc (.cells #[.int .i64 X.kind, .string ⟨X.name.toArray⟩, .slice ap X.path.length dp, .int .i64 X.num, .string ⟨X.text.toArray⟩] 41)) wr.heap.size #[.int .i64 X.kind, .string ⟨X.name.toArray⟩, .slice ap X.path.length dp, .int .i64 X.num, .string ⟨X.text.toArray⟩] 41) := Bs.Box.new wr _ _ _ rfl
          have HB2 := Lib.hid ((Below.refl wr.heap.size wr).alloc (Nat.le_refl _) (.cells #[.int .i64 X.kind, .string ⟨X.name.toArray⟩, .slice ap X.path.length dp, .int .i64 X.num, .string ⟨X.text.toArray⟩] 41))
          generalize hw2 : wr.alloc (.cells #[.int .i64 X.kind, .string ⟨X.name.toArray⟩, .slice ap X.path.length dp, .int .i64 X.num, .string ⟨X.text.toArray⟩] 41) = w2 at *
          clear hw2
          have a2 := HA1.out.cell 2 rfl
          have a2' : ∀ o', (w2.alloc o').cell? ⟨wr.heap.size, 2, none⟩ = some (.slice ap X.path.length dp) := fun o' => (HA1.out.alloc o').cell 2 rfl
          have HTC := Lib.hid (Gc.text_cells (hpth.later HB2.out)).2
          clear x0 x1 x2 x3 x4 htj hp3
          go_upto_region 11 with (at_builtin; refine Gc.copy rfl _ _ 39 9 1 16 (.string ⟨#[]⟩) rfl Try.underlying39 St.info rfl (by decide) w2.heap.size rfl (Gc.none w2 w2.heap.size 9 1 (Nat.le_refl _)) X.path.length (St.cells X.path) ap dp rfl (fun j u hj => by obtain ⟨q, e, c⟩ := HTC.out j u hj; exact ⟨q, e, Tp.keepA c⟩) (Gc.cells_len _) (Gc.ones _) (by unfold maxLen; omega) (by omega) (by simp) ?_; intro v4 w4 R4 hg4 hf4; obtain ⟨a4, d4, rfl⟩ := Gr.form R4; have HR4 := Lib.hid R4; have B4 := Lib.hid (((Below.refl w2.heap.size w2).alloc (Nat.le_refl _) (.cells #[] 9)).grown hg4 (by simp) (fun k e => by injection e with e; omega)); clear R4 hg4 hf4; have z2 := (HA1.out.on B4.out HA1.out.lt).cell 2 rfl; have zf := (HA1.out.on B4.out HA1.out.lt).frozen)
          have hA5 : Bs.Box (w4.setCell ⟨wr.heap.size, 2, none⟩ (.slice a4 X.path.length d4)) wr.heap.size #[.int .i64 X.kind, .string ⟨X.name.toArray⟩, .slice a4 X.path.length d4, .int .i64 X.num, .string ⟨X.text.toArray⟩] 41 := (HA1.out.on B4.out HA1.out.lt).set 2 _
          have hw14 : wr.heap.size < w2.heap.size := HA1.out.lt
          have B5 := Lib.hid ((Below.trans HB2.out (B4.out.mono HB2.out.size)).setCell (p := ⟨wr.heap.size, 2, none⟩) (Nat.le_refl _) (.slice a4 X.path.length d4))
          have HP5 : Hid (St.Lies (w4.setCell ⟨wr.heap.size, 2, none⟩ (.slice a4 X.path.length d4)) (Gr.R (W.heap.size + 1) (fun _ => False) (w4.setCell ⟨wr.heap.size, 2, none⟩ (.slice a4 X.path.length d4)) (.slice a5 j d5)) X.path (.slice a4 X.path.length d4)) := (St.Lies.own HR4.out).on fun k hk => by
            have e : (w4.setCell ⟨wr.heap.size, 2, none⟩ (.slice a4 X.path.length d4)).heap[k]? = w4.heap[k]? := Below.heap_setCell _ _ _ _ (by have := hk.1; show k ≠ wr.heap.size; omega)
            refine ⟨⟨by have := hk.1; omega, by simpa using hk.2.1, fun q => ?_, fun q => q, hk.2.2.on e⟩, e⟩
            have := (HA.out.own.lt k q).2
            have := hk.1
            omega
          generalize w4.setCell ⟨wr.heap.size, 2, none⟩ (.slice a4 X.path.length d4) = w5 at *
          have HO5 := Lib.hid (HA.out.below B5.out)
          have HC5 := Lib.hid (HC.out.on B5.out HC.out.lt)
          have s0 := hA5.cell 0 rfl
          have s1 := hA5.cell 1 rfl
          have s2 := hA5.cell 2 rfl
          have s3 := hA5.cell 3 rfl
          have s4 := hA5.cell 4 rfl
          have m0 := HC5.out.cell 1 rfl
          have HS5 := Lib.hid B5.out.size
          have hsw : W.heap.size + 1 ≤ w5.heap.size := by have := HS5.out; omega
          have HPU := Lib.hid (fun (v7 : Value) (w7 : World) (R7 : w7.ownsRow (W.heap.size + 1) 41 5 v7 (j + 1) (ys ++ Ar.five X (.slice a4 X.path.length d4))) (hg7 : (w5.alloc (.cells #[.int .i64 X.kind, .string ⟨X.name.toArray⟩, .slice a4 X.path.length d4, .int .i64 X.num, .string ⟨X.text.toArray⟩] 41)).grownBy w7 (Value.slice a5 j d5).ownBlock) (hf7 : v7.ownBlock = (Value.slice a5 j d5).ownBlock ∨ v7.ownBlock = some (w5.alloc (.cells #[.int .i64 X.kind, .string ⟨X.name.toArray⟩, .slice a4 X.path.length d4, .int .i64 X.num, .string ⟨X.text.toArray⟩] 41)).heap.size) => HO5.out.push ((Below.refl _ w5).alloc (Nat.le_refl _) _) (nd := Ar.dt X) rfl (Ar.cells HP5.out) R7 hg7 hf7)
          clear hA5 HA1 B4 HR4 HTC HB2 z2 zf a2 a2' k1
          go_wp2_with (at_builtin; refine Ro.push rfl _ _ 36 41 5 72 _ rfl Try.underlying36 Ar.info rfl (by decide) _ rfl (HO5.out.own.alloc _) w5.heap.size (Ar.five X (.slice a4 X.path.length d4)) rfl (Gr.cells w5 (Ar.five X (.slice a4 X.path.length d4)) 41) rfl (Ar.ones X _ _ _) (by unfold maxLen; omega) (by omega) (by simp; omega) ?_; intro v7 w7 R7 hg7 hf7; have HN7 := Lib.hid (HPU.out v7 w7 R7 hg7 hf7); obtain ⟨a7, d7, rfl⟩ := Gr.form R7; have B7 : Below (W.heap.size + 1) w5 w7 := ((Below.refl (W.heap.size + 1) w5).alloc hsw _).grown hg7 (by simp; omega) (fun k e => (HO5.out.own.lt k e).1); have HB7 := Lib.hid B7; have HC7 := Lib.hid (HC5.out.on B7 (by omega)); clear R7 hg7 hf7 B7; have m1 := HC7.out.cell 1 rfl; have mf := HC7.out.frozen)
          go_roundw
          case rel =>
            have hs7 := HB7.out.size
            have hs5 := HS5.out
            refine ⟨j + 1, a7, d7, ys ++ Ar.five X (.slice a4 X.path.length d4), by omega, by go_num, HC7.out.set 1 _, ?_, ?_, ?_⟩
            · have h5 := Gr.Own.on (w' := w7.setCell ⟨W.heap.size, 1, none⟩ (.slice a7 (j + 1) d7)) HN7.out (by simp) (fun b' hb' _ _ => Below.heap_setCell _ _ _ _ (by show b' ≠ W.heap.size; omega)) (fun _ _ q => q)
              have e1 : [X].flatMap Ar.dt = Ar.dt X := by simp
              unfold Hid
              rw [HTJ.out, List.flatMap_append, e1]
              exact h5
            · exact ((HW.out.trans (B5.out.mono (by omega))).trans (HB7.out.mono (by omega))).setCell (p := ⟨W.heap.size, 1, none⟩) (Nat.le_refl _) _
            · simp; omega
          case measure => simp [intOf]; omega
        · have ej : j = c.args.length := by omega
          subst ej
          have dlj : decide ((c.args.length : Int) < (c.args.length : Int)) = false := decide_eq_false (by omega)
          have hli := HA.out.lies
          rw [List.take_length] at hli
          have HO4 := Lib.hid (HO.out.below HW.out)
          have HL4 : Hid (Dt.Lies wr (Gr.R w.heap.size (fun _ => False) wr (.slice a1 i d1)) (Ar.rows c.args) (.slice a5 c.args.length d5)) := Dt.Lies.on (fun k hk => by
            refine ⟨⟨by have := hk.1; have := HB.out.size; omega, hk.2.1, fun q => ?_, fun q => q, hk.2.2⟩, rfl⟩
            have := (HO.out.own.lt k q).2
            have := hk.1
            omega) hli
          have m0 := HC.out.cell 0 rfl
          have m1 := HC.out.cell 1 rfl
          have hsw : w.heap.size ≤ wr.heap.size := HBW.out.size
          have HPU := Lib.hid (fun (v7 : Value) (w7 : World) (R7 : w7.ownsRow w.heap.size 38 2 v7 (i + 1) (xs ++ Cm.two F (.slice a5 c.args.length d5))) (hg7 : (wr.alloc (.cells #[.string F, .slice a5 c.args.length d5] 38)).grownBy w7 (Value.slice a1 i d1).ownBlock) (hf7 : v7.ownBlock = (Value.slice a1 i d1).ownBlock ∨ v7.ownBlock = some (wr.alloc (.cells #[.string F, .slice a5 c.args.length d5] 38)).heap.size) => HO4.out.push ((Below.refl _ wr).alloc (Nat.le_refl _) _) (nd := Cm.dt c) rfl (Cm.cells HF.out.symm HL4.out) R7 hg7 hf7)
          clear HX3 HA hli HC
          go_wp2_with (at_builtin; refine Ro.push rfl _ _ 23 38 2 40 _ rfl Try.underlying23 Cm.info rfl (by decide) _ rfl (HO4.out.own.alloc _) wr.heap.size (Cm.two F (.slice a5 c.args.length d5)) rfl (Gr.cells wr (Cm.two F (.slice a5 c.args.length d5)) 38) rfl (Cm.ones _ _ _ _) (by unfold maxLen; omega) (by omega) (by simp; omega) ?_; intro v7 w7 R7 hg7 hf7; have HN7 := Lib.hid (HPU.out v7 w7 R7 hg7 hf7); obtain ⟨a7, d7, rfl⟩ := Gr.form R7; have HB7 := Lib.hid (((Below.refl w.heap.size wr).alloc hsw (.cells #[.string F, .slice a5 c.args.length d5] 38)).grown hg7 (by simp; omega) (fun k e => (HO4.out.own.lt k e).1)); clear R7 hg7 hf7)
          go_roundw
          case rel =>
            refine ⟨i + 1, a7, d7, xs ++ Cm.two F (.slice a5 c.args.length d5), by omega, rfl, by go_num, ?_, HBW.out.trans HB7.out⟩
            have e1 : [c].flatMap Cm.dt = Cm.dt c := by simp
            unfold Hid
            rw [HTK.out, List.flatMap_append, e1]
            exact HN7.out
          case measure => simp [intOf]; omega
    · have ei : i = cs.length := by omega
      subst ei
      have dlt : decide ((cs.length : Int) < (cs.length : Int)) = false := decide_eq_false (by omega)
      go_wp2_with fail
      go_ret
      exact ⟨_, _, _, rfl, by have := HO.out; rw [List.take_length] at this; exact this, HB.out⟩
theorem Cy.pipe (cs : List Cm) (v : Value) (R : Nat → Prop) (w : World) (h : Dt.Lies w R (Cm.rows cs) v) (hz : Cm.Small cs) :
    Calls Try.prog 12 #[v] w fun e w' => ∃ v', e = .returned v' ∧ Dt.Lies w' (fun b => w.heap.size ≤ b ∧ b < w'.heap.size ∧ Rm.Ub w' b) (Cm.rows cs) v' ∧ Below w.heap.size w w' := by
  refine (Cy.own cs v R w h hz).mono ?_
  rintro e w1 ⟨a, d, xs, rfl, ho, hb⟩
  exact ⟨_, rfl, ho.lies, hb⟩
end Go.Proofs.Ytjmobhohfcieoaa

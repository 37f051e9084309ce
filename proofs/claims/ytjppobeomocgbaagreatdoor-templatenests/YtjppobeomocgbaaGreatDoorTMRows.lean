/-
  THE WALK of the reference's reader.rows.
-/
import Derived.Test.YtjppobeomocgbaaGreatDoorTMFittoNMark
namespace Go.Proofs.YtjppobeomocgbaaGreatDoor
open Go.RowKit
theorem Tm.rows_end {ps : List Pc} {n deep i : Nat} {loop : Bool} {out : List It} (h : ps.length ≤ i) : Tm.rows ps n deep loop i out = .ok (out, 0, i) := by
  cases n with
  | zero => rfl
  | succ n =>
    unfold Tm.rows
    rw [List.getElem?_eq_none h]
theorem Tm.rows_text {ps : List Pc} {n deep i : Nat} {loop : Bool} {out : List It} {p : Pc} (h : ps[i]? = some p) (ha : p.act = false) : Tm.rows ps (n + 1) deep loop i out = Tm.rows ps n deep loop (i + 1) (out ++ [.mk 0 p.text [] [] []]) := by
  conv => lhs; unfold Tm.rows
  rw [h]
  simp only [ha, if_true]
/-- what rows makes of an action's words -/
def Tm.act (ps : List Pc) (n deep : Nat) (loop : Bool) (i : Nat) (out : List It) (r : List Wo × Int) : Except Int (List It × Nat × Nat) :=
  if r.2 ≠ 0 then .error r.2
  else if r.1 = [] then .error 1604
  else
    if (Tm.first r.1 = Tm.sElse ∨ Tm.first r.1 = Tm.sEnd ∨ Tm.first r.1 = Tm.sBreak ∨ Tm.first r.1 = Tm.sCont) ∧ 1 < r.1.length then .error 1604
    else if Tm.first r.1 = Tm.sElse then .ok (out, 1, i + 1)
    else if Tm.first r.1 = Tm.sEnd then .ok (out, 2, i + 1)
    else if (Tm.first r.1 = Tm.sBreak ∨ Tm.first r.1 = Tm.sCont) ∧ loop = false then .error 1602
    else
      match Tm.item (fun d l j => Tm.rows ps n d l j []) (Tm.first r.1) r.1 deep loop (i + 1) with
      | .error e => .error e
      | .ok (x, j) => Tm.rows ps n deep loop j (out ++ [x])
/-- behind an item -/
def Tm.go (ps : List Pc) (n deep : Nat) (loop : Bool) (out : List It) (G1 : Except Int (It × Nat)) : Except Int (List It × Nat × Nat) :=
  match G1 with
  | .error e => .error e
  | .ok (x, j) => Tm.rows ps n deep loop j (out ++ [x])
/-- .. by the action's first name -/
def Tm.act2 (ps : List Pc) (n deep : Nat) (loop : Bool) (i : Nat) (out : List It) (ws : List Wo) (w : List UInt8) : Except Int (List It × Nat × Nat) :=
  if (w = Tm.sElse ∨ w = Tm.sEnd ∨ w = Tm.sBreak ∨ w = Tm.sCont) ∧ 1 < ws.length then .error 1604
  else if w = Tm.sElse then .ok (out, 1, i + 1)
  else if w = Tm.sEnd then .ok (out, 2, i + 1)
  else if (w = Tm.sBreak ∨ w = Tm.sCont) ∧ loop = false then .error 1602
  else Tm.go ps n deep loop out (Tm.item (fun d l j => Tm.rows ps n d l j []) w ws deep loop (i + 1))
theorem Tm.rows_act {ps : List Pc} {n deep i : Nat} {loop : Bool} {out : List It} {p : Pc} (h : ps[i]? = some p) (ha : p.act = true) : Tm.rows ps (n + 1) deep loop i out = Tm.act ps n deep loop i out (Wx.words ⟨p.text.toArray⟩) := by
  conv => lhs; unfold Tm.rows
  rw [h]
  simp only [ha, Bool.true_eq_false, if_false]
  rfl
/-- rows under way -/
structure Tr.Rk (w wr : World) (g : Nat) (pv : Value) (j : Nat) (v : Value) (out : List It) (xs : List Value) : Prop where
  at_ : Tr.At wr g pv j 0
  kept : Cu.Kept w wr g
  own : It.Own w.heap.size g out wr v xs
  lt : g < w.heap.size
theorem Tr.Rk.then {w wr w' : World} {g : Nat} {pv : Value} {j j' : Nat} {v : Value} {out : List It} {xs : List Value} (h : Tr.Rk w wr g pv j v out xs) (hk : Cu.Kept wr w' g) (ha : Tr.At w' g pv j' 0) : Tr.Rk w w' g pv j' v out xs :=
  ⟨ha, h.kept.trans hk, h.own.on hk.size (fun b _ hb hg => hk.block b hb hg) (fun b hb hg => by have := (h.own.own.lt b hb).1; have := h.lt; omega), h.lt⟩
theorem Tr.Rk.at1 {w wr : World} {g : Nat} {pv : Value} {j : Nat} {v : Value} {out : List It} {xs : List Value} (h : Tr.Rk w wr g pv j v out xs) (q : Nat) : Tr.Rk w (wr.setCell ⟨g, 1, none⟩ (.int .i64 (q : Int))) g pv q v out xs := h.then ((Cu.Kept.refl _ _).set _ _) (h.at_.set1 q)
def It.five (k : Int) (t : ByteArray) (v2 v3 v4 : Value) : List Value := [.int .i64 k, .string t, v2, v3, v4]
theorem It.ones (k : Int) (t : ByteArray) (a2 : Option Addr) (n2 d2 : Nat) (a3 : Option Addr) (n3 d3 : Nat) (a4 : Option Addr) (n4 d4 : Nat) : ∀ u ∈ It.five k t (.slice a2 n2 d2) (.slice a3 n3 d3) (.slice a4 n4 d4), u.oneCell' = true := by
  intro u hu
  simp only [It.five, List.mem_cons, List.not_mem_nil, or_false] at hu
  rcases hu with rfl | rfl | rfl | rfl | rfl <;> rfl
/-- an item more -/
theorem Tr.Rk.push {w wr w4 : World} {g lo : Nat} {pv : Value} {j : Nat} {v v4 : Value} {out : List It} {xs news : List Value} {x : It} {ob : Obj} (h : Tr.Rk w wr g pv j v out xs) (hf : Mt.fits wr (Tr.L lo wr) (It.dt x) news) (hlo : w.heap.size ≤ lo) (hol : ∀ k, v.ownBlock = some k → k < lo) (hgl : g < lo)
    (hown : w4.ownsRow w.heap.size 37 5 v4 (out.length + 1) (xs ++ news)) (hg : (wr.alloc ob).grownBy w4 v.ownBlock) (hfr : v4.ownBlock = v.ownBlock ∨ v4.ownBlock = some (wr.alloc ob).heap.size) : Tr.Rk w w4 g pv j v4 (out ++ [x]) (xs ++ news) := by
  have hlt := h.lt
  have hks := h.kept.size
  have hz : wr.heap.size ≤ w4.heap.size := by have := hg.size; simp at this; omega
  have hgo : v.ownBlock ≠ some g := fun e => by have := (h.own.own.lt g e).1; omega
  have hblk : ∀ k, k < wr.heap.size → v.ownBlock ≠ some k → w4.heap[k]? = wr.heap[k]? := fun k hk hne => (hg.block k (by simp; omega) (fun e => hne e.symm)).trans (Below.heap_alloc _ _ _ hk)
  have hp := h.own.push (w1 := wr.alloc ob) ((Below.refl _ _).alloc (Nat.le_refl _) _) (nd := It.dt x) (news := news) (It.dt_len x) (fun q d hq => by
    obtain ⟨u, hu, hd⟩ := Mt.fits_get _ _ hf q d hq
    exact ⟨u, hu, hd.on fun b hb => ⟨⟨by have := hb.1; omega, hb.2.1, fun e => by have := hol b e; have := hb.1; omega, fun e => by have := hb.1; omega, hb.2.2⟩, rfl⟩⟩) hown hg hfr
  refine ⟨h.at_.same (hblk g h.at_.lt hgo), ⟨hg.os.trans h.kept.os, hg.tape.trans h.kept.tape, hg.output.trans h.kept.output, by omega, fun k hk hne => (hblk k (by omega) (fun e => by have := (h.own.own.lt k e).1; omega)).trans (h.kept.block k hk hne)⟩, ?_, hlt⟩
  have e : (out ++ [x]).flatMap It.dt = out.flatMap It.dt ++ It.dt x := by rw [List.flatMap_append]; simp
  show Gr.Own _ _ _ _ (out ++ [x]).length _ _ _ _
  rw [e, List.length_append]
  exact hp
def Tr.mes (N g : Nat) (u : World) : Nat := N + 1 - (intOf ((u.cell? ⟨g, 1, none⟩).getD undef)).toNat - (if intOf ((u.cell? ⟨g, 2, none⟩).getD undef) = 0 then 0 else N + 1)
theorem Tr.mes_ok {N g j : Nat} {u : World} {pv : Value} (h : Tr.At u g pv j 0) : Tr.mes N g u = N + 1 - j := by
  unfold Tr.mes
  rw [h.c1, h.c2]
  simp [intOf]
theorem Tr.mes_bad {N g j : Nat} {u : World} {pv : Value} {x : Int} (h : Tr.At u g pv j x) (hx : x ≠ 0) : Tr.mes N g u = 0 := by
  unfold Tr.mes
  rw [h.c1, h.c2]
  simp [intOf, hx]
set_option maxRecDepth 100000 in
set_option maxHeartbeats 8000000 in
theorem Tr.rowsStep (ps : List Pc) (g : Nat) (pv : Value) (hps : ∀ p ∈ ps, p.act = true → p.text.length ≤ 65536) (hpl : ps.length ≤ 1048576) (n : Nat) (HI : Tr.Rows ps g pv n) (HLO : ∀ m, m ≤ n → Tr.Rows ps g pv m) : Tr.Rows ps g pv (n + 1) := by
  intro deep loop i w hd hi hn hA hP
  have hgw := hA.lt
  obtain ⟨pa, pd, rfl, hp1, hp2, hpx⟩ := id hP
  obtain ⟨G, hG⟩ : ∃ G, Tm.rows ps (n + 1) deep loop i [] = G := ⟨_, rfl⟩
  rw [hG]
  have HG := Lib.hid hG
  have HS0 : Hid (Tr.Rk w w g (.slice pa ps.length pd) i (.slice none 0 0) [] []) := ⟨hA, Cu.Kept.refl _ _, Gr.Own.nil _ _ _ _ _, hgw⟩
  have HP := Lib.hid hP
  have HLL := Lib.hid HLO
  have HPS := Lib.hid hps
  clear hG hA hP hpx HI HLO hps
  go_enter Tryz.func19, Tryz.ntmps19
  go_wp2_with fail
  go_loopw [8] (fun v wr => ∃ (a : Option Addr) (nn d : Nat), v = .slice a nn d ∧ ((∃ (j m : Nat) (out : List It) (xs : List Value), i ≤ j ∧ j ≤ ps.length ∧ ps.length < j + m ∧ m ≤ n + 1 ∧ out.length ≤ j ∧ nn = out.length ∧ Hid (Tr.Rk w wr g (.slice pa ps.length pd) j v out xs) ∧ Hid (Tm.rows ps m deep loop j out = G)) ∨ (∃ (x : Int) (j : Nat), x ≠ 0 ∧ Hid (G = .error x) ∧ Hid (Tr.At wr g (.slice pa ps.length pd) j x) ∧ Hid (Cu.Kept w wr g)))) (fun _ wr => Tr.mes ps.length g wr)
  case atStart => exact ⟨none, 0, 0, rfl, .inl ⟨i, n + 1, [], [], Nat.le_refl _, hi, hn, Nat.le_refl _, Nat.zero_le _, rfl, HS0, HG⟩⟩
  case round =>
    clear HS0 HG
    obtain ⟨a, nn, d, rfl, hcase⟩ := hrel
    rcases hcase with ⟨j, m, out, xs, hij, hjN, hjm, hmn, hol, hnn, HS, HG⟩ | ⟨x, j, hx, HG, HA, HK⟩
    · have HNN := Lib.hid hnn
      clear hnn
      have c0 := HS.out.at_.c0
      have c1 := HS.out.at_.c1
      have c2 := HS.out.at_.c2
      by_cases hlt : j < ps.length
      · have dlt : decide ((j : Int) < (ps.length : Int)) = true := decide_eq_true (by omega)
        have dltn : decide (j < ps.length) = true := decide_eq_true hlt
        go_upto_region 2 with fail
        go_quiet (fail)
        have HS2 : Hid (Tr.Rk w (wr.drewN nq) g (.slice pa ps.length pd) j (.slice a nn d) out xs) := HS.out.then ((Cu.Kept.refl _ _).drewN nq) (HS.out.at_.drewN nq)
        have HMS := Lib.hid (Tr.mes_ok (N := ps.length) HS.out.at_)
        clear HS c0 c1 c2
        obtain ⟨MW, hMW⟩ : ∃ MW, Tr.mes ps.length g wr = MW := ⟨_, rfl⟩
        rw [hMW] at HMS
        have HMW := Lib.hid hMW
        clear hMW
        generalize wr.drewN nq = w2 at *
        have HW2 := Lib.hid HS2.out.kept.size
        obtain ⟨p, hp⟩ : ∃ p, ps[j]? = some p := ⟨ps[j], List.getElem?_eq_getElem hlt⟩
        obtain ⟨_, _, epv, _, _, hpx⟩ := Tr.pcs HP.out HS2.out.kept
        obtain ⟨b, o, e1, hbb, p0, p1, p2⟩ := hpx j p hp
        injection epv with ea _ ed
        subst ed
        subst ea
        subst e1
        have HPP := Lib.hid hp
        have c0 := HS2.out.at_.c0
        have c1 := HS2.out.at_.c1
        clear hpx hp hbb
        have hjd : j < pd := by omega
        obtain ⟨ZB, hZB⟩ : ∃ ZB, w2.alloc (.cells #[.bool false, .string ⟨#[]⟩, .int .i64 0] 58) = ZB := ⟨_, rfl⟩
        have hzb : Below w2.heap.size w2 (w2.alloc (.cells #[.bool false, .string ⟨#[]⟩, .int .i64 0] 58)) := (Below.refl _ _).alloc (Nat.le_refl _) _
        have z0 := (HS2.out.at_.then hzb).c0
        have z1 := (HS2.out.at_.then hzb).c1
        have y0 := Tp.keep hzb p0
        have y1 := Tp.keep hzb p1
        have y2 := Tp.keep hzb p2
        have HS3 : Hid (Tr.Rk w (w2.alloc (.cells #[.bool p.act, .string ⟨p.text.toArray⟩, .int .i64 (p.loc : Int)] 58)) g (.slice (some ⟨b, o, none⟩) ps.length pd) j (.slice a nn d) out xs) := HS2.out.then ((Cu.Kept.refl _ _).alloc _) (HS2.out.at_.then ((Below.refl _ _).alloc (Nat.le_refl _) _))
        have HB3 : Hid (Bs.Box (w2.alloc (.cells #[.bool p.act, .string ⟨p.text.toArray⟩, .int .i64 (p.loc : Int)] 58)) w2.heap.size #[.bool p.act, .string ⟨p.text.toArray⟩, .int .i64 (p.loc : Int)] 58) := Bs.Box.new _ _ _ _ rfl
        clear hZB hzb HS2
        go_upto_region 3 with fail
        go_cut [9] from 30 to 39 (fun v9 wx => v9 = .pointer (some ⟨w2.heap.size, 0, none⟩) ∧ ∃ n, wx = (w2.alloc (.cells #[.bool p.act, .string ⟨p.text.toArray⟩, .int .i64 (p.loc : Int)] 58)).drewN n)
        case first =>
          clear HS3 HB3 HG HLL HPS HP HMW HMS HPP
          go_region
          all_goals go_wp2
          all_goals go_meet
          all_goals exact ⟨rfl, 1, rfl⟩
        case rest =>
          obtain ⟨rfl, nw, hw⟩ := hcut
          have HS4 := Lib.hid (HS3.out.then ((Cu.Kept.refl _ _).drewN nw) (HS3.out.at_.drewN nw))
          have HB4 : Hid (Bs.Box wc w2.heap.size #[.bool p.act, .string ⟨p.text.toArray⟩, .int .i64 (p.loc : Int)] 58) := by rw [hw]; exact HB3.out
          rw [← hw] at HS4
          clear hw HS3 HB3 z0 z1 y0 y1 y2 p0 p1 p2 c0 c1 dlt dltn
          have hPg : g < w2.heap.size := Nat.lt_of_lt_of_le hgw (by have := HW2.out; omega)
          generalize w2.heap.size = P at *
          have c1 := HS4.out.at_.c1
          have f := HS4.out.at_.fz
          have HS5 := Lib.hid (HS4.out.at1 (j + 1))
          have HB5 : Hid (Bs.Box (wc.setCell ⟨g, 1, none⟩ (.int .i64 ((j + 1 : Nat) : Int))) P _ _) := (Below.heap_setCell _ _ _ _ (by show P ≠ g; omega)).trans HB4.out
          rw [show ((j + 1 : Nat) : Int) = (j : Int) + 1 by omega] at HS5 HB5
          go_upto_region 5 with fail
          clear HS4 HB4 c1 f
          generalize wc.setCell ⟨g, 1, none⟩ (.int .i64 ((j : Int) + 1)) = w5 at *
          have b0 : w5.cell? ⟨P, 0, none⟩ = some (.bool p.act) := HB5.out.cell 0 rfl
          have b1 : w5.cell? ⟨P, 1, none⟩ = some (.string ⟨p.text.toArray⟩) := HB5.out.cell 1 rfl
          obtain ⟨m, rfl⟩ : ∃ q, m = q + 1 := ⟨m - 1, by omega⟩
          cases hact : p.act with
          | false =>
            rw [hact] at b0
            have HG2 : Hid (Tm.rows ps m deep loop (j + 1) (out ++ [.mk 0 p.text [] [] []]) = G) := by unfold Hid; rw [← HG.out, Tm.rows_text HPP.out hact]
            clear HG hact HB5 HPP
            have hnn := HNN.out
            subst hnn
            have HO := Lib.hid HS5.out.own.own
            go_wp2_with (at_builtin; refine Ro.push rfl _ _ 22 37 5 96 _ rfl Tryz.underlying22 It.info rfl (by decide) _ rfl (HO.out.alloc _) w5.heap.size (It.five 0 ⟨p.text.toArray⟩ (.slice none 0 0) (.slice none 0 0) (.slice none 0 0)) rfl (Gr.cells w5 (It.five 0 ⟨p.text.toArray⟩ (.slice none 0 0) (.slice none 0 0) (.slice none 0 0)) 37) rfl (It.ones _ _ _ _ _ _ _ _ _ _ _) (by unfold maxLen; omega) (by omega) (by have := HS5.out.kept.size; simp; omega) ?_)
            intro v7 w7 R7 hg7 hf7
            obtain ⟨a7, d7, hv7⟩ := Gr.form R7
            subst hv7
            have HS7 := Lib.hid (HS5.out.push (lo := w5.heap.size) (x := .mk 0 p.text [] [] []) (news := It.five 0 ⟨p.text.toArray⟩ (.slice none 0 0) (.slice none 0 0) (.slice none 0 0)) (by rw [It.dt_mk]; exact ⟨Mt.i, Mt.s, Mt.n, Mt.n, Mt.n, trivial⟩) HS5.out.kept.size (fun k hk => (HS5.out.own.own.lt k hk).2) HS5.out.at_.lt R7 hg7 (by simpa using hf7))
            clear R7 hg7 hf7 HS5 HO b0 b1
            go_wp2_with fail
            go_roundw
            case rel => exact ⟨a7, _, d7, rfl, .inl ⟨j + 1, m, out ++ [.mk 0 p.text [] [] []], _, by omega, hlt, by omega, by omega, by simp; omega, by simp, HS7, HG2⟩⟩
            case measure => rw [Tr.mes_ok HS7.out.at_, HMW.out, HMS.out]; omega
          | true =>
            rw [hact] at b0
            have hp6 : p.text.length ≤ 65536 := HPS.out p (List.mem_of_getElem? HPP.out) hact
            have hsz6 : (⟨p.text.toArray⟩ : ByteArray).size ≤ 65536 := by show p.text.toArray.size ≤ 65536; rw [List.size_toArray]; exact hp6
            have HG2 : Hid (Tm.act ps m deep loop j out (Wx.words ⟨p.text.toArray⟩) = G) := by unfold Hid; rw [← HG.out, Tm.rows_act HPP.out hact]
            have wd := Lr.words ⟨p.text.toArray⟩ w5 (by omega)
            have ft := Tm.fit ⟨p.text.toArray⟩ hsz6
            obtain ⟨R, hR⟩ : ∃ R, Wx.words ⟨p.text.toArray⟩ = R := ⟨_, rfl⟩
            rw [hR] at wd ft HG2
            obtain ⟨ws, E⟩ := R
            dsimp only at wd ft
            have HFT := Lib.hid ft
            clear HG hact hR ft hsz6 hp6 HPP HB5
            go_upto_region 8 with (go_at_call 36; refine wd.mono ?_; rintro e w6 ⟨v', rfl, hl, hb⟩; have HS6 := Lib.hid (HS5.out.then ((Cu.Kept.refl _ _).then hb) (HS5.out.at_.then hb)); have HL0 := Lib.hid hl; clear hl hb wd b0 b1)
            obtain ⟨va, vd, hv6, hvd1, hvd2, hvx⟩ := id HL0.out
            subst hv6
            have HL6 := HL0
            have HVX := Lib.hid hvx
            clear HS5 HL0 hvx
            have c2 := HS6.out.at_.c2
            have f := HS6.out.at_.fz
            by_cases hE : E = 0
            · subst hE
              by_cases hw : ws = []
              · subst hw
                have hG : .error 1604 = G := HG2.out
                subst hG
                clear HG2 HL6 HFT HVX hvd1
                go_wp2_with fail
                go_ret2
                exact ⟨none, 0, 0, ⟨#[]⟩, rfl, HS6.out.kept.set _ _, fun y hy => (by injection hy with hy; subst hy; exact ⟨(by decide), j + 1, HS6.out.at_.set2 _⟩), fun o t j' hy => (by cases hy)⟩
              · have hw0 : 0 < ws.length := List.length_pos_iff.2 hw
                have hw1 : ¬ (ws.length : Int) = 0 := by omega
                have l0 : ((ws.length : Int) == 0) = false := beq_eq_false_iff_ne.2 (by omega)
                have l0n : (ws.length == 0) = false := beq_eq_false_iff_ne.2 (by omega)
                have HNE := Lib.hid hw
                obtain ⟨x, hxx⟩ : ∃ x, ws[0]? = some x := ⟨ws[0], List.getElem?_eq_getElem hw0⟩
                obtain ⟨b6, o6, pv6, e6, _, q0, q1, _, _, _⟩ := HVX.out 0 x hxx
                subst e6
                rw [show o6 + 0 * 4 = o6 by omega] at q0 q1
                have hd0 : 0 < vd := by omega
                have hfst : Tm.first ws = if x.kind = 0 then x.text else [] := by
                  match ws, hw, hxx with
                  | z :: rest, _, hxx =>
                    have hxx : z = x := by simpa using hxx
                    subst hxx
                    rfl
                have HG3 : Hid (Tm.act2 ps m deep loop j out ws (if x.kind = 0 then x.text else []) = G) := by
                  have hG := HG2.out
                  unfold Tm.act at hG
                  dsimp only at hG
                  rw [if_neg (by decide), if_neg hw, hfst] at hG
                  exact hG
                clear HG2 hw hxx hfst
                by_cases k0 : x.kind = 0
                · have r0 : ((x.kind : Int) == 0) = true := beq_iff_eq.2 (by omega)
                  rw [if_pos k0] at HG3
                  clear k0
                  go_upto_region 17 with fail
                  clear q0 q1 r0 HVX
                  obtain ⟨F, hF⟩ : ∃ F : ByteArray, ⟨x.text.toArray⟩ = F := ⟨_, rfl⟩
                  rw [hF]
                  have eFx : F.data.toList = x.text := by rw [← hF]
                  rw [← eFx] at HG3
                  clear hF eFx
                  by_cases hElse : F.data.toList = Tm.sElse
                  · obtain rfl : F = ⟨#[101, 108, 115, 101]⟩ := Tm.is F _ hElse
                    clear hElse
                    by_cases hl2 : 1 < ws.length
                    · have dl : decide ((1 : Int) < (ws.length : Int)) = true := decide_eq_true (by omega)
                      have dln : decide (1 < ws.length) = true := decide_eq_true hl2
                      have hG : .error 1604 = G := by rw [← HG3.out]; unfold Tm.act2; rw [if_pos ⟨by decide, hl2⟩]
                      subst hG
                      clear HG3 HL6 HFT
                      go_wp2_with fail
                      go_ret2
                      exact ⟨none, 0, 0, ⟨#[]⟩, rfl, HS6.out.kept.set _ _, fun y hy => (by injection hy with hy; subst hy; exact ⟨(by decide), j + 1, HS6.out.at_.set2 _⟩), fun o t j' hy => (by cases hy)⟩
                    · have dl : decide ((1 : Int) < (ws.length : Int)) = false := decide_eq_false (by omega)
                      have dln : decide (1 < ws.length) = false := decide_eq_false hl2
                      have hG : .ok (out, 1, j + 1) = G := by rw [← HG3.out]; unfold Tm.act2; rw [if_neg (fun q => hl2 q.2)]; rfl
                      subst hG
                      clear HG3 HL6 HFT
                      go_wp2_with fail
                      go_ret2
                      have hnn := HNN.out
                      subst hnn
                      exact ⟨a, out.length, d, _, rfl, HS6.out.kept, fun y hy => (by cases hy), fun o' t' j' hy => (by injection hy with hy; injection hy with h1 h2; injection h2 with h2 h3; subst h1 h2 h3; exact ⟨rfl, by decide, by omega, by omega, HS6.out.at_, HS6.out.own.lies⟩)⟩
                  · skip
                    by_cases hEnd : F.data.toList = Tm.sEnd
                    · obtain rfl : F = ⟨#[101, 110, 100]⟩ := Tm.is F _ hEnd
                      clear hEnd hElse
                      by_cases hl2 : 1 < ws.length
                      · have dl : decide ((1 : Int) < (ws.length : Int)) = true := decide_eq_true (by omega)
                        have dln : decide (1 < ws.length) = true := decide_eq_true hl2
                        have hG : .error 1604 = G := by rw [← HG3.out]; unfold Tm.act2; rw [if_pos ⟨by decide, hl2⟩]
                        subst hG
                        clear HG3 HL6 HFT
                        go_wp2_with fail
                        go_ret2
                        exact ⟨none, 0, 0, ⟨#[]⟩, rfl, HS6.out.kept.set _ _, fun y hy => (by injection hy with hy; subst hy; exact ⟨(by decide), j + 1, HS6.out.at_.set2 _⟩), fun o t j' hy => (by cases hy)⟩
                      · have dl : decide ((1 : Int) < (ws.length : Int)) = false := decide_eq_false (by omega)
                        have dln : decide (1 < ws.length) = false := decide_eq_false hl2
                        have hG : .ok (out, 2, j + 1) = G := by rw [← HG3.out]; unfold Tm.act2; rw [if_neg (fun q => hl2 q.2)]; rfl
                        subst hG
                        clear HG3 HL6 HFT
                        go_wp2_with fail
                        go_ret2
                        have hnn := HNN.out
                        subst hnn
                        exact ⟨a, out.length, d, _, rfl, HS6.out.kept, fun y hy => (by cases hy), fun o' t' j' hy => (by injection hy with hy; injection hy with h1 h2; injection h2 with h2 h3; subst h1 h2 h3; exact ⟨rfl, by decide, by omega, by omega, HS6.out.at_, HS6.out.own.lies⟩)⟩
                    · skip
                      by_cases hBreak : F.data.toList = Tm.sBreak
                      · obtain rfl : F = ⟨#[98, 114, 101, 97, 107]⟩ := Tm.is F _ hBreak
                        clear hBreak hElse hEnd
                        by_cases hl2 : 1 < ws.length
                        · have dl : decide ((1 : Int) < (ws.length : Int)) = true := decide_eq_true (by omega)
                          have dln : decide (1 < ws.length) = true := decide_eq_true hl2
                          have hG : .error 1604 = G := by rw [← HG3.out]; unfold Tm.act2; rw [if_pos ⟨by decide, hl2⟩]
                          subst hG
                          clear HG3 HL6 HFT
                          go_wp2_with fail
                          go_ret2
                          exact ⟨none, 0, 0, ⟨#[]⟩, rfl, HS6.out.kept.set _ _, fun y hy => (by injection hy with hy; subst hy; exact ⟨(by decide), j + 1, HS6.out.at_.set2 _⟩), fun o t j' hy => (by cases hy)⟩
                        · have dl : decide ((1 : Int) < (ws.length : Int)) = false := decide_eq_false (by omega)
                          have dln : decide (1 < ws.length) = false := decide_eq_false hl2
                          cases loop with
                          | false =>
                            have hG : .error 1602 = G := by rw [← HG3.out]; unfold Tm.act2; rw [if_neg (fun q => hl2 q.2)]; rfl
                            subst hG
                            clear HG3 HL6 HFT
                            go_wp2_with fail
                            go_ret2
                            exact ⟨none, 0, 0, ⟨#[]⟩, rfl, HS6.out.kept.set _ _, fun y hy => (by injection hy with hy; subst hy; exact ⟨(by decide), j + 1, HS6.out.at_.set2 _⟩), fun o t j' hy => (by cases hy)⟩
                          | true =>
                            replace HG3 : Hid (Tm.go ps m deep true out (Tm.item (fun d l j => Tm.rows ps m d l j []) (⟨#[98, 114, 101, 97, 107]⟩ : ByteArray).data.toList ws deep true (j + 1)) = G) := by
                              have hG := HG3.out
                              unfold Tm.act2 at hG
                              rw [if_neg (fun q => hl2 q.2)] at hG
                              exact hG
                            have hnn := HNN.out
                            subst hnn
                            have HO6 := Lib.hid HS6.out.own
                            have it := Tr.item ⟨#[98, 114, 101, 97, 107]⟩ ws (.slice (some ⟨b6, o6, none⟩) ws.length vd) _ ps m deep true (j + 1) g (.slice (some ⟨b, o, none⟩) ps.length pd) w6 (HLL.out m (by omega)) HS6.out.at_ (Tr.pcs HP.out HS6.out.kept) HL6.out HFT.out hd (by omega) (by omega) HNE.out
                            obtain ⟨G1, hG1⟩ : ∃ G1, Tm.item (fun d l j => Tm.rows ps m d l j []) (⟨#[98, 114, 101, 97, 107]⟩ : ByteArray).data.toList ws deep true (j + 1) = G1 := ⟨_, rfl⟩
                            rw [hG1] at it
                            have HG4 : Hid ((Tm.go ps m deep true out G1) = G) := by rw [← hG1]; exact HG3.out
                            clear HG3 hG1 HL6 HFT
                            go_upto_region 26 with fail
                            go_wp2_with (first | (go_at_call 37; refine it.mono ?_; rintro e w7 ⟨⟨k7, t7, a2, n2, d2, a3, n3, d3, a4, n4, d4, rfl, kk, er, ok⟩⟩; have HK7 := Lib.hid kk; have ER := Lib.hid er; have OK := Lib.hid ok; have HO7 := Lib.hid (HO6.out.on kk.size (fun b _ hb hg => kk.block b hb hg) (fun b hb hg => by have := (HO6.out.own.lt b hb).1; omega)).own; have HZ7 := Lib.hid (Nat.le_trans HS6.out.kept.size kk.size); clear kk er ok it) | (at_builtin; refine Ro.push rfl _ _ 22 37 5 96 _ rfl Tryz.underlying22 It.info rfl (by decide) _ rfl (HO7.out.alloc _) w7.heap.size (It.five k7 t7 (.slice a2 n2 d2) (.slice a3 n3 d3) (.slice a4 n4 d4)) rfl (Gr.cells w7 (It.five k7 t7 (.slice a2 n2 d2) (.slice a3 n3 d3) (.slice a4 n4 d4)) 37) rfl (It.ones _ _ _ _ _ _ _ _ _ _ _) (by unfold maxLen; omega) (by omega) (by have := HZ7.out; simp; omega) ?_))
                            intro v8 w8 R8 hg8 hf8
                            obtain ⟨a8, d8, hv8⟩ := Gr.form R8
                            subst hv8
                            cases G1 with
                            | error y =>
                              obtain ⟨hy, j7, at7⟩ := ER.out y rfl
                              have hG : G = .error y := HG4.out.symm
                              have hz8 : w7.heap.size ≤ w8.heap.size := by have := hg8.size; simp at this; omega
                              have hgo : (Value.slice a out.length d).ownBlock ≠ some g := fun e => by have := (HO7.out.lt g e).1; omega
                              have hblk : ∀ q, q < w7.heap.size → (Value.slice a out.length d).ownBlock ≠ some q → w8.heap[q]? = w7.heap[q]? := fun q hq hne => (hg8.block q (by simp; omega) (fun e => hne e.symm)).trans (Below.heap_alloc _ _ _ hq)
                              have HA8 : Hid (Tr.At w8 g (.slice (some ⟨b, o, none⟩) ps.length pd) j7 y) := at7.same (hblk g at7.lt hgo)
                              have HK8 : Hid (Cu.Kept w w8 g) := by
                                have h1 := HS6.out.kept.trans HK7.out
                                exact ⟨hg8.os.trans h1.os, hg8.tape.trans h1.tape, hg8.output.trans h1.output, Nat.le_trans h1.size hz8, fun q hq hne => (hblk q (Nat.lt_of_lt_of_le hq h1.size) (fun e => by have := (HO7.out.lt q e).1; omega)).trans (h1.block q hq hne)⟩
                              have HGG := Lib.hid hG
                              have HY := Lib.hid hy
                              clear R8 hg8 hf8 hblk hgo hz8 at7 ER OK HK7 HO7 HO6 HG4 hG hy
                              go_wp2_with fail
                              go_roundw
                              case rel => exact ⟨a8, _, d8, rfl, .inr ⟨y, j7, HY.out, HGG, HA8, HK8⟩⟩
                              case measure => rw [Tr.mes_bad HA8.out HY.out, HMW.out, HMS.out]; omega
                            | ok q7 =>
                              obtain ⟨x7, j7⟩ := q7
                              obtain ⟨hj7, hj7N, at7, fit7⟩ := OK.out x7 j7 rfl
                              have HS7 := Lib.hid (HS6.out.then HK7.out at7)
                              have hk67 := HK7.out.size
                              have hs6 := HS6.out.kept.size
                              have HS8 := Lib.hid (HS7.out.push (lo := w6.heap.size) (x := x7) (news := It.five k7 t7 (.slice a2 n2 d2) (.slice a3 n3 d3) (.slice a4 n4 d4)) fit7 hs6 (fun q hq => (HO6.out.own.lt q hq).2) HS6.out.at_.lt R8 hg8 (by simpa using hf8))
                              have HG5 : Hid (Tm.rows ps m deep true j7 (out ++ [x7]) = G) := HG4.out
                              clear R8 hg8 hf8 at7 fit7 ER OK HK7 HO7 HO6 HG4 HS7 hk67 hs6
                              go_wp2_with fail
                              go_roundw
                              case rel => exact ⟨a8, _, d8, rfl, .inl ⟨j7, m, out ++ [x7], _, by omega, hj7N, by omega, by omega, by simp; omega, by simp, HS8, HG5⟩⟩
                              case measure => rw [Tr.mes_ok HS8.out.at_, HMW.out, HMS.out]; omega
                      · skip
                        by_cases hCont : F.data.toList = Tm.sCont
                        · obtain rfl : F = ⟨#[99, 111, 110, 116, 105, 110, 117, 101]⟩ := Tm.is F _ hCont
                          clear hCont hElse hEnd hBreak
                          by_cases hl2 : 1 < ws.length
                          · have dl : decide ((1 : Int) < (ws.length : Int)) = true := decide_eq_true (by omega)
                            have dln : decide (1 < ws.length) = true := decide_eq_true hl2
                            have hG : .error 1604 = G := by rw [← HG3.out]; unfold Tm.act2; rw [if_pos ⟨by decide, hl2⟩]
                            subst hG
                            clear HG3 HL6 HFT
                            go_wp2_with fail
                            go_ret2
                            exact ⟨none, 0, 0, ⟨#[]⟩, rfl, HS6.out.kept.set _ _, fun y hy => (by injection hy with hy; subst hy; exact ⟨(by decide), j + 1, HS6.out.at_.set2 _⟩), fun o t j' hy => (by cases hy)⟩
                          · have dl : decide ((1 : Int) < (ws.length : Int)) = false := decide_eq_false (by omega)
                            have dln : decide (1 < ws.length) = false := decide_eq_false hl2
                            cases loop with
                            | false =>
                              have hG : .error 1602 = G := by rw [← HG3.out]; unfold Tm.act2; rw [if_neg (fun q => hl2 q.2)]; rfl
                              subst hG
                              clear HG3 HL6 HFT
                              go_wp2_with fail
                              go_ret2
                              exact ⟨none, 0, 0, ⟨#[]⟩, rfl, HS6.out.kept.set _ _, fun y hy => (by injection hy with hy; subst hy; exact ⟨(by decide), j + 1, HS6.out.at_.set2 _⟩), fun o t j' hy => (by cases hy)⟩
                            | true =>
                              replace HG3 : Hid (Tm.go ps m deep true out (Tm.item (fun d l j => Tm.rows ps m d l j []) (⟨#[99, 111, 110, 116, 105, 110, 117, 101]⟩ : ByteArray).data.toList ws deep true (j + 1)) = G) := by
                                have hG := HG3.out
                                unfold Tm.act2 at hG
                                rw [if_neg (fun q => hl2 q.2)] at hG
                                exact hG
                              have hnn := HNN.out
                              subst hnn
                              have HO6 := Lib.hid HS6.out.own
                              have it := Tr.item ⟨#[99, 111, 110, 116, 105, 110, 117, 101]⟩ ws (.slice (some ⟨b6, o6, none⟩) ws.length vd) _ ps m deep true (j + 1) g (.slice (some ⟨b, o, none⟩) ps.length pd) w6 (HLL.out m (by omega)) HS6.out.at_ (Tr.pcs HP.out HS6.out.kept) HL6.out HFT.out hd (by omega) (by omega) HNE.out
                              obtain ⟨G1, hG1⟩ : ∃ G1, Tm.item (fun d l j => Tm.rows ps m d l j []) (⟨#[99, 111, 110, 116, 105, 110, 117, 101]⟩ : ByteArray).data.toList ws deep true (j + 1) = G1 := ⟨_, rfl⟩
                              rw [hG1] at it
                              have HG4 : Hid ((Tm.go ps m deep true out G1) = G) := by rw [← hG1]; exact HG3.out
                              clear HG3 hG1 HL6 HFT
                              go_upto_region 26 with fail
                              go_wp2_with (first | (go_at_call 37; refine it.mono ?_; rintro e w7 ⟨⟨k7, t7, a2, n2, d2, a3, n3, d3, a4, n4, d4, rfl, kk, er, ok⟩⟩; have HK7 := Lib.hid kk; have ER := Lib.hid er; have OK := Lib.hid ok; have HO7 := Lib.hid (HO6.out.on kk.size (fun b _ hb hg => kk.block b hb hg) (fun b hb hg => by have := (HO6.out.own.lt b hb).1; omega)).own; have HZ7 := Lib.hid (Nat.le_trans HS6.out.kept.size kk.size); clear kk er ok it) | (at_builtin; refine Ro.push rfl _ _ 22 37 5 96 _ rfl Tryz.underlying22 It.info rfl (by decide) _ rfl (HO7.out.alloc _) w7.heap.size (It.five k7 t7 (.slice a2 n2 d2) (.slice a3 n3 d3) (.slice a4 n4 d4)) rfl (Gr.cells w7 (It.five k7 t7 (.slice a2 n2 d2) (.slice a3 n3 d3) (.slice a4 n4 d4)) 37) rfl (It.ones _ _ _ _ _ _ _ _ _ _ _) (by unfold maxLen; omega) (by omega) (by have := HZ7.out; simp; omega) ?_))
                              intro v8 w8 R8 hg8 hf8
                              obtain ⟨a8, d8, hv8⟩ := Gr.form R8
                              subst hv8
                              cases G1 with
                              | error y =>
                                obtain ⟨hy, j7, at7⟩ := ER.out y rfl
                                have hG : G = .error y := HG4.out.symm
                                have hz8 : w7.heap.size ≤ w8.heap.size := by have := hg8.size; simp at this; omega
                                have hgo : (Value.slice a out.length d).ownBlock ≠ some g := fun e => by have := (HO7.out.lt g e).1; omega
                                have hblk : ∀ q, q < w7.heap.size → (Value.slice a out.length d).ownBlock ≠ some q → w8.heap[q]? = w7.heap[q]? := fun q hq hne => (hg8.block q (by simp; omega) (fun e => hne e.symm)).trans (Below.heap_alloc _ _ _ hq)
                                have HA8 : Hid (Tr.At w8 g (.slice (some ⟨b, o, none⟩) ps.length pd) j7 y) := at7.same (hblk g at7.lt hgo)
                                have HK8 : Hid (Cu.Kept w w8 g) := by
                                  have h1 := HS6.out.kept.trans HK7.out
                                  exact ⟨hg8.os.trans h1.os, hg8.tape.trans h1.tape, hg8.output.trans h1.output, Nat.le_trans h1.size hz8, fun q hq hne => (hblk q (Nat.lt_of_lt_of_le hq h1.size) (fun e => by have := (HO7.out.lt q e).1; omega)).trans (h1.block q hq hne)⟩
                                have HGG := Lib.hid hG
                                have HY := Lib.hid hy
                                clear R8 hg8 hf8 hblk hgo hz8 at7 ER OK HK7 HO7 HO6 HG4 hG hy
                                go_wp2_with fail
                                go_roundw
                                case rel => exact ⟨a8, _, d8, rfl, .inr ⟨y, j7, HY.out, HGG, HA8, HK8⟩⟩
                                case measure => rw [Tr.mes_bad HA8.out HY.out, HMW.out, HMS.out]; omega
                              | ok q7 =>
                                obtain ⟨x7, j7⟩ := q7
                                obtain ⟨hj7, hj7N, at7, fit7⟩ := OK.out x7 j7 rfl
                                have HS7 := Lib.hid (HS6.out.then HK7.out at7)
                                have hk67 := HK7.out.size
                                have hs6 := HS6.out.kept.size
                                have HS8 := Lib.hid (HS7.out.push (lo := w6.heap.size) (x := x7) (news := It.five k7 t7 (.slice a2 n2 d2) (.slice a3 n3 d3) (.slice a4 n4 d4)) fit7 hs6 (fun q hq => (HO6.out.own.lt q hq).2) HS6.out.at_.lt R8 hg8 (by simpa using hf8))
                                have HG5 : Hid (Tm.rows ps m deep true j7 (out ++ [x7]) = G) := HG4.out
                                clear R8 hg8 hf8 at7 fit7 ER OK HK7 HO7 HO6 HG4 HS7 hk67 hs6
                                go_wp2_with fail
                                go_roundw
                                case rel => exact ⟨a8, _, d8, rfl, .inl ⟨j7, m, out ++ [x7], _, by omega, hj7N, by omega, by omega, by simp; omega, by simp, HS8, HG5⟩⟩
                                case measure => rw [Tr.mes_ok HS8.out.at_, HMW.out, HMS.out]; omega
                        · skip
                          have eE : (F.toList == [101, 108, 115, 101]) = false := by rw [ByteArray.toList_eq]; exact beq_eq_false_iff_ne.2 hElse
                          have eN : (F.toList == [101, 110, 100]) = false := by rw [ByteArray.toList_eq]; exact beq_eq_false_iff_ne.2 hEnd
                          have eB : (F.toList == [98, 114, 101, 97, 107]) = false := by rw [ByteArray.toList_eq]; exact beq_eq_false_iff_ne.2 hBreak
                          have eC : (F.toList == [99, 111, 110, 116, 105, 110, 117, 101]) = false := by rw [ByteArray.toList_eq]; exact beq_eq_false_iff_ne.2 hCont
                          replace HG3 : Hid (Tm.go ps m deep loop out (Tm.item (fun d l j => Tm.rows ps m d l j []) F.data.toList ws deep loop (j + 1)) = G) := by
                            have hG := HG3.out
                            unfold Tm.act2 at hG
                            rw [if_neg (fun q => q.1.elim hElse (fun q => q.elim hEnd (fun q => q.elim hBreak hCont))), if_neg hElse, if_neg hEnd, if_neg (fun q => q.1.elim hBreak hCont)] at hG
                            exact hG
                          clear hElse hEnd hBreak hCont
                          have hnn := HNN.out
                          subst hnn
                          have HO6 := Lib.hid HS6.out.own
                          have it := Tr.item F ws (.slice (some ⟨b6, o6, none⟩) ws.length vd) _ ps m deep loop (j + 1) g (.slice (some ⟨b, o, none⟩) ps.length pd) w6 (HLL.out m (by omega)) HS6.out.at_ (Tr.pcs HP.out HS6.out.kept) HL6.out HFT.out hd (by omega) (by omega) HNE.out
                          obtain ⟨G1, hG1⟩ : ∃ G1, Tm.item (fun d l j => Tm.rows ps m d l j []) (F : ByteArray).data.toList ws deep loop (j + 1) = G1 := ⟨_, rfl⟩
                          rw [hG1] at it
                          have HG4 : Hid ((Tm.go ps m deep loop out G1) = G) := by rw [← hG1]; exact HG3.out
                          clear HG3 hG1 HL6 HFT
                          go_upto_region 26 with fail
                          go_wp2_with (first | (go_at_call 37; refine it.mono ?_; rintro e w7 ⟨⟨k7, t7, a2, n2, d2, a3, n3, d3, a4, n4, d4, rfl, kk, er, ok⟩⟩; have HK7 := Lib.hid kk; have ER := Lib.hid er; have OK := Lib.hid ok; have HO7 := Lib.hid (HO6.out.on kk.size (fun b _ hb hg => kk.block b hb hg) (fun b hb hg => by have := (HO6.out.own.lt b hb).1; omega)).own; have HZ7 := Lib.hid (Nat.le_trans HS6.out.kept.size kk.size); clear kk er ok it) | (at_builtin; refine Ro.push rfl _ _ 22 37 5 96 _ rfl Tryz.underlying22 It.info rfl (by decide) _ rfl (HO7.out.alloc _) w7.heap.size (It.five k7 t7 (.slice a2 n2 d2) (.slice a3 n3 d3) (.slice a4 n4 d4)) rfl (Gr.cells w7 (It.five k7 t7 (.slice a2 n2 d2) (.slice a3 n3 d3) (.slice a4 n4 d4)) 37) rfl (It.ones _ _ _ _ _ _ _ _ _ _ _) (by unfold maxLen; omega) (by omega) (by have := HZ7.out; simp; omega) ?_))
                          intro v8 w8 R8 hg8 hf8
                          obtain ⟨a8, d8, hv8⟩ := Gr.form R8
                          subst hv8
                          cases G1 with
                          | error y =>
                            obtain ⟨hy, j7, at7⟩ := ER.out y rfl
                            have hG : G = .error y := HG4.out.symm
                            have hz8 : w7.heap.size ≤ w8.heap.size := by have := hg8.size; simp at this; omega
                            have hgo : (Value.slice a out.length d).ownBlock ≠ some g := fun e => by have := (HO7.out.lt g e).1; omega
                            have hblk : ∀ q, q < w7.heap.size → (Value.slice a out.length d).ownBlock ≠ some q → w8.heap[q]? = w7.heap[q]? := fun q hq hne => (hg8.block q (by simp; omega) (fun e => hne e.symm)).trans (Below.heap_alloc _ _ _ hq)
                            have HA8 : Hid (Tr.At w8 g (.slice (some ⟨b, o, none⟩) ps.length pd) j7 y) := at7.same (hblk g at7.lt hgo)
                            have HK8 : Hid (Cu.Kept w w8 g) := by
                              have h1 := HS6.out.kept.trans HK7.out
                              exact ⟨hg8.os.trans h1.os, hg8.tape.trans h1.tape, hg8.output.trans h1.output, Nat.le_trans h1.size hz8, fun q hq hne => (hblk q (Nat.lt_of_lt_of_le hq h1.size) (fun e => by have := (HO7.out.lt q e).1; omega)).trans (h1.block q hq hne)⟩
                            have HGG := Lib.hid hG
                            have HY := Lib.hid hy
                            clear R8 hg8 hf8 hblk hgo hz8 at7 ER OK HK7 HO7 HO6 HG4 hG hy
                            go_wp2_with fail
                            go_roundw
                            case rel => exact ⟨a8, _, d8, rfl, .inr ⟨y, j7, HY.out, HGG, HA8, HK8⟩⟩
                            case measure => rw [Tr.mes_bad HA8.out HY.out, HMW.out, HMS.out]; omega
                          | ok q7 =>
                            obtain ⟨x7, j7⟩ := q7
                            obtain ⟨hj7, hj7N, at7, fit7⟩ := OK.out x7 j7 rfl
                            have HS7 := Lib.hid (HS6.out.then HK7.out at7)
                            have hk67 := HK7.out.size
                            have hs6 := HS6.out.kept.size
                            have HS8 := Lib.hid (HS7.out.push (lo := w6.heap.size) (x := x7) (news := It.five k7 t7 (.slice a2 n2 d2) (.slice a3 n3 d3) (.slice a4 n4 d4)) fit7 hs6 (fun q hq => (HO6.out.own.lt q hq).2) HS6.out.at_.lt R8 hg8 (by simpa using hf8))
                            have HG5 : Hid (Tm.rows ps m deep loop j7 (out ++ [x7]) = G) := HG4.out
                            clear R8 hg8 hf8 at7 fit7 ER OK HK7 HO7 HO6 HG4 HS7 hk67 hs6
                            go_wp2_with fail
                            go_roundw
                            case rel => exact ⟨a8, _, d8, rfl, .inl ⟨j7, m, out ++ [x7], _, by omega, hj7N, by omega, by omega, by simp; omega, by simp, HS8, HG5⟩⟩
                            case measure => rw [Tr.mes_ok HS8.out.at_, HMW.out, HMS.out]; omega
                · have r0 : ((x.kind : Int) == 0) = false := beq_eq_false_iff_ne.2 (by omega)
                  rw [if_neg k0] at HG3
                  clear k0
                  replace HG3 : Hid (Tm.go ps m deep loop out (Tm.item (fun d l j => Tm.rows ps m d l j []) (⟨#[]⟩ : ByteArray).data.toList ws deep loop (j + 1)) = G) := by
                    have hG := HG3.out
                    unfold Tm.act2 at hG
                    rw [if_neg (fun q => by rcases q.1 with h | h | h | h <;> cases h), if_neg (by decide), if_neg (by decide), if_neg (fun q => by rcases q.1 with h | h <;> cases h)] at hG
                    exact hG
                  clear HVX
                  have hnn := HNN.out
                  subst hnn
                  have HO6 := Lib.hid HS6.out.own
                  have it := Tr.item ⟨#[]⟩ ws (.slice (some ⟨b6, o6, none⟩) ws.length vd) _ ps m deep loop (j + 1) g (.slice (some ⟨b, o, none⟩) ps.length pd) w6 (HLL.out m (by omega)) HS6.out.at_ (Tr.pcs HP.out HS6.out.kept) HL6.out HFT.out hd (by omega) (by omega) HNE.out
                  obtain ⟨G1, hG1⟩ : ∃ G1, Tm.item (fun d l j => Tm.rows ps m d l j []) (⟨#[]⟩ : ByteArray).data.toList ws deep loop (j + 1) = G1 := ⟨_, rfl⟩
                  rw [hG1] at it
                  have HG4 : Hid ((Tm.go ps m deep loop out G1) = G) := by rw [← hG1]; exact HG3.out
                  clear HG3 hG1 HL6 HFT
                  go_upto_region 26 with fail
                  go_wp2_with (first | (go_at_call 37; refine it.mono ?_; rintro e w7 ⟨⟨k7, t7, a2, n2, d2, a3, n3, d3, a4, n4, d4, rfl, kk, er, ok⟩⟩; have HK7 := Lib.hid kk; have ER := Lib.hid er; have OK := Lib.hid ok; have HO7 := Lib.hid (HO6.out.on kk.size (fun b _ hb hg => kk.block b hb hg) (fun b hb hg => by have := (HO6.out.own.lt b hb).1; omega)).own; have HZ7 := Lib.hid (Nat.le_trans HS6.out.kept.size kk.size); clear kk er ok it) | (at_builtin; refine Ro.push rfl _ _ 22 37 5 96 _ rfl Tryz.underlying22 It.info rfl (by decide) _ rfl (HO7.out.alloc _) w7.heap.size (It.five k7 t7 (.slice a2 n2 d2) (.slice a3 n3 d3) (.slice a4 n4 d4)) rfl (Gr.cells w7 (It.five k7 t7 (.slice a2 n2 d2) (.slice a3 n3 d3) (.slice a4 n4 d4)) 37) rfl (It.ones _ _ _ _ _ _ _ _ _ _ _) (by unfold maxLen; omega) (by omega) (by have := HZ7.out; simp; omega) ?_))
                  intro v8 w8 R8 hg8 hf8
                  obtain ⟨a8, d8, hv8⟩ := Gr.form R8
                  subst hv8
                  cases G1 with
                  | error y =>
                    obtain ⟨hy, j7, at7⟩ := ER.out y rfl
                    have hG : G = .error y := HG4.out.symm
                    have hz8 : w7.heap.size ≤ w8.heap.size := by have := hg8.size; simp at this; omega
                    have hgo : (Value.slice a out.length d).ownBlock ≠ some g := fun e => by have := (HO7.out.lt g e).1; omega
                    have hblk : ∀ q, q < w7.heap.size → (Value.slice a out.length d).ownBlock ≠ some q → w8.heap[q]? = w7.heap[q]? := fun q hq hne => (hg8.block q (by simp; omega) (fun e => hne e.symm)).trans (Below.heap_alloc _ _ _ hq)
                    have HA8 : Hid (Tr.At w8 g (.slice (some ⟨b, o, none⟩) ps.length pd) j7 y) := at7.same (hblk g at7.lt hgo)
                    have HK8 : Hid (Cu.Kept w w8 g) := by
                      have h1 := HS6.out.kept.trans HK7.out
                      exact ⟨hg8.os.trans h1.os, hg8.tape.trans h1.tape, hg8.output.trans h1.output, Nat.le_trans h1.size hz8, fun q hq hne => (hblk q (Nat.lt_of_lt_of_le hq h1.size) (fun e => by have := (HO7.out.lt q e).1; omega)).trans (h1.block q hq hne)⟩
                    have HGG := Lib.hid hG
                    have HY := Lib.hid hy
                    clear R8 hg8 hf8 hblk hgo hz8 at7 ER OK HK7 HO7 HO6 HG4 hG hy
                    go_wp2_with fail
                    go_roundw
                    case rel => exact ⟨a8, _, d8, rfl, .inr ⟨y, j7, HY.out, HGG, HA8, HK8⟩⟩
                    case measure => rw [Tr.mes_bad HA8.out HY.out, HMW.out, HMS.out]; omega
                  | ok q7 =>
                    obtain ⟨x7, j7⟩ := q7
                    obtain ⟨hj7, hj7N, at7, fit7⟩ := OK.out x7 j7 rfl
                    have HS7 := Lib.hid (HS6.out.then HK7.out at7)
                    have hk67 := HK7.out.size
                    have hs6 := HS6.out.kept.size
                    have HS8 := Lib.hid (HS7.out.push (lo := w6.heap.size) (x := x7) (news := It.five k7 t7 (.slice a2 n2 d2) (.slice a3 n3 d3) (.slice a4 n4 d4)) fit7 hs6 (fun q hq => (HO6.out.own.lt q hq).2) HS6.out.at_.lt R8 hg8 (by simpa using hf8))
                    have HG5 : Hid (Tm.rows ps m deep loop j7 (out ++ [x7]) = G) := HG4.out
                    clear R8 hg8 hf8 at7 fit7 ER OK HK7 HO7 HO6 HG4 HS7 hk67 hs6
                    go_wp2_with fail
                    go_roundw
                    case rel => exact ⟨a8, _, d8, rfl, .inl ⟨j7, m, out ++ [x7], _, by omega, hj7N, by omega, by omega, by simp; omega, by simp, HS8, HG5⟩⟩
                    case measure => rw [Tr.mes_ok HS8.out.at_, HMW.out, HMS.out]; omega
            · have hE2 : (E != 0) = true := bne_iff_ne.2 hE
              have hG : .error E = G := by rw [← HG2.out]; unfold Tm.act; rw [if_pos hE]
              subst hG
              have HEE := Lib.hid hE
              clear HG2 HL6 HFT HVX hE
              go_wp2_with fail
              go_ret2
              exact ⟨none, 0, 0, ⟨#[]⟩, rfl, HS6.out.kept.set _ _, fun y hy => (by injection hy with hy; subst hy; exact ⟨HEE.out, j + 1, HS6.out.at_.set2 _⟩), fun o t j' hy => (by cases hy)⟩
      · have dlt : decide ((j : Int) < (ps.length : Int)) = false := decide_eq_false (by omega)
        have dltn : decide (j < ps.length) = false := decide_eq_false hlt
        have hG : .ok (out, 0, j) = G := by rw [← HG.out, Tm.rows_end (by omega)]
        subst hG
        clear HG
        go_upto_region 2 with fail
        go_quiet (fail)
        have HS2 : Hid (Tr.Rk w (wr.drewN nq) g (.slice pa ps.length pd) j (.slice a nn d) out xs) := HS.out.then ((Cu.Kept.refl _ _).drewN nq) (HS.out.at_.drewN nq)
        clear HS c0 c1 c2
        generalize wr.drewN nq = w2 at *
        go_wp2_with fail
        go_ret2
        have hnn := HNN.out
        subst hnn
        exact ⟨a, out.length, d, ⟨#[]⟩, rfl, HS2.out.kept, fun y hy => (by cases hy), fun o t j' hy => (by injection hy with hy; injection hy with h1 h2; injection h2 with h2 h3; subst h1 h2 h3; exact ⟨rfl, by decide, hij, hjN, HS2.out.at_, HS2.out.own.lies⟩)⟩
    · have c0 := HA.out.c0
      have c1 := HA.out.c1
      have c2 := HA.out.c2
      have x2 : (x == 0) = false := beq_eq_false_iff_ne.2 hx
      have HX := Lib.hid hx
      have hG := HG.out
      subst hG
      clear hx HG
      go_upto_region 2 with fail
      go_quiet (fail)
      have HA2 := Lib.hid (HA.out.drewN nq)
      have HK2 := Lib.hid (HK.out.drewN nq)
      clear HA HK c0 c1 c2
      generalize wr.drewN nq = w2 at *
      go_wp2_with fail
      go_ret2
      exact ⟨a, nn, d, ⟨#[]⟩, rfl, HK2.out, fun y hy => (by injection hy with hy; subst hy; exact ⟨HX.out, j, HA2.out⟩), fun o t j' hy => (by cases hy)⟩
theorem Tr.rows (ps : List Pc) (g : Nat) (pv : Value) (hps : ∀ p ∈ ps, p.act = true → p.text.length ≤ 65536) (hpl : ps.length ≤ 1048576) : ∀ n, Tr.Rows ps g pv n := by
  intro n
  induction n using Nat.strongRecOn with
  | _ n ih =>
    cases n with
    | zero =>
      intro deep loop i w hd hi hn
      omega
    | succ n => exact Tr.rowsStep ps g pv hps hpl n (ih n (by omega)) (fun m hm => ih m (by omega))
end Go.Proofs.YtjppobeomocgbaaGreatDoor

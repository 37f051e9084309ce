/-
  THE WALK of the reference's command.
-/
import Derived.Test.YtjppobeomocgbaaGreatDoorTGDatatoGCopy
import Derived.Deep.CutBlock
namespace Go.Proofs.YtjppobeomocgbaaGreatDoor
open Go.RowKit
def Wi.dt (x : Wi) : List Dt := [.int .i64 x.kind, .str x.text, Dt.texts x.path, .int .i64 x.num]
def Ar.dt (x : Ar) : List Dt := [.int .i64 x.kind, .str x.name, Dt.texts x.path, .int .i64 x.num, .str x.text]
/-- words in memory -/
abbrev Wi.rows (ws : List Wi) : Dt := Dt.rows 4 Wi.dt ws
abbrev Ar.rows (l : List Ar) : Dt := Dt.rows 5 Ar.dt l
/-- a word's four cells -/
theorem Wi.get {w : World} {R : Nat → Prop} {ws : List Wi} {v : Value} (h : Dt.Lies w R (Wi.rows ws) v) :
    ∃ a d, v = .slice a ws.length d ∧ ws.length ≤ d ∧ d ≤ maxLen ∧ ∀ i x, ws[i]? = some x → ∃ b o pv, a = some ⟨b, o, none⟩ ∧ R b ∧ w.cell? ⟨b, o + i * 4, none⟩ = some (.int .i64 x.kind) ∧ w.cell? ⟨b, o + i * 4 + 1, none⟩ = some (.string ⟨x.text.toArray⟩) ∧ w.cell? ⟨b, o + i * 4 + 2, none⟩ = some pv ∧ w.cell? ⟨b, o + i * 4 + 3, none⟩ = some (.int .i64 x.num) ∧ St.Lies w R x.path pv := by
  obtain ⟨a, d, e, h1, h2, hx⟩ := h.get (fun _ => rfl) (by decide)
  refine ⟨a, d, e, h1, h2, fun i x hi => ?_⟩
  obtain ⟨b, o, ea, hb, hc⟩ := hx i x hi
  obtain ⟨u0, c0, l0⟩ := hc 0 _ rfl
  obtain ⟨u1, c1, l1⟩ := hc 1 _ rfl
  obtain ⟨u2, c2, l2⟩ := hc 2 _ rfl
  obtain ⟨u3, c3, l3⟩ := hc 3 _ rfl
  unfold Dt.Lies at l0 l1 l3
  subst l0 l1 l3
  exact ⟨b, o, u2, ea, hb, c0, c1, c2, c3, Dt.Lies.texts l2⟩
theorem Pi.args_step {ws : List Wi} {i : Nat} {out : List Ar} (h : i < ws.length) : Pi.args (ws.drop i) out = if (Pi.arg ws[i]).2 = true then Pi.args (ws.drop (i + 1)) (out ++ [(Pi.arg ws[i]).1]) else none := by
  rw [List.drop_eq_getElem_cons h]
  rfl
theorem Pi.args_end {ws : List Wi} {i : Nat} {out : List Ar} (h : ws.length ≤ i) : Pi.args (ws.drop i) out = some out := by
  rw [List.drop_of_length_le h]
  rfl
theorem Pi.arg_path {x : Wi} (h : (Pi.arg x).2 = true) : (Pi.arg x).1.path.length ≤ 8 := by
  unfold Pi.arg at h ⊢
  split at h
  · rename_i hk
    rw [if_pos hk]
    simp only [Bool.and_eq_true, Pi.path, decide_eq_true_eq] at h
    exact h.2.2.2
  · rename_i hk
    rw [if_neg hk]
    split at h
    · rename_i hk
      rw [if_pos hk]
      simp only [Bool.and_eq_true, Pi.path, decide_eq_true_eq] at h
      exact h.2.2.2
    · rename_i hk
      rw [if_neg hk]
      repeat' split
      all_goals exact Nat.zero_le _
theorem Ar.info : (Tryz.prog.info? 43).map (fun i => (i.zero, i.size, i.bytes)) = some (some (.agg #[.int .i64 0, .string ⟨#[]⟩, .slice none 0 0, .int .i64 0, .string ⟨#[]⟩]), 5, 72) := by kernel_rfl
/-- an argument's cells, its path where it lies -/
theorem Ar.cells {w : World} {R : Nat → Prop} {x : Ar} {pv : Value} (h : St.Lies w R x.path pv) : ∀ (i : Nat) d, (Ar.dt x)[i]? = some d → ∃ u, (Ar.five x pv)[i]? = some u ∧ Dt.Lies w R d u := by
  intro i d hi
  match i, hi with
  | 0, hi => exact ⟨_, rfl, by have := Option.some.inj hi; subst this; unfold Dt.Lies; rfl⟩
  | 1, hi => exact ⟨_, rfl, by have := Option.some.inj hi; subst this; unfold Dt.Lies; rfl⟩
  | 2, hi => exact ⟨_, rfl, by have := Option.some.inj hi; subst this; exact h.data⟩
  | 3, hi => exact ⟨_, rfl, by have := Option.some.inj hi; subst this; unfold Dt.Lies; rfl⟩
  | 4, hi => exact ⟨_, rfl, by have := Option.some.inj hi; subst this; unfold Dt.Lies; rfl⟩
/-- the arguments so far, in a row of their own -/
abbrev Ar.Own (base : Nat) (l : List Ar) (w : World) (v : Value) (xs : List Value) : Prop := Gr.Own base (fun _ => False) 43 5 l.length (l.flatMap Ar.dt) w v xs
theorem Tp.keepA {w : World} {o : Obj} {a : Addr} {v : Value} (h : w.cell? a = some v) : (w.alloc o).cell? a = some v := (World.cell?_alloc_lt _ _ _ (World.block_lt_of_cell? _ _ h)).trans h
theorem Ar.ones (x : Ar) (a : Option Addr) (n d : Nat) : ∀ u ∈ Ar.five x (.slice a n d), u.oneCell' = true := by
  intro u hu
  simp only [Ar.five, List.mem_cons, List.not_mem_nil, or_false] at hu
  rcases hu with rfl | rfl | rfl | rfl | rfl <;> rfl
/-- what comes of a command's arguments, without a function, with one -/
def Pi.resB (first : Bool) : Option (List Ar) → Option Cm
  | none => none
  | some r => if first = true ∧ r.length = 1 then some ⟨[], r⟩ else none
def Pi.resA (fn : List UInt8) : Option (List Ar) → Option Cm
  | none => none
  | some r => some ⟨fn, r⟩
theorem Pi.commandB {y : Wi} {l : List Wi} {first : Bool} (hk : ¬ (y.kind = 0 ∧ Pi.isFn y.text = true)) : Pi.command (y :: l) first = Pi.resB first (Pi.args ((y :: l).drop 0) []) := by
  unfold Pi.command
  simp only [hk, if_false, List.drop_zero]
  cases Pi.args (y :: l) [] <;> rfl
theorem Pi.commandA {y : Wi} {l : List Wi} {first : Bool} (hk : y.kind = 0 ∧ Pi.isFn y.text = true) : Pi.command (y :: l) first = if y.num ≠ 0 ∨ y.path ≠ [] then none else Pi.resA y.text (Pi.args ((y :: l).drop 1) []) := by
  unfold Pi.command
  simp only [if_pos hk]
  split
  · rfl
  · show Option.map _ (Pi.args l []) = Pi.resA y.text (Pi.args l [])
    cases Pi.args l [] <;> rfl
/-- what command answers -/
structure Pr.COut (w w' : World) (r : Option Cm) (e : Ending) (F : ByteArray) (av : Value) (ok : Bool) : Prop where
  ret : e = .returned (.tuple #[.agg #[.string F, av], .bool ok])
  low : Below w.heap.size w w'
  none : r = none → ok = false
  some : ∀ c, r = some c → ok = true ∧ F = ⟨c.fn.toArray⟩ ∧ Dt.Lies w' (fun b => w.heap.size ≤ b ∧ b < w'.heap.size ∧ Rm.Ub w' b) (Ar.rows c.args) av
set_option maxRecDepth 100000 in
set_option maxHeartbeats 4000000 in
theorem Pr.command (ws : List Wi) (first : Bool) (v : Value) (R : Nat → Prop) (w : World) (h : Dt.Lies w R (Wi.rows ws) v) (hn : ws.length ≤ 1048576) (hz : ∀ x ∈ ws, x.text.length ≤ 4611686018427387904 ∧ ∀ t ∈ x.path, t.length ≤ 4611686018427387904) :
    Calls Tryz.prog 121 #[v, .bool first] w fun e w' => ∃ F a n d ok, Pr.COut w w' (Pi.command ws first) e F (.slice a n d) ok := by
  obtain ⟨a, d, rfl, hd, hm, hx⟩ := Wi.get h
  obtain ⟨r, hr⟩ : ∃ r, Pi.command ws first = r := ⟨_, rfl⟩
  rw [hr]
  have HR := Lib.hid hr
  have HX := Lib.hid hx
  have HZ := Lib.hid hz
  have hml : ws.length ≤ 9223372036854775807 := by omega
  clear hr hx hz hm h
  by_cases h0 : ws.length = 0
  · have hws : ws = [] := List.eq_nil_of_length_eq_zero h0
    subst hws
    have hr := HR.out
    subst hr
    clear HX HZ HR
    go_enter Tryz.func121, Tryz.ntmps121
    go_wp2_with fail
    refine bodyPost_ret (v := .tuple #[.agg #[.string ⟨#[]⟩, .slice none 0 0], .bool false]) (by simp [results, Tryz.results121, go_sem]) rfl ?_
    exact ⟨_, _, _, _, _, rfl, (Below.refl _ _).alloc (Nat.le_refl _) _, fun _ => rfl, fun c e => by cases e⟩
  · obtain ⟨y, l, hws⟩ : ∃ y l, ws = y :: l := by
      cases ws with
      | nil => exact absurd rfl h0
      | cons y l => exact ⟨y, l, rfl⟩
    obtain ⟨b, o, pv, rfl, hb, c0, c1, c2, c3, hp⟩ := HX.out 0 y (by rw [hws]; rfl)
    simp only [Nat.zero_mul, Nat.add_zero] at c0 c1 c2 c3
    have fn := fun u => Pr.fn ⟨y.text.toArray⟩ u
    have efn : (⟨y.text.toArray⟩ : ByteArray).data.toList = y.text := rfl
    rw [efn] at fn
    have hlen : 0 < ws.length := by omega
    have hd0 : 0 < d := by omega
    have eln : ((ws.length : Int) == 0) = false := beq_eq_false_iff_ne.2 (by omega)
    by_cases hk : y.kind = 0 ∧ Pi.isFn y.text = true
    · have e0 : (y.kind == 0) = true := by rw [hk.1]; rfl
      rw [hk.2] at fn
      have HNE : Hid (¬ y.text = []) := fun e => by
        have h2 := hk.2
        rw [e] at h2
        exact absurd h2 (by decide)
      obtain ⟨G, hG⟩ : ∃ G, Pi.args (ws.drop 1) [] = G := ⟨_, rfl⟩
      have HG := Lib.hid hG
      have hRA : r = if y.num ≠ 0 ∨ y.path ≠ [] then none else Pi.resA y.text G := by
        rw [← HR.out, ← hG, hws]
        exact Pi.commandA hk
      obtain ⟨ap, dp, rfl, _, _, _⟩ := hp
      have hW := ((Below.refl w.heap.size w).alloc (Nat.le_refl _) (.cells #[.string ⟨#[]⟩, .slice none 0 0] 46)).alloc (by simp) (.cells #[.string ⟨y.text.toArray⟩, .slice none 0 0] 46)
      have hW' := ((Below.refl w.heap.size w).alloc (Nat.le_refl _) (.cells #[.string ⟨#[]⟩, .slice none 0 0] 46)).alloc (by simp) (.cells #[.string ⟨#[]⟩, .slice none 0 0] 46)
      have hq : Bs.Box ((w.alloc (.cells #[.string ⟨#[]⟩, .slice none 0 0] 46)).alloc (.cells #[.string ⟨y.text.toArray⟩, .slice none 0 0] 46)) w.heap.size #[.string ⟨#[]⟩, .slice none 0 0] 46 := (Bs.Box.new w _ _ _ rfl).alloc _
      have hc : Bs.Box ((w.alloc (.cells #[.string ⟨#[]⟩, .slice none 0 0] 46)).alloc (.cells #[.string ⟨y.text.toArray⟩, .slice none 0 0] 46)) (w.heap.size + 1) #[.string ⟨y.text.toArray⟩, .slice none 0 0] 46 := Bs.Box.new _ _ _ _ (by simp)
      have hs0 : ((w.alloc (.cells #[.string ⟨#[]⟩, .slice none 0 0] 46)).alloc (.cells #[.string ⟨y.text.toArray⟩, .slice none 0 0] 46)).heap.size = w.heap.size + 2 := by simp
      have hbw : b < w.heap.size := World.block_lt_of_cell? _ _ c0
      have cc0 := Tp.keep hW' c0
      have cc1 := Tp.keep hW' c1
      have cc2 := Tp.keep hW c2
      have cc3 := Tp.keep hW c3
      clear hG hk HR hws hW'
      go_enter Tryz.func121, Tryz.ntmps121
      go_upto_region 8 with (go_at_call 142; refine (fn _).mono ?_; rintro e w' ⟨rfl, hw⟩; have hw := hw.symm; subst hw)
      have HB0 := Lib.hid hW
      have HC := Lib.hid hc
      have HQ := Lib.hid hq
      clear hW hc hq cc0 cc1 c0 c1 c2 c3 fn e0
      generalize (w.alloc (.cells #[.string ⟨#[]⟩, .slice none 0 0] 46)).alloc (.cells #[.string ⟨y.text.toArray⟩, .slice none 0 0] 46) = W0 at *
      by_cases hA : y.num ≠ 0 ∨ y.path ≠ []
      · rw [if_pos hA] at hRA
        subst hRA
        have q0 := HQ.out.cell 0 rfl
        have q1 := HQ.out.cell 1 rfl
        have qf := HQ.out.frozen
        have y0 := HC.out.cell 0 rfl
        have y1 := HC.out.cell 1 rfl
        have HQ3 : Hid (Bs.Box ((W0.setCell ⟨w.heap.size, 0, none⟩ (.string ⟨y.text.toArray⟩)).setCell ⟨w.heap.size, 1, none⟩ (.slice none 0 0)) w.heap.size #[.string ⟨y.text.toArray⟩, .slice none 0 0] 46) := (HQ.out.set 0 _).set 1 _
        have HW3 := Lib.hid ((HB0.out.setCell (p := ⟨w.heap.size, 0, none⟩) (Nat.le_refl _) (.string ⟨y.text.toArray⟩)).setCell (p := ⟨w.heap.size, 1, none⟩) (Nat.le_refl _) (.slice none 0 0))
        generalize hw3 : (W0.setCell ⟨w.heap.size, 0, none⟩ (.string ⟨y.text.toArray⟩)).setCell ⟨w.heap.size, 1, none⟩ (.slice none 0 0) = w3 at HQ3 HW3
        have HE3 := Lib.hid hw3
        have r0 := HQ3.out.cell 0 rfl
        have r1 := HQ3.out.cell 1 rfl
        clear hw3
        by_cases hnum : y.num = 0
        · have m1 : (y.num != 0) = false := by rw [hnum]; rfl
          have hpe : ¬ y.path = [] := fun e => hA.elim (fun q => q hnum) (fun q => q e)
          have m2 : ((y.path.length : Int) != 0) = true := by
            have : y.path.length ≠ 0 := fun e => hpe (List.eq_nil_of_length_eq_zero e)
            rw [bne, beq_eq_false_iff_ne.2 (by omega)]
            rfl
          clear hA hpe hnum
          go_wp2_with fail
          rw [HE3.out]
          refine bodyPost_ret (v := .tuple #[.agg #[.string ⟨y.text.toArray⟩, .slice none 0 0], .bool false]) (by simp [results, Tryz.results121, go_sem, r0, r1]) rfl ?_
          exact ⟨_, none, 0, 0, false, rfl, HW3.out, fun _ => rfl, fun c e => by cases e⟩
        · have m1 : (y.num != 0) = true := by rw [bne, beq_eq_false_iff_ne.2 hnum]; rfl
          clear hA hnum
          go_wp2_with fail
          rw [HE3.out]
          refine bodyPost_ret (v := .tuple #[.agg #[.string ⟨y.text.toArray⟩, .slice none 0 0], .bool false]) (by simp [results, Tryz.results121, go_sem, r0, r1]) rfl ?_
          exact ⟨_, none, 0, 0, false, rfl, HW3.out, fun _ => rfl, fun c e => by cases e⟩
      · rw [if_neg hA] at hRA
        have HRB := Lib.hid hRA
        have hnum : y.num = 0 := by
          by_cases q : y.num = 0
          · exact q
          · exact absurd (Or.inl q) hA
        have hpath : y.path = [] := by
          by_cases q : y.path = []
          · exact q
          · exact absurd (Or.inr q) hA
        have m1 : (y.num != 0) = false := by rw [hnum]; rfl
        have m2 : ((y.path.length : Int) != 0) = false := by rw [hpath]; rfl
        clear hA hRA hnum hpath
        generalize hF : (⟨y.text.toArray⟩ : ByteArray) = F at HC
        go_wp2_with fail
        have HO0 : Hid (Ar.Own (w.heap.size + 2) [] W0 (.slice none 0 0) []) := Gr.Own.nil _ _ _ _ _
        have hwsl : ws.length ≤ 1048576 := hn
        go_loopw [8] (fun iv wr => ∃ (i : Nat) (out : List Ar) (a1 : Option Addr) (d1 : Nat) (xs : List Value), 1 ≤ i ∧ i ≤ ws.length ∧ iv = .int .i64 (i : Int) ∧ Hid (out.length + 1 = i) ∧ Hid (Pi.args (ws.drop i) out = G) ∧ Hid (Bs.Box wr (w.heap.size + 1) #[.string F, .slice a1 out.length d1] 46) ∧ Hid (Bs.Box wr w.heap.size #[.string ⟨#[]⟩, .slice none 0 0] 46) ∧ Hid (Ar.Own (w.heap.size + 2) out wr (.slice a1 out.length d1) xs) ∧ Hid (Below w.heap.size w wr) ∧ w.heap.size + 2 ≤ wr.heap.size) (fun iv _ => ws.length - (intOf iv).toNat)
        case atStart => exact ⟨1, [], none, 0, [], Nat.le_refl _, by omega, rfl, rfl, HG, HC, HQ, HO0, HB0, by omega⟩
        case round =>
          clear HC HQ HO0 HB0 HG hs0
          obtain ⟨i, out, a1, d1, xs, hfi, hi, rfl, HOI, HG, HC, HQ, HO, HB, hsz⟩ := hrel
          have hol : out.length ≤ 1048576 := by have := HOI.out; omega
          by_cases hlt : i < ws.length
          · have dlt : decide ((i : Int) < (ws.length : Int)) = true := decide_eq_true (by omega)
            obtain ⟨b2, o2, pv2, e2, hb2, x0, x1, x2, x3, hp2⟩ := HX.out i ws[i] (List.getElem?_eq_getElem hlt)
            injection e2 with e2
            injection e2 with e3 e4
            subst e3 e4
            have x0 := Tp.keep HB.out x0
            have x1 := Tp.keep HB.out x1
            have x2 := Tp.keep HB.out x2
            have x3 := Tp.keep HB.out x3
            have hid : i < d := by omega
            have hst := (Pi.args_step (out := out) hlt).symm.trans HG.out
            have hz1 := HZ.out ws[i] (List.getElem_mem hlt)
            have pa := fun u (q : St.Lies u (fun _ => True) ws[i].path pv2) => Pr.arg ws[i] pv2 _ u q hz1.2 hz1.1
            have pth : St.Lies wr (fun _ => True) ws[i].path pv2 := hp2.later HB.out
            have hpa := Pi.arg_path (x := ws[i])
            generalize ws[i] = z at *
            obtain ⟨X, ok, hXo⟩ : ∃ X ok, Pi.arg z = (X, ok) := ⟨_, _, rfl⟩
            rw [hXo] at pa hst hpa
            simp only at hst hpa
            have pa := fun u => pa u
            cases ok with
            | false =>
              have hG : none = G := hst
              subst hG
              have hb1' := fun (u : World) (q : Below wr.heap.size wr u) => q
              clear hst hpa hz1 HG hXo hp2
              have pa := pa wr pth
              go_upto_region 14 with (go_at_call 143; refine pa.mono ?_; rintro e w1 ⟨pv', rfl, hp1, hb1⟩; have HP1 := Lib.hid hp1; obtain ⟨ap, dp, rfl, _, _, _⟩ := hp1; have HB1 := Lib.hid hb1; clear pa)
              have HC1 := Lib.hid ((HC.out.on HB1.out HC.out.lt).alloc (.cells #[.int .i64 X.kind, .string ⟨X.name.toArray⟩, .slice ap X.path.length dp, .int .i64 X.num, .string ⟨X.text.toArray⟩] 43))
              have HQ1 := Lib.hid ((HQ.out.on HB1.out HQ.out.lt).alloc (.cells #[.int .i64 X.kind, .string ⟨X.name.toArray⟩, .slice ap X.path.length dp, .int .i64 X.num, .string ⟨X.text.toArray⟩] 43))
              have HA1 : Hid (Bs.Box (w1.alloc (.cells #[.int .i64 X.kind, .string ⟨X.name.toArray⟩, .slice ap X.path.length dp, .int .i64 X.num, .string ⟨X.text.toArray⟩] 43)) w1.heap.size #[.int .i64 X.kind, .string ⟨X.name.toArray⟩, .slice ap X.path.length dp, .int .i64 X.num, .string ⟨X.text.toArray⟩] 43) := Bs.Box.new w1 _ _ _ rfl
              have hs1 := HB1.out.size
              have HW1 := Lib.hid (HB1.out.alloc HB1.out.size (.cells #[.int .i64 X.kind, .string ⟨X.name.toArray⟩, .slice ap X.path.length dp, .int .i64 X.num, .string ⟨X.text.toArray⟩] 43))
              generalize w1.alloc (.cells #[.int .i64 X.kind, .string ⟨X.name.toArray⟩, .slice ap X.path.length dp, .int .i64 X.num, .string ⟨X.text.toArray⟩] 43) = w2 at *
              have y0 := HC1.out.cell 0 rfl
              have y1 := HC1.out.cell 1 rfl
              have q0 := HQ1.out.cell 0 rfl
              have q1 := HQ1.out.cell 1 rfl
              have qf := HQ1.out.frozen
              go_wp2_with fail
              have HQ3 : Hid (Bs.Box ((w2.setCell ⟨w.heap.size, 0, none⟩ (.string F)).setCell ⟨w.heap.size, 1, none⟩ (.slice a1 out.length d1)) w.heap.size #[.string F, .slice a1 out.length d1] 46) := (HQ1.out.set 0 _).set 1 _
              have HW3 := Lib.hid (((HB.out.trans (HW1.out.mono HB.out.size)).setCell (p := ⟨w.heap.size, 0, none⟩) (Nat.le_refl _) (.string F)).setCell (p := ⟨w.heap.size, 1, none⟩) (Nat.le_refl _) (.slice a1 out.length d1))
              generalize (w2.setCell ⟨w.heap.size, 0, none⟩ (.string F)).setCell ⟨w.heap.size, 1, none⟩ (.slice a1 out.length d1) = w3 at *
              have r0 := HQ3.out.cell 0 rfl
              have r1 := HQ3.out.cell 1 rfl
              refine bodyPost_ret (v := .tuple #[.agg #[.string F, .slice a1 out.length d1], .bool false]) (by simp [results, Tryz.results121, go_sem, r0, r1]) rfl ?_
              exact ⟨F, a1, out.length, d1, false, rfl, HW3.out, fun _ => rfl, fun c e => by rw [HRB.out] at e; cases e⟩
            | true =>
              have pa := pa wr pth
              go_upto_region 14 with (go_at_call 143; refine pa.mono ?_; rintro e w1 ⟨pv', rfl, hp1, hb1⟩; have HP1 := Lib.hid hp1; obtain ⟨ap, dp, rfl, _, _, _⟩ := hp1; have HB1 := Lib.hid hb1; clear pa)
              have HC1 := Lib.hid ((HC.out.on HB1.out HC.out.lt).alloc (.cells #[.int .i64 X.kind, .string ⟨X.name.toArray⟩, .slice ap X.path.length dp, .int .i64 X.num, .string ⟨X.text.toArray⟩] 43))
              have HQ1 := Lib.hid ((HQ.out.on HB1.out HQ.out.lt).alloc (.cells #[.int .i64 X.kind, .string ⟨X.name.toArray⟩, .slice ap X.path.length dp, .int .i64 X.num, .string ⟨X.text.toArray⟩] 43))
              have HA1 : Hid (Bs.Box (w1.alloc (.cells #[.int .i64 X.kind, .string ⟨X.name.toArray⟩, .slice ap X.path.length dp, .int .i64 X.num, .string ⟨X.text.toArray⟩] 43)) w1.heap.size #[.int .i64 X.kind, .string ⟨X.name.toArray⟩, .slice ap X.path.length dp, .int .i64 X.num, .string ⟨X.text.toArray⟩] 43) := Bs.Box.new w1 _ _ _ rfl
              have hs1 := HB1.out.size
              have HW1 := Lib.hid (HB1.out.alloc HB1.out.size (.cells #[.int .i64 X.kind, .string ⟨X.name.toArray⟩, .slice ap X.path.length dp, .int .i64 X.num, .string ⟨X.text.toArray⟩] 43))
              generalize w1.alloc (.cells #[.int .i64 X.kind, .string ⟨X.name.toArray⟩, .slice ap X.path.length dp, .int .i64 X.num, .string ⟨X.text.toArray⟩] 43) = w2 at *
              have hst2 : Pi.args (ws.drop (i + 1)) (out ++ [X]) = G := hst
              have HG2 := Lib.hid hst2
              have hp8 := hpa trivial
              have HB2 : Hid (Below wr.heap.size wr w2) := HW1
              have hpth := Lib.hid (St.Lies.later HP1.out HW1.out)
              clear hst hst2 hpa hz1 HG hXo hp2 HP1 pth
              have a2 := HA1.out.cell 2 rfl
              have a2' : ∀ o', (w2.alloc o').cell? ⟨w1.heap.size, 2, none⟩ = some (.slice ap X.path.length dp) := fun o' => (HA1.out.alloc o').cell 2 rfl
              have htc := Gc.text_cells hpth.out
              have HTC := Lib.hid htc.2
              clear htc
              go_upto_region 17 with (at_builtin; refine Gc.copy rfl _ _ 33 9 1 16 (.string ⟨#[]⟩) rfl Tryz.underlying33 St.info rfl (by decide) w2.heap.size rfl (Gc.none w2 w2.heap.size 9 1 (Nat.le_refl _)) X.path.length (St.cells X.path) ap dp rfl (fun j u hj => by obtain ⟨q, e, c⟩ := HTC.out j u hj; exact ⟨q, e, Tp.keepA c⟩) (Gc.cells_len _) (Gc.ones _) (by unfold maxLen; omega) (by omega) (by simp) ?_; intro v4 w4 R4 hg4 hf4; obtain ⟨a4, d4, rfl⟩ := Gr.form R4; have HR4 := Lib.hid R4; have B4 := Lib.hid (((Below.refl w2.heap.size w2).alloc (Nat.le_refl _) (.cells #[] 9)).grown hg4 (by simp) (fun k e => by injection e with e; omega)); clear R4 hg4 hf4; have z2 := (HA1.out.on B4.out HA1.out.lt).cell 2 rfl; have zf := (HA1.out.on B4.out HA1.out.lt).frozen)
              have hA5 : Bs.Box (w4.setCell ⟨w1.heap.size, 2, none⟩ (.slice a4 X.path.length d4)) w1.heap.size #[.int .i64 X.kind, .string ⟨X.name.toArray⟩, .slice a4 X.path.length d4, .int .i64 X.num, .string ⟨X.text.toArray⟩] 43 := (HA1.out.on B4.out HA1.out.lt).set 2 _
              have hw14 : w1.heap.size < w2.heap.size := HA1.out.lt
              have B5 := Lib.hid ((Below.trans HB2.out (B4.out.mono HB2.out.size)).setCell (p := ⟨w1.heap.size, 2, none⟩) (by exact hs1) (.slice a4 X.path.length d4))
              have HP5 : Hid (St.Lies (w4.setCell ⟨w1.heap.size, 2, none⟩ (.slice a4 X.path.length d4)) (Gr.R (w.heap.size + 2) (fun _ => False) (w4.setCell ⟨w1.heap.size, 2, none⟩ (.slice a4 X.path.length d4)) (.slice a1 out.length d1)) X.path (.slice a4 X.path.length d4)) := (St.Lies.own HR4.out).on fun k hk => by
                have e : (w4.setCell ⟨w1.heap.size, 2, none⟩ (.slice a4 X.path.length d4)).heap[k]? = w4.heap[k]? := Below.heap_setCell _ _ _ _ (by have := hk.1; show k ≠ w1.heap.size; omega)
                refine ⟨⟨by have := hk.1; omega, by simpa using hk.2.1, fun q => ?_, fun q => q, hk.2.2.on e⟩, e⟩
                have := (HO.out.own.lt k q).2
                have := hk.1
                omega
              generalize w4.setCell ⟨w1.heap.size, 2, none⟩ (.slice a4 X.path.length d4) = w5 at *
              have HO5 := Lib.hid (HO.out.below B5.out)
              have HC5 := Lib.hid (HC.out.on B5.out HC.out.lt)
              have HQ5 := Lib.hid (HQ.out.on B5.out HQ.out.lt)
              have s0 := hA5.cell 0 rfl
              have s1 := hA5.cell 1 rfl
              have s2 := hA5.cell 2 rfl
              have s3 := hA5.cell 3 rfl
              have s4 := hA5.cell 4 rfl
              have k1 := HC5.out.cell 1 rfl
              have HS5 := Lib.hid B5.out.size
              have hsw : w.heap.size + 2 ≤ w5.heap.size := by have := HS5.out; omega
              have HPU := Lib.hid (fun (v7 : Value) (w7 : World) (R7 : w7.ownsRow (w.heap.size + 2) 43 5 v7 (out.length + 1) (xs ++ Ar.five X (.slice a4 X.path.length d4))) (hg7 : (w5.alloc (.cells #[.int .i64 X.kind, .string ⟨X.name.toArray⟩, .slice a4 X.path.length d4, .int .i64 X.num, .string ⟨X.text.toArray⟩] 43)).grownBy w7 (Value.slice a1 out.length d1).ownBlock) (hf7 : v7.ownBlock = (Value.slice a1 out.length d1).ownBlock ∨ v7.ownBlock = some (w5.alloc (.cells #[.int .i64 X.kind, .string ⟨X.name.toArray⟩, .slice a4 X.path.length d4, .int .i64 X.num, .string ⟨X.text.toArray⟩] 43)).heap.size) => HO5.out.push ((Below.refl _ w5).alloc (Nat.le_refl _) _) (nd := Ar.dt X) rfl (Ar.cells HP5.out) R7 hg7 hf7)
              clear hA5 HA1 B4 HR4 HTC hpth HC1 HQ1 HW1 HB1 HB2 z2 zf a2 a2' x0 x1 x2 x3
              go_wp2_with (at_builtin; refine Ro.push rfl _ _ 44 43 5 72 _ rfl Tryz.underlying44 Ar.info rfl (by decide) _ rfl (HO5.out.own.alloc _) w5.heap.size (Ar.five X (.slice a4 X.path.length d4)) rfl (Gr.cells w5 (Ar.five X (.slice a4 X.path.length d4)) 43) rfl (Ar.ones X _ _ _) (by unfold maxLen; omega) (by omega) (by simp; omega) ?_; intro v7 w7 R7 hg7 hf7; have HN7 := Lib.hid (HPU.out v7 w7 R7 hg7 hf7); obtain ⟨a7, d7, rfl⟩ := Gr.form R7; have B7 : Below (w.heap.size + 2) w5 w7 := ((Below.refl (w.heap.size + 2) w5).alloc hsw _).grown hg7 (by simp; omega) (fun k e => (HO5.out.own.lt k e).1); have HB7 := Lib.hid B7; have HC7 := Lib.hid (HC5.out.on B7 (by omega)); have HQ7 := Lib.hid (HQ5.out.on B7 (by omega)); clear R7 hg7 hf7 B7; have m1 := HC7.out.cell 1 rfl; have mf := HC7.out.frozen)
              go_roundw
              case rel =>
                have hs7 := HB7.out.size
                refine ⟨i + 1, out ++ [X], a7, d7, xs ++ Ar.five X (.slice a4 X.path.length d4), by omega, by omega, by go_num, (by have := HOI.out; unfold Hid; rw [List.length_append]; simp; omega), HG2, ?_, ?_, ?_, ?_, ?_⟩
                · rw [List.length_append]; exact HC7.out.set 1 _
                · exact (Below.heap_setCell _ _ _ _ (by show w.heap.size ≠ w.heap.size + 1; omega)).trans HQ7.out
                · have h5 := Gr.Own.on (w' := w7.setCell ⟨w.heap.size + 1, 1, none⟩ (.slice a7 (out.length + 1) d7)) HN7.out (by simp) (fun b' hb' _ _ => Below.heap_setCell _ _ _ _ (by show b' ≠ w.heap.size + 1; omega)) (fun _ _ q => q)
                  unfold Ar.Own
                  rw [List.length_append, List.flatMap_append]
                  have e1 : [X].flatMap Ar.dt = Ar.dt X := by simp
                  rw [e1]
                  exact h5
                · exact ((HB.out.trans (B5.out.mono (by omega))).trans (HB7.out.mono (by omega))).setCell (p := ⟨w.heap.size + 1, 1, none⟩) (by show w.heap.size ≤ w.heap.size + 1; omega) _
                · simp; omega
              case measure => simp [intOf]; omega
          · have hie : i = ws.length := by omega
            have dlt : decide ((i : Int) < (ws.length : Int)) = false := decide_eq_false (by omega)
            have hG : some out = G := (Pi.args_end (out := out) (by omega)).symm.trans HG.out
            subst hG
            clear HG hie
            have y0 := HC.out.cell 0 rfl
            have y1 := HC.out.cell 1 rfl
            have q0 := HQ.out.cell 0 rfl
            have q1 := HQ.out.cell 1 rfl
            have qf := HQ.out.frozen
            have n0 : ¬ F.toList = [] := by
              rw [← hF, ByteArray.toList_eq]
              exact HNE.out
            have n1 : F.toList.isEmpty = false := List.isEmpty_eq_false_iff.2 n0
            have n2 : (F.toList != []) = true := by simpa using n0
            have n3 : (F.toList == []) = false := by simpa using n0
            have HF := Lib.hid hF
            have HLI := Lib.hid HO.out.lies
            clear hF
            have HQ3 : Hid (Bs.Box ((wr.setCell ⟨w.heap.size, 0, none⟩ (.string F)).setCell ⟨w.heap.size, 1, none⟩ (.slice a1 out.length d1)).drew w.heap.size #[.string F, .slice a1 out.length d1] 46) := (HQ.out.set 0 _).set 1 _
            have HW3 : Hid (Below w.heap.size w ((wr.setCell ⟨w.heap.size, 0, none⟩ (.string F)).setCell ⟨w.heap.size, 1, none⟩ (.slice a1 out.length d1)).drew) := ((HB.out.setCell (p := ⟨w.heap.size, 0, none⟩) (Nat.le_refl _) (.string F)).setCell (p := ⟨w.heap.size, 1, none⟩) (Nat.le_refl _) (.slice a1 out.length d1)).drew
            have HL3 : Hid (Dt.Lies ((wr.setCell ⟨w.heap.size, 0, none⟩ (.string F)).setCell ⟨w.heap.size, 1, none⟩ (.slice a1 out.length d1)).drew (fun b => w.heap.size ≤ b ∧ b < ((wr.setCell ⟨w.heap.size, 0, none⟩ (.string F)).setCell ⟨w.heap.size, 1, none⟩ (.slice a1 out.length d1)).drew.heap.size ∧ Rm.Ub ((wr.setCell ⟨w.heap.size, 0, none⟩ (.string F)).setCell ⟨w.heap.size, 1, none⟩ (.slice a1 out.length d1)).drew b) (Ar.rows out) (.slice a1 out.length d1)) := HLI.out.on fun k hk => by
              have e : ((wr.setCell ⟨w.heap.size, 0, none⟩ (.string F)).setCell ⟨w.heap.size, 1, none⟩ (.slice a1 out.length d1)).drew.heap[k]? = wr.heap[k]? := (Below.heap_setCell _ _ _ _ (by have := hk.1; show k ≠ w.heap.size; omega)).trans (Below.heap_setCell _ _ _ _ (by have := hk.1; show k ≠ w.heap.size; omega))
              exact ⟨⟨by have := hk.1; omega, by simpa using hk.2.1, hk.2.2.on e⟩, e⟩
            have fin : ∀ e, e = Ending.returned (.tuple #[.agg #[.string F, .slice a1 out.length d1], .bool true]) → ∃ F' a n d ok', Pr.COut w ((wr.setCell ⟨w.heap.size, 0, none⟩ (.string F)).setCell ⟨w.heap.size, 1, none⟩ (.slice a1 out.length d1)).drew r e F' (.slice a n d) ok' := by
              intro e he
              refine ⟨F, a1, out.length, d1, true, he, HW3.out, fun hr => (by rw [HRB.out] at hr; cases hr), fun c hr => ?_⟩
              rw [HRB.out] at hr
              have hr := Option.some.inj hr
              subst hr
              exact ⟨rfl, HF.out.symm, HL3.out⟩
            have FN := Lib.hid fin
            clear fin HW3 HL3 HF HRB HLI
            generalize hw3 : ((wr.setCell ⟨w.heap.size, 0, none⟩ (.string F)).setCell ⟨w.heap.size, 1, none⟩ (.slice a1 out.length d1)).drew = w3 at HQ3 FN
            have HW3 := Lib.hid hw3
            clear hw3
            have r0 := HQ3.out.cell 0 rfl
            have r1 := HQ3.out.cell 1 rfl
            go_wp2_with fail
            go_region
            all_goals go_wp2
            all_goals rw [HW3.out]
            all_goals refine bodyPost_ret (v := .tuple #[.agg #[.string F, .slice a1 out.length d1], .bool true]) (by simp [results, Tryz.results121, go_sem, r0, r1]) rfl ?_
            all_goals exact FN.out _ rfl
    · have hcond : (y.kind == 0 && Pi.isFn y.text) = false := by
        rw [Bool.eq_false_iff]
        intro q
        simp only [Bool.and_eq_true, beq_iff_eq] at q
        exact hk q
      obtain ⟨G, hG⟩ : ∃ G, Pi.args (ws.drop 0) [] = G := ⟨_, rfl⟩
      have HG := Lib.hid hG
      have HRB : Hid (r = Pi.resB first G) := by
        unfold Hid
        rw [← HR.out, ← hG, hws]
        exact Pi.commandB hk
      have hW := ((Below.refl w.heap.size w).alloc (Nat.le_refl _) (.cells #[.string ⟨#[]⟩, .slice none 0 0] 46)).alloc (by simp) (.cells #[.string ⟨#[]⟩, .slice none 0 0] 46)
      have hq : Bs.Box (((w.alloc (.cells #[.string ⟨#[]⟩, .slice none 0 0] 46))).alloc (.cells #[.string ⟨#[]⟩, .slice none 0 0] 46)) w.heap.size #[.string ⟨#[]⟩, .slice none 0 0] 46 := (Bs.Box.new w _ _ _ rfl).alloc _
      have hc : Bs.Box (((w.alloc (.cells #[.string ⟨#[]⟩, .slice none 0 0] 46))).alloc (.cells #[.string ⟨#[]⟩, .slice none 0 0] 46)) (w.heap.size + 1) #[.string ⟨#[]⟩, .slice none 0 0] 46 := Bs.Box.new _ _ _ _ (by simp)
      have hs0 : (((w.alloc (.cells #[.string ⟨#[]⟩, .slice none 0 0] 46))).alloc (.cells #[.string ⟨#[]⟩, .slice none 0 0] 46)).heap.size = w.heap.size + 2 := by simp
      have hbw : b < w.heap.size := World.block_lt_of_cell? _ _ c0
      clear hG hk HR hws
      have cc0 := Tp.keep hW c0
      have cc1 := Tp.keep hW c1
      go_enter Tryz.func121, Tryz.ntmps121
      go_upto_region 5 with fail
      generalize hW0 : ((w.alloc (.cells #[.string ⟨#[]⟩, .slice none 0 0] 46))).alloc (.cells #[.string ⟨#[]⟩, .slice none 0 0] 46) = W0 at *
      clear hW0
      go_cut [26] from 15 (fun cv wx => cv = .bool false ∧ wx = W0)
      case first =>
        clear HG HRB HX HZ
        by_cases h1 : y.kind = 0
        · have e0 : (y.kind == 0) = true := by rw [h1]; rfl
          have e1 : Pi.isFn y.text = false := by
            rw [h1] at hcond
            exact hcond
          rw [e1] at fn
          clear hcond e1 h1
          go_wp2_with (go_at_call 142; refine (fn _).mono ?_; rintro e w' ⟨rfl, hw⟩; have hw := hw.symm; subst hw)
          go_meet
          exact ⟨rfl, rfl⟩
        · have e0 : (y.kind == 0) = false := beq_eq_false_iff_ne.2 h1
          clear hcond fn
          go_wp2_with fail
          go_meet
          exact ⟨rfl, rfl⟩
      case rest =>
        obtain ⟨rfl, hw⟩ := hcut
        subst hw
        have HB0 := Lib.hid hW
        have HC := Lib.hid hc
        have HQ := Lib.hid hq
        clear hW hc hq cc0 cc1 c0 c1 c2 c3 fn hcond hp
        generalize wc = W0 at *
        generalize hF : (⟨#[]⟩ : ByteArray) = F at HC
        go_wp2_with fail
        have HO0 : Hid (Ar.Own (w.heap.size + 2) [] W0 (.slice none 0 0) []) := Gr.Own.nil _ _ _ _ _
        have hwsl : ws.length ≤ 1048576 := hn
        go_loopw [8] (fun iv wr => ∃ (i : Nat) (out : List Ar) (a1 : Option Addr) (d1 : Nat) (xs : List Value), 0 ≤ i ∧ i ≤ ws.length ∧ iv = .int .i64 (i : Int) ∧ Hid (out.length + 0 = i) ∧ Hid (Pi.args (ws.drop i) out = G) ∧ Hid (Bs.Box wr (w.heap.size + 1) #[.string F, .slice a1 out.length d1] 46) ∧ Hid (Bs.Box wr w.heap.size #[.string ⟨#[]⟩, .slice none 0 0] 46) ∧ Hid (Ar.Own (w.heap.size + 2) out wr (.slice a1 out.length d1) xs) ∧ Hid (Below w.heap.size w wr) ∧ w.heap.size + 2 ≤ wr.heap.size) (fun iv _ => ws.length - (intOf iv).toNat)
        case atStart => exact ⟨0, [], none, 0, [], Nat.le_refl _, by omega, rfl, rfl, HG, HC, HQ, HO0, HB0, by omega⟩
        case round =>
          clear HC HQ HO0 HB0 HG hs0
          obtain ⟨i, out, a1, d1, xs, hfi, hi, rfl, HOI, HG, HC, HQ, HO, HB, hsz⟩ := hrel
          have hol : out.length ≤ 1048576 := by have := HOI.out; omega
          by_cases hlt : i < ws.length
          · have dlt : decide ((i : Int) < (ws.length : Int)) = true := decide_eq_true (by omega)
            obtain ⟨b2, o2, pv2, e2, hb2, x0, x1, x2, x3, hp2⟩ := HX.out i ws[i] (List.getElem?_eq_getElem hlt)
            injection e2 with e2
            injection e2 with e3 e4
            subst e3 e4
            have x0 := Tp.keep HB.out x0
            have x1 := Tp.keep HB.out x1
            have x2 := Tp.keep HB.out x2
            have x3 := Tp.keep HB.out x3
            have hid : i < d := by omega
            have hst := (Pi.args_step (out := out) hlt).symm.trans HG.out
            have hz1 := HZ.out ws[i] (List.getElem_mem hlt)
            have pa := fun u (q : St.Lies u (fun _ => True) ws[i].path pv2) => Pr.arg ws[i] pv2 _ u q hz1.2 hz1.1
            have pth : St.Lies wr (fun _ => True) ws[i].path pv2 := hp2.later HB.out
            have hpa := Pi.arg_path (x := ws[i])
            generalize ws[i] = z at *
            obtain ⟨X, ok, hXo⟩ : ∃ X ok, Pi.arg z = (X, ok) := ⟨_, _, rfl⟩
            rw [hXo] at pa hst hpa
            simp only at hst hpa
            have pa := fun u => pa u
            cases ok with
            | false =>
              have hG : none = G := hst
              subst hG
              have hb1' := fun (u : World) (q : Below wr.heap.size wr u) => q
              clear hst hpa hz1 HG hXo hp2
              have pa := pa wr pth
              go_upto_region 14 with (go_at_call 143; refine pa.mono ?_; rintro e w1 ⟨pv', rfl, hp1, hb1⟩; have HP1 := Lib.hid hp1; obtain ⟨ap, dp, rfl, _, _, _⟩ := hp1; have HB1 := Lib.hid hb1; clear pa)
              have HC1 := Lib.hid ((HC.out.on HB1.out HC.out.lt).alloc (.cells #[.int .i64 X.kind, .string ⟨X.name.toArray⟩, .slice ap X.path.length dp, .int .i64 X.num, .string ⟨X.text.toArray⟩] 43))
              have HQ1 := Lib.hid ((HQ.out.on HB1.out HQ.out.lt).alloc (.cells #[.int .i64 X.kind, .string ⟨X.name.toArray⟩, .slice ap X.path.length dp, .int .i64 X.num, .string ⟨X.text.toArray⟩] 43))
              have HA1 : Hid (Bs.Box (w1.alloc (.cells #[.int .i64 X.kind, .string ⟨X.name.toArray⟩, .slice ap X.path.length dp, .int .i64 X.num, .string ⟨X.text.toArray⟩] 43)) w1.heap.size #[.int .i64 X.kind, .string ⟨X.name.toArray⟩, .slice ap X.path.length dp, .int .i64 X.num, .string ⟨X.text.toArray⟩] 43) := Bs.Box.new w1 _ _ _ rfl
              have hs1 := HB1.out.size
              have HW1 := Lib.hid (HB1.out.alloc HB1.out.size (.cells #[.int .i64 X.kind, .string ⟨X.name.toArray⟩, .slice ap X.path.length dp, .int .i64 X.num, .string ⟨X.text.toArray⟩] 43))
              generalize w1.alloc (.cells #[.int .i64 X.kind, .string ⟨X.name.toArray⟩, .slice ap X.path.length dp, .int .i64 X.num, .string ⟨X.text.toArray⟩] 43) = w2 at *
              have y0 := HC1.out.cell 0 rfl
              have y1 := HC1.out.cell 1 rfl
              have q0 := HQ1.out.cell 0 rfl
              have q1 := HQ1.out.cell 1 rfl
              have qf := HQ1.out.frozen
              go_wp2_with fail
              have HQ3 : Hid (Bs.Box ((w2.setCell ⟨w.heap.size, 0, none⟩ (.string F)).setCell ⟨w.heap.size, 1, none⟩ (.slice a1 out.length d1)) w.heap.size #[.string F, .slice a1 out.length d1] 46) := (HQ1.out.set 0 _).set 1 _
              have HW3 := Lib.hid (((HB.out.trans (HW1.out.mono HB.out.size)).setCell (p := ⟨w.heap.size, 0, none⟩) (Nat.le_refl _) (.string F)).setCell (p := ⟨w.heap.size, 1, none⟩) (Nat.le_refl _) (.slice a1 out.length d1))
              generalize (w2.setCell ⟨w.heap.size, 0, none⟩ (.string F)).setCell ⟨w.heap.size, 1, none⟩ (.slice a1 out.length d1) = w3 at *
              have r0 := HQ3.out.cell 0 rfl
              have r1 := HQ3.out.cell 1 rfl
              refine bodyPost_ret (v := .tuple #[.agg #[.string F, .slice a1 out.length d1], .bool false]) (by simp [results, Tryz.results121, go_sem, r0, r1]) rfl ?_
              exact ⟨F, a1, out.length, d1, false, rfl, HW3.out, fun _ => rfl, fun c e => by rw [HRB.out] at e; cases e⟩
            | true =>
              have pa := pa wr pth
              go_upto_region 14 with (go_at_call 143; refine pa.mono ?_; rintro e w1 ⟨pv', rfl, hp1, hb1⟩; have HP1 := Lib.hid hp1; obtain ⟨ap, dp, rfl, _, _, _⟩ := hp1; have HB1 := Lib.hid hb1; clear pa)
              have HC1 := Lib.hid ((HC.out.on HB1.out HC.out.lt).alloc (.cells #[.int .i64 X.kind, .string ⟨X.name.toArray⟩, .slice ap X.path.length dp, .int .i64 X.num, .string ⟨X.text.toArray⟩] 43))
              have HQ1 := Lib.hid ((HQ.out.on HB1.out HQ.out.lt).alloc (.cells #[.int .i64 X.kind, .string ⟨X.name.toArray⟩, .slice ap X.path.length dp, .int .i64 X.num, .string ⟨X.text.toArray⟩] 43))
              have HA1 : Hid (Bs.Box (w1.alloc (.cells #[.int .i64 X.kind, .string ⟨X.name.toArray⟩, .slice ap X.path.length dp, .int .i64 X.num, .string ⟨X.text.toArray⟩] 43)) w1.heap.size #[.int .i64 X.kind, .string ⟨X.name.toArray⟩, .slice ap X.path.length dp, .int .i64 X.num, .string ⟨X.text.toArray⟩] 43) := Bs.Box.new w1 _ _ _ rfl
              have hs1 := HB1.out.size
              have HW1 := Lib.hid (HB1.out.alloc HB1.out.size (.cells #[.int .i64 X.kind, .string ⟨X.name.toArray⟩, .slice ap X.path.length dp, .int .i64 X.num, .string ⟨X.text.toArray⟩] 43))
              generalize w1.alloc (.cells #[.int .i64 X.kind, .string ⟨X.name.toArray⟩, .slice ap X.path.length dp, .int .i64 X.num, .string ⟨X.text.toArray⟩] 43) = w2 at *
              have hst2 : Pi.args (ws.drop (i + 1)) (out ++ [X]) = G := hst
              have HG2 := Lib.hid hst2
              have hp8 := hpa trivial
              have HB2 : Hid (Below wr.heap.size wr w2) := HW1
              have hpth := Lib.hid (St.Lies.later HP1.out HW1.out)
              clear hst hst2 hpa hz1 HG hXo hp2 HP1 pth
              have a2 := HA1.out.cell 2 rfl
              have a2' : ∀ o', (w2.alloc o').cell? ⟨w1.heap.size, 2, none⟩ = some (.slice ap X.path.length dp) := fun o' => (HA1.out.alloc o').cell 2 rfl
              have htc := Gc.text_cells hpth.out
              have HTC := Lib.hid htc.2
              clear htc
              go_upto_region 17 with (at_builtin; refine Gc.copy rfl _ _ 33 9 1 16 (.string ⟨#[]⟩) rfl Tryz.underlying33 St.info rfl (by decide) w2.heap.size rfl (Gc.none w2 w2.heap.size 9 1 (Nat.le_refl _)) X.path.length (St.cells X.path) ap dp rfl (fun j u hj => by obtain ⟨q, e, c⟩ := HTC.out j u hj; exact ⟨q, e, Tp.keepA c⟩) (Gc.cells_len _) (Gc.ones _) (by unfold maxLen; omega) (by omega) (by simp) ?_; intro v4 w4 R4 hg4 hf4; obtain ⟨a4, d4, rfl⟩ := Gr.form R4; have HR4 := Lib.hid R4; have B4 := Lib.hid (((Below.refl w2.heap.size w2).alloc (Nat.le_refl _) (.cells #[] 9)).grown hg4 (by simp) (fun k e => by injection e with e; omega)); clear R4 hg4 hf4; have z2 := (HA1.out.on B4.out HA1.out.lt).cell 2 rfl; have zf := (HA1.out.on B4.out HA1.out.lt).frozen)
              have hA5 : Bs.Box (w4.setCell ⟨w1.heap.size, 2, none⟩ (.slice a4 X.path.length d4)) w1.heap.size #[.int .i64 X.kind, .string ⟨X.name.toArray⟩, .slice a4 X.path.length d4, .int .i64 X.num, .string ⟨X.text.toArray⟩] 43 := (HA1.out.on B4.out HA1.out.lt).set 2 _
              have hw14 : w1.heap.size < w2.heap.size := HA1.out.lt
              have B5 := Lib.hid ((Below.trans HB2.out (B4.out.mono HB2.out.size)).setCell (p := ⟨w1.heap.size, 2, none⟩) (by exact hs1) (.slice a4 X.path.length d4))
              have HP5 : Hid (St.Lies (w4.setCell ⟨w1.heap.size, 2, none⟩ (.slice a4 X.path.length d4)) (Gr.R (w.heap.size + 2) (fun _ => False) (w4.setCell ⟨w1.heap.size, 2, none⟩ (.slice a4 X.path.length d4)) (.slice a1 out.length d1)) X.path (.slice a4 X.path.length d4)) := (St.Lies.own HR4.out).on fun k hk => by
                have e : (w4.setCell ⟨w1.heap.size, 2, none⟩ (.slice a4 X.path.length d4)).heap[k]? = w4.heap[k]? := Below.heap_setCell _ _ _ _ (by have := hk.1; show k ≠ w1.heap.size; omega)
                refine ⟨⟨by have := hk.1; omega, by simpa using hk.2.1, fun q => ?_, fun q => q, hk.2.2.on e⟩, e⟩
                have := (HO.out.own.lt k q).2
                have := hk.1
                omega
              generalize w4.setCell ⟨w1.heap.size, 2, none⟩ (.slice a4 X.path.length d4) = w5 at *
              have HO5 := Lib.hid (HO.out.below B5.out)
              have HC5 := Lib.hid (HC.out.on B5.out HC.out.lt)
              have HQ5 := Lib.hid (HQ.out.on B5.out HQ.out.lt)
              have s0 := hA5.cell 0 rfl
              have s1 := hA5.cell 1 rfl
              have s2 := hA5.cell 2 rfl
              have s3 := hA5.cell 3 rfl
              have s4 := hA5.cell 4 rfl
              have k1 := HC5.out.cell 1 rfl
              have HS5 := Lib.hid B5.out.size
              have hsw : w.heap.size + 2 ≤ w5.heap.size := by have := HS5.out; omega
              have HPU := Lib.hid (fun (v7 : Value) (w7 : World) (R7 : w7.ownsRow (w.heap.size + 2) 43 5 v7 (out.length + 1) (xs ++ Ar.five X (.slice a4 X.path.length d4))) (hg7 : (w5.alloc (.cells #[.int .i64 X.kind, .string ⟨X.name.toArray⟩, .slice a4 X.path.length d4, .int .i64 X.num, .string ⟨X.text.toArray⟩] 43)).grownBy w7 (Value.slice a1 out.length d1).ownBlock) (hf7 : v7.ownBlock = (Value.slice a1 out.length d1).ownBlock ∨ v7.ownBlock = some (w5.alloc (.cells #[.int .i64 X.kind, .string ⟨X.name.toArray⟩, .slice a4 X.path.length d4, .int .i64 X.num, .string ⟨X.text.toArray⟩] 43)).heap.size) => HO5.out.push ((Below.refl _ w5).alloc (Nat.le_refl _) _) (nd := Ar.dt X) rfl (Ar.cells HP5.out) R7 hg7 hf7)
              clear hA5 HA1 B4 HR4 HTC hpth HC1 HQ1 HW1 HB1 HB2 z2 zf a2 a2' x0 x1 x2 x3
              go_wp2_with (at_builtin; refine Ro.push rfl _ _ 44 43 5 72 _ rfl Tryz.underlying44 Ar.info rfl (by decide) _ rfl (HO5.out.own.alloc _) w5.heap.size (Ar.five X (.slice a4 X.path.length d4)) rfl (Gr.cells w5 (Ar.five X (.slice a4 X.path.length d4)) 43) rfl (Ar.ones X _ _ _) (by unfold maxLen; omega) (by omega) (by simp; omega) ?_; intro v7 w7 R7 hg7 hf7; have HN7 := Lib.hid (HPU.out v7 w7 R7 hg7 hf7); obtain ⟨a7, d7, rfl⟩ := Gr.form R7; have B7 : Below (w.heap.size + 2) w5 w7 := ((Below.refl (w.heap.size + 2) w5).alloc hsw _).grown hg7 (by simp; omega) (fun k e => (HO5.out.own.lt k e).1); have HB7 := Lib.hid B7; have HC7 := Lib.hid (HC5.out.on B7 (by omega)); have HQ7 := Lib.hid (HQ5.out.on B7 (by omega)); clear R7 hg7 hf7 B7; have m1 := HC7.out.cell 1 rfl; have mf := HC7.out.frozen)
              go_roundw
              case rel =>
                have hs7 := HB7.out.size
                refine ⟨i + 1, out ++ [X], a7, d7, xs ++ Ar.five X (.slice a4 X.path.length d4), by omega, by omega, by go_num, (by have := HOI.out; unfold Hid; rw [List.length_append]; simp; omega), HG2, ?_, ?_, ?_, ?_, ?_⟩
                · rw [List.length_append]; exact HC7.out.set 1 _
                · exact (Below.heap_setCell _ _ _ _ (by show w.heap.size ≠ w.heap.size + 1; omega)).trans HQ7.out
                · have h5 := Gr.Own.on (w' := w7.setCell ⟨w.heap.size + 1, 1, none⟩ (.slice a7 (out.length + 1) d7)) HN7.out (by simp) (fun b' hb' _ _ => Below.heap_setCell _ _ _ _ (by show b' ≠ w.heap.size + 1; omega)) (fun _ _ q => q)
                  unfold Ar.Own
                  rw [List.length_append, List.flatMap_append]
                  have e1 : [X].flatMap Ar.dt = Ar.dt X := by simp
                  rw [e1]
                  exact h5
                · exact ((HB.out.trans (B5.out.mono (by omega))).trans (HB7.out.mono (by omega))).setCell (p := ⟨w.heap.size + 1, 1, none⟩) (by show w.heap.size ≤ w.heap.size + 1; omega) _
                · simp; omega
              case measure => simp [intOf]; omega
          · have hie : i = ws.length := by omega
            have dlt : decide ((i : Int) < (ws.length : Int)) = false := decide_eq_false (by omega)
            have hG : some out = G := (Pi.args_end (out := out) (by omega)).symm.trans HG.out
            subst hG
            clear HG hie
            have y0 := HC.out.cell 0 rfl
            have y1 := HC.out.cell 1 rfl
            have q0 := HQ.out.cell 0 rfl
            have q1 := HQ.out.cell 1 rfl
            have qf := HQ.out.frozen
            have n0 : F.toList = [] := by rw [← hF, ByteArray.toList_eq]
            have n1 : F.toList.isEmpty = true := by rw [n0]; rfl
            have n2 : (F.toList != []) = false := by rw [n0]; rfl
            have n3 : (F.toList == []) = true := by rw [n0]; rfl
            have HF := Lib.hid hF
            have HLI := Lib.hid HO.out.lies
            clear hF n0
            have HQ3 : Hid (Bs.Box ((wr.setCell ⟨w.heap.size, 0, none⟩ (.string F)).setCell ⟨w.heap.size, 1, none⟩ (.slice a1 out.length d1)).drew w.heap.size #[.string F, .slice a1 out.length d1] 46) := (HQ.out.set 0 _).set 1 _
            have HW3 : Hid (Below w.heap.size w ((wr.setCell ⟨w.heap.size, 0, none⟩ (.string F)).setCell ⟨w.heap.size, 1, none⟩ (.slice a1 out.length d1)).drew) := ((HB.out.setCell (p := ⟨w.heap.size, 0, none⟩) (Nat.le_refl _) (.string F)).setCell (p := ⟨w.heap.size, 1, none⟩) (Nat.le_refl _) (.slice a1 out.length d1)).drew
            have HL3 : Hid (Dt.Lies ((wr.setCell ⟨w.heap.size, 0, none⟩ (.string F)).setCell ⟨w.heap.size, 1, none⟩ (.slice a1 out.length d1)).drew (fun b => w.heap.size ≤ b ∧ b < ((wr.setCell ⟨w.heap.size, 0, none⟩ (.string F)).setCell ⟨w.heap.size, 1, none⟩ (.slice a1 out.length d1)).drew.heap.size ∧ Rm.Ub ((wr.setCell ⟨w.heap.size, 0, none⟩ (.string F)).setCell ⟨w.heap.size, 1, none⟩ (.slice a1 out.length d1)).drew b) (Ar.rows out) (.slice a1 out.length d1)) := HLI.out.on fun k hk => by
              have e : ((wr.setCell ⟨w.heap.size, 0, none⟩ (.string F)).setCell ⟨w.heap.size, 1, none⟩ (.slice a1 out.length d1)).drew.heap[k]? = wr.heap[k]? := (Below.heap_setCell _ _ _ _ (by have := hk.1; show k ≠ w.heap.size; omega)).trans (Below.heap_setCell _ _ _ _ (by have := hk.1; show k ≠ w.heap.size; omega))
              exact ⟨⟨by have := hk.1; omega, by simpa using hk.2.1, hk.2.2.on e⟩, e⟩
            have fin : ∀ ok : Bool, (first && decide (out.length = 1)) = ok → ∀ e, e = Ending.returned (.tuple #[.agg #[.string F, .slice a1 out.length d1], .bool ok]) → ∃ F' a n d ok', Pr.COut w ((wr.setCell ⟨w.heap.size, 0, none⟩ (.string F)).setCell ⟨w.heap.size, 1, none⟩ (.slice a1 out.length d1)).drew r e F' (.slice a n d) ok' := by
              intro ok hok e he
              refine ⟨F, a1, out.length, d1, ok, he, HW3.out, fun hr => ?_, fun c hr => ?_⟩
              · rw [← hok]
                rw [HRB.out] at hr
                unfold Pi.resB at hr
                simp only at hr
                split at hr
                · cases hr
                · rename_i hc
                  rw [Bool.eq_false_iff]
                  intro q
                  simp only [Bool.and_eq_true, decide_eq_true_eq] at q
                  exact hc q
              · rw [HRB.out] at hr
                unfold Pi.resB at hr
                simp only at hr
                split at hr
                · rename_i hc
                  have hr := Option.some.inj hr
                  subst hr
                  refine ⟨?_, HF.out.symm, HL3.out⟩
                  rw [← hok]
                  simp only [Bool.and_eq_true, decide_eq_true_eq]
                  exact hc
                · cases hr
            have FN := Lib.hid fin
            clear fin HW3 HL3 HF HRB HLI
            generalize hw3 : ((wr.setCell ⟨w.heap.size, 0, none⟩ (.string F)).setCell ⟨w.heap.size, 1, none⟩ (.slice a1 out.length d1)).drew = w3 at HQ3 FN
            have HW3 := Lib.hid hw3
            clear hw3
            have r0 := HQ3.out.cell 0 rfl
            have r1 := HQ3.out.cell 1 rfl
            cases first with
            | false =>
              go_wp2_with fail
              go_region
              all_goals go_wp2
              all_goals rw [HW3.out]
              all_goals refine bodyPost_ret (v := .tuple #[.agg #[.string F, .slice a1 out.length d1], .bool false]) (by simp [results, Tryz.results121, go_sem, r0, r1]) rfl ?_
              all_goals exact FN.out false rfl _ rfl
            | true =>
              by_cases h1 : out.length = 1
              · have e1 : ((out.length : Int) == 1) = true := by rw [h1]; rfl
                have FO := Lib.hid (FN.out true (by rw [decide_eq_true h1]; rfl))
                clear h1 FN
                go_wp2_with fail
                go_region
                all_goals go_wp2
                all_goals rw [HW3.out]
                all_goals refine bodyPost_ret (v := .tuple #[.agg #[.string F, .slice a1 out.length d1], .bool true]) (by simp [results, Tryz.results121, go_sem, r0, r1]) rfl ?_
                all_goals exact FO.out _ rfl
              · have e1 : ((out.length : Int) == 1) = false := beq_eq_false_iff_ne.2 (by omega)
                have FO := Lib.hid (FN.out false (by rw [decide_eq_false h1]; rfl))
                clear h1 FN
                go_wp2_with fail
                go_region
                all_goals go_wp2
                all_goals rw [HW3.out]
                all_goals refine bodyPost_ret (v := .tuple #[.agg #[.string F, .slice a1 out.length d1], .bool false]) (by simp [results, Tryz.results121, go_sem, r0, r1]) rfl ?_
                all_goals exact FO.out _ rfl
end Go.Proofs.YtjppobeomocgbaaGreatDoor

/-
  THE WALK of the reference's ParsePipe.
-/
import Derived.Test.YtjppobeomocgbaaGreatDoorTICmd
import Derived.Deep.CutRange
import Derived.Test.YtjppobeomocgbaaGreatDoorTOPlaintoIArgMay
import Derived.Test.YtjppobeomocgbaaGreatDoorTGKittoLRef1
import Derived.Deep.CutBlock
import Derived.Deep.QuietTactic
namespace Go.Proofs.YtjppobeomocgbaaGreatDoor
open Go.RowKit
def Cm.dt (c : Cm) : List Dt := [.str c.fn, Ar.rows c.args]
/-- commands in memory -/
abbrev Cm.rows (l : List Cm) : Dt := Dt.rows 2 Cm.dt l
theorem Cm.info : (Tryz.prog.info? 46).map (fun i => (i.zero, i.size, i.bytes)) = some (some (.agg #[.string ⟨#[]⟩, .slice none 0 0]), 2, 40) := by kernel_rfl
/-- a part of a row of words -/
theorem Wi.part {w : World} {R : Nat → Prop} {ws : List Wi} {b o d : Nat} (h : Dt.Lies w R (Wi.rows ws) (.slice (some ⟨b, o, none⟩) ws.length d)) (f i : Nat) (hf : f ≤ i) (hi : i ≤ ws.length) : Dt.Lies w R (Wi.rows ((ws.drop f).take (i - f))) (.slice (some ⟨b, o + f * 4, none⟩) (i - f) (d - f)) := by
  obtain ⟨a, d', e, h1, h2, hx⟩ := h.get (fun _ => rfl) (by decide)
  injection e with e1 e2 e3
  subst e1 e3
  have hl : ((ws.drop f).take (i - f)).length = i - f := by rw [List.length_take, List.length_drop]; omega
  have := Dt.Lies.put (k := 4) (f := Wi.dt) (w := w) (R := R) (l := (ws.drop f).take (i - f)) (a := some ⟨b, o + f * 4, none⟩) (d := d - f) (fun _ => rfl) (by decide) (by omega) (by omega) (fun j x hj => by
    have hjl := (List.getElem?_eq_some_iff.1 hj).1
    rw [hl] at hjl
    rw [List.getElem?_take_of_lt hjl, List.getElem?_drop] at hj
    obtain ⟨b2, o2, ea, hb, hc⟩ := hx (f + j) x hj
    injection ea with ea
    injection ea with e1 e2
    subst e1 e2
    exact ⟨b, o + f * 4, rfl, hb, fun r y hr => by
      obtain ⟨u, c, hl⟩ := hc r y hr
      exact ⟨u, by rw [show o + f * 4 + j * 4 + r = o + (f + j) * 4 + r by rw [Nat.add_mul]; omega]; exact c, hl⟩⟩)
  rw [hl] at this
  exact this
theorem Pi.go_bar {ws cur : List Wi} {out : List Cm} {i : Nat} (h : i < ws.length) (hb : Pi.bar ws[i] = true) : Pi.go (ws.drop i) cur out = match Pi.command cur out.isEmpty with | none => none | some c => Pi.go (ws.drop (i + 1)) [] (out ++ [c]) := by
  rw [List.drop_eq_getElem_cons h]
  conv => lhs; unfold Pi.go
  rw [if_pos hb]
  cases Pi.command cur out.isEmpty <;> rfl
theorem Pi.go_word {ws : List Wi} {out : List Cm} {f i : Nat} (h : i < ws.length) (hf : f ≤ i) (hb : Pi.bar ws[i] = false) : Pi.go (ws.drop i) ((ws.drop f).take (i - f)) out = Pi.go (ws.drop (i + 1)) ((ws.drop f).take (i + 1 - f)) out := by
  rw [List.drop_eq_getElem_cons h]
  conv => lhs; unfold Pi.go
  rw [if_neg (by rw [hb]; decide)]
  congr 1
  rw [show i + 1 - f = (i - f) + 1 by omega, List.take_add_one, List.getElem?_drop, show f + (i - f) = i by omega, List.getElem?_eq_getElem h]
  rfl
theorem Pi.go_end {ws cur : List Wi} {out : List Cm} : Pi.go (ws.drop ws.length) cur out = (Pi.command cur out.isEmpty).map fun c => out ++ [c] := by
  rw [List.drop_length]
  rfl
abbrev Cm.Own (base : Nat) (l : List Cm) (w : World) (v : Value) (xs : List Value) : Prop := Gr.Own base (fun _ => False) 46 2 l.length (l.flatMap Cm.dt) w v xs
def Cm.many (l : List Cm) : Bool := l.any fun c => decide (8 < c.args.length)
def Cm.two (F : ByteArray) (av : Value) : List Value := [.string F, av]
theorem Cm.cells {w : World} {R : Nat → Prop} {c : Cm} {F : ByteArray} {av : Value} (hF : F = ⟨c.fn.toArray⟩) (h : Dt.Lies w R (Ar.rows c.args) av) : ∀ (i : Nat) d, (Cm.dt c)[i]? = some d → ∃ u, (Cm.two F av)[i]? = some u ∧ Dt.Lies w R d u := by
  subst hF
  intro i d hi
  match i, hi with
  | 0, hi => exact ⟨_, rfl, by have := Option.some.inj hi; subst this; unfold Dt.Lies; rfl⟩
  | 1, hi => exact ⟨_, rfl, by have := Option.some.inj hi; subst this; exact h⟩
theorem Cm.ones (F : ByteArray) (a : Option Addr) (n d : Nat) : ∀ u ∈ Cm.two F (.slice a n d), u.oneCell' = true := by
  intro u hu
  simp only [Cm.two, List.mem_cons, List.not_mem_nil, or_false] at hu
  rcases hu with rfl | rfl <;> rfl
set_option maxHeartbeats 2000000 in
theorem Pr.bar (x : Wi) (pv : Value) (R : Nat → Prop) (w : World) (hx : St.Lies w R x.path pv) :
    Calls Tryz.prog 120 #[.agg #[.int .i64 x.kind, .string ⟨x.text.toArray⟩, pv, .int .i64 x.num]] w fun e w' => e = .returned (.bool (Pi.bar x)) ∧ Below w.heap.size w w' := by
  obtain ⟨k, tl, p, m⟩ := x
  obtain ⟨a, d, rfl, _, _, _⟩ := hx
  have hB := Pr.boxed w (.cells #[.int .i64 k, .string ⟨tl.toArray⟩, .slice a p.length d, .int .i64 m] 91)
  have t1 := Pi.isEmpty_list ⟨tl.toArray⟩
  have t2 := Pi.beq_nil ⟨tl.toArray⟩
  have p1 := Pi.len0 p
  have e1 : (⟨tl.toArray⟩ : ByteArray).data.toList = tl := rfl
  rw [e1] at t1 t2
  unfold Pi.bar
  simp only
  generalize (⟨tl.toArray⟩ : ByteArray) = T at *
  by_cases h1 : k = 5
  · have d1 : (k == 5) = true := by rw [h1]; rfl
    rw [decide_eq_true h1]
    cases h2 : tl.isEmpty with
    | false =>
      rw [h2] at t1 t2
      clear h1 h2 p1 e1
      go_enter Tryz.func120, Tryz.ntmps120
      go_wp2_with fail
      go_ret
      exact ⟨rfl, hB⟩
    | true =>
      rw [h2] at t1 t2
      by_cases h3 : m = 0
      · have d3 : (m == 0) = true := by rw [h3]; rfl
        rw [decide_eq_true h3]
        cases h4 : p.isEmpty with
        | false =>
          rw [h4] at p1
          clear h1 h2 h3 h4 e1
          go_enter Tryz.func120, Tryz.ntmps120
          go_wp2_with fail
          go_ret
          exact ⟨rfl, hB⟩
        | true =>
          rw [h4] at p1
          clear h1 h2 h3 h4 e1
          go_enter Tryz.func120, Tryz.ntmps120
          go_wp2_with fail
          go_ret
          exact ⟨rfl, hB⟩
      · have d3 : (m == 0) = false := beq_eq_false_iff_ne.2 h3
        rw [decide_eq_false h3]
        clear h1 h2 h3 p1 e1
        go_enter Tryz.func120, Tryz.ntmps120
        go_wp2_with fail
        go_ret
        exact ⟨rfl, hB⟩
  · have d1 : (k == 5) = false := beq_eq_false_iff_ne.2 h1
    rw [decide_eq_false h1]
    clear h1 t1 t2 p1 e1
    go_enter Tryz.func120, Tryz.ntmps120
    go_wp2_with fail
    go_ret
    exact ⟨rfl, hB⟩
/-- where ParsePipe stands ahead of a round -/
def Pi.At (ws : List Wi) (G : Option (List Cm)) (i f : Nat) (cs : List Cm) : Prop := if i ≤ ws.length then Pi.go (ws.drop i) ((ws.drop f).take (i - f)) cs = G else G = some cs
/-- what comes of a bar or of the end -/
theorem Pi.At.cmd {ws : List Wi} {G : Option (List Cm)} {i f : Nat} {cs : List Cm} (h : Pi.At ws G i f cs) (hi : i ≤ ws.length) (hb : ∀ (hl : i < ws.length), Pi.bar ws[i] = true) :
    (Pi.command ((ws.drop f).take (i - f)) cs.isEmpty = none → G = none) ∧ ∀ c, Pi.command ((ws.drop f).take (i - f)) cs.isEmpty = some c → Pi.At ws G (i + 1) (i + 1) (cs ++ [c]) := by
  unfold Pi.At at h
  rw [if_pos hi] at h
  by_cases hl : i < ws.length
  · rw [Pi.go_bar hl (hb hl)] at h
    refine ⟨fun e => ?_, fun c e => ?_⟩
    · rw [e] at h; exact h.symm
    · rw [e] at h
      unfold Pi.At
      rw [if_pos (by omega), Nat.sub_self, List.take_zero]
      exact h
  · have e : i = ws.length := by omega
    subst e
    rw [Pi.go_end] at h
    refine ⟨fun e => ?_, fun c e => ?_⟩
    · rw [e] at h; exact h.symm
    · rw [e] at h
      unfold Pi.At
      rw [if_neg (by omega)]
      exact h.symm
theorem Pi.At.word {ws : List Wi} {G : Option (List Cm)} {i f : Nat} {cs : List Cm} (h : Pi.At ws G i f cs) (hl : i < ws.length) (hf : f ≤ i) (hb : Pi.bar ws[i] = false) : Pi.At ws G (i + 1) f cs := by
  unfold Pi.At at h ⊢
  rw [if_pos (by omega)] at h
  rw [if_pos (by omega), ← Pi.go_word hl hf hb]
  exact h
/-- what is answered in the end -/
def Pi.fin : Option (List Cm) → List Cm × Int
  | none => ([], 1500)
  | some cs => if Cm.many cs = true ∨ 8 < cs.length then ([], 1501) else (cs, 0)
theorem Pi.parse_fin (ws : List Wi) : Pi.parse ws = Pi.fin (Pi.go ws [] []) := by
  unfold Pi.parse
  cases Pi.go ws [] [] <;> rfl
theorem Cm.many_snoc (cs : List Cm) (c : Cm) : Cm.many (cs ++ [c]) = (Cm.many cs || decide (8 < c.args.length)) := by
  unfold Cm.many
  rw [List.any_append]
  simp
set_option maxRecDepth 100000 in
set_option maxHeartbeats 4000000 in
theorem Pr.parse (ws : List Wi) (v : Value) (R : Nat → Prop) (w : World) (h : Dt.Lies w R (Wi.rows ws) v) (hn : ws.length ≤ 1048576) (hz : ∀ x ∈ ws, x.text.length ≤ 4611686018427387904 ∧ ∀ t ∈ x.path, t.length ≤ 4611686018427387904) :
    Calls Tryz.prog 94 #[v] w fun e w' => ∃ v', e = .returned (.tuple #[v', .int .i64 (Pi.parse ws).2]) ∧ Dt.Lies w' (fun b => w.heap.size ≤ b ∧ b < w'.heap.size ∧ Rm.Ub w' b) (Cm.rows (Pi.parse ws).1) v' ∧ Below w.heap.size w w' := by
  rw [Pi.parse_fin]
  obtain ⟨G, hG⟩ : ∃ G, Pi.go ws [] [] = G := ⟨_, rfl⟩
  rw [hG]
  have hG0 : Pi.At ws G 0 0 [] := by
    unfold Pi.At
    rw [if_pos (Nat.zero_le _), Nat.sub_self, List.take_zero, List.drop_zero]
    exact hG
  have HG := Lib.hid hG0
  clear hG hG0
  obtain ⟨a, d, rfl, hd, hm, hx⟩ := Wi.get h
  have HX := Lib.hid hx
  have HZ := Lib.hid hz
  have HH := Lib.hid h
  have HDM := Lib.hid hm
  have hml : ws.length ≤ 9223372036854775807 := by omega
  have hb0 : ws.length = 0 ∨ ∃ b o, a = some ⟨b, o, none⟩ := by
    by_cases h0 : ws.length = 0
    · exact .inl h0
    · obtain ⟨b, o, _, e, _⟩ := hx 0 ws[0] (List.getElem?_eq_getElem (by omega))
      exact .inr ⟨b, o, e⟩
  obtain ⟨R1, R2, hR⟩ : ∃ R1 R2, Pi.fin G = (R1, R2) := ⟨_, _, rfl⟩
  rw [hR]
  have HR := Lib.hid hR
  have HO0 : Hid (Cm.Own w.heap.size [] w (.slice none 0 0) []) := Gr.Own.nil _ _ _ _ _
  clear hx hz h hm hR
  rcases hb0 with h0 | ⟨b, o, rfl⟩
  · have hws : ws = [] := List.eq_nil_of_length_eq_zero h0
    subst hws
    have cmE := fun (a' : Option Addr) (d' : Nat) (hd' : d' ≤ maxLen) => Pr.command [] true (.slice a' 0 d') (fun _ => True) w (by unfold Wi.rows Dt.rows Dt.flat Dt.Lies; exact ⟨a', d', rfl, Nat.zero_le _, hd', fun q hq => by simp at hq⟩) (by decide) (fun x hx => by cases hx)
    have CE := Lib.hid cmE
    have hG : G = none := by
      have := HG.out
      unfold Pi.At at this
      rw [if_pos (Nat.zero_le _)] at this
      exact this.symm
    have hRR := HR.out
    rw [hG] at hRR
    injection hRR with r1 r2
    subst r1 r2
    clear cmE HG HX HZ HH HR hG
    have hdm := HDM.out
    rcases a with _ | ⟨b, o, sp⟩
    all_goals
      go_enter Tryz.func94, Tryz.ntmps94
      go_wp2_with fail
      go_loopw [4, 5, 6, 7] (fun ov fv mv iv wr => ov = .slice none 0 0 ∧ fv = .int .i64 0 ∧ mv = .bool false ∧ iv = .int .i64 0 ∧ wr = w) (fun _ _ _ _ _ => 0)
      case atStart => exact ⟨rfl, rfl, rfl, rfl, rfl⟩
      case round =>
        obtain ⟨rfl, rfl, rfl, rfl, hw⟩ := hrel
        have hw := hw.symm
        subst hw
        go_wp2_with (go_at_call 121; refine Calls.mono (CE.out _ _ (by omega)) ?_; rintro e w1 ⟨F, a3, n3, d3, ok, h3⟩; obtain ⟨rfl, hb3, h4, _⟩ := h3; have h4 := h4 rfl; subst h4; have HB3 := Lib.hid (hb3.alloc hb3.size (.cells #[.string F, .slice a3 n3 d3] 46)); clear hb3)
        all_goals go_ret2
        all_goals exact ⟨.slice none 0 0, rfl, Dt.Lies.nil _ _ _ _, HB3.out⟩
  · go_enter Tryz.func94, Tryz.ntmps94
    go_wp2_with fail
    go_loopw [4, 5, 6, 7] (fun ov fv mv iv wr => ∃ (i f : Nat) (cs : List Cm) (a1 : Option Addr) (d1 : Nat) (xs : List Value) (mm : Bool), f ≤ i ∧ i ≤ ws.length + 1 ∧ ov = .slice a1 cs.length d1 ∧ fv = .int .i64 (f : Int) ∧ mv = .bool mm ∧ iv = .int .i64 (i : Int) ∧ Hid (cs.length ≤ i) ∧ Hid (mm = Cm.many cs) ∧ Hid (Pi.At ws G i f cs) ∧ Hid (Cm.Own w.heap.size cs wr (.slice a1 cs.length d1) xs) ∧ Hid (Below w.heap.size w wr)) (fun _ _ _ iv _ => ws.length + 1 - (intOf iv).toNat)
    case atStart => exact ⟨0, 0, [], none, 0, [], false, Nat.le_refl _, by omega, rfl, rfl, rfl, rfl, Nat.zero_le _, rfl, HG, HO0, Below.refl _ _⟩
    case round =>
      clear HG HO0
      obtain ⟨i, f, cs, a1, d1, xs, mm, hfi, hi, rfl, rfl, rfl, rfl, HCL, HMM, HG, HO, HB⟩ := hrel
      have hcl : cs.length ≤ 1048577 := by have := HCL.out; omega
      by_cases hle : i ≤ ws.length
      · have dle : decide ((i : Int) ≤ (ws.length : Int)) = true := decide_eq_true (by omega)
        obtain ⟨C, hC⟩ : ∃ C, (if hl : i < ws.length then !(Pi.bar ws[i]) else false) = C := ⟨_, rfl⟩
        have HC := Lib.hid hC
        clear hC
        go_upto_region 7 with fail
        go_cut [27] from 10 to 53 (fun cv wx => cv = .bool C ∧ Hid (Below wr.heap.size wr wx))
        case first =>
          have hC := HC.out
          clear HC HG HMM HO HR HH
          by_cases hl : i < ws.length
          · have dlt : decide ((i : Int) < (ws.length : Int)) = true := decide_eq_true (by omega)
            rw [dif_pos hl] at hC
            obtain ⟨b2, o2, pv2, e2, hb2, x0, x1, x2, x3, hp2⟩ := HX.out i ws[i] (List.getElem?_eq_getElem hl)
            injection e2 with e2
            injection e2 with e3 e4
            subst e3 e4
            have x0 := Tp.keep HB.out x0
            have x1 := Tp.keep HB.out x1
            have x2 := Tp.keep HB.out x2
            have x3 := Tp.keep HB.out x3
            have hid : i < d := by omega
            have pb := Pr.bar ws[i] pv2 _ wr (hp2.later HB.out)
            generalize ws[i] = z at *
            go_wp2_with (go_at_call 120; refine pb.mono ?_; rintro e w1 ⟨rfl, hb1⟩; have HB1 := Lib.hid hb1; clear hb1 pb)
            go_meet
            exact ⟨by rw [← hC], HB1⟩
          · have dlt : decide ((i : Int) < (ws.length : Int)) = false := decide_eq_false (by omega)
            rw [dif_neg hl] at hC
            subst hC
            go_wp2_with fail
            go_meet
            exact ⟨rfl, Below.refl _ _⟩
        case rest =>
          obtain ⟨rfl, HB1⟩ := hcut
          have HB2 := Lib.hid (HB.out.trans (HB1.out.mono HB.out.size))
          have HO2 := Lib.hid (HO.out.below HB1.out)
          have HS2 := Lib.hid HB1.out.size
          clear HB1 HO HX
          cases C with
          | true =>
            have HG2 : Hid (Pi.At ws G (i + 1) f cs ∧ i < ws.length) := by
              have hC := HC.out
              by_cases hl : i < ws.length
              · rw [dif_pos hl] at hC
                exact ⟨HG.out.word hl hfi (by cases hq : Pi.bar ws[i] with | true => rw [hq] at hC; cases hC | false => rfl), hl⟩
              · rw [dif_neg hl] at hC
                cases hC
            clear HC HG
            go_wp2_with fail
            go_roundw
            case rel => exact ⟨i + 1, f, cs, a1, d1, xs, mm, by omega, by have := HG2.out.2; omega, rfl, rfl, rfl, by go_num, Nat.le_succ_of_le HCL.out, HMM, HG2.out.1, HO2, HB2⟩
            case measure => simp [intOf]; omega
          | false =>
            have hcm := HG.out.cmd hle (fun hl => by
              have hC := HC.out
              rw [dif_pos hl] at hC
              cases hq : Pi.bar ws[i] with
              | true => rfl
              | false => rw [hq] at hC; cases hC)
            have hcl2 : ((ws.drop f).take (i - f)).length ≤ 1048576 := by rw [List.length_take, List.length_drop]; omega
            have cm := Pr.command ((ws.drop f).take (i - f)) cs.isEmpty _ _ wc ((Wi.part HH.out f i hfi hle).later HB2.out) hcl2 (fun x hx => HZ.out x (List.mem_of_mem_drop (List.mem_of_mem_take hx)))
            have cm2 : d = f → Calls Tryz.prog 121 #[.slice (some ⟨b, o, none⟩) 0 0, .bool cs.isEmpty] wc fun e w' => ∃ F a n d ok, Pr.COut wc w' (Pi.command ((ws.drop f).take (i - f)) cs.isEmpty) e F (.slice a n d) ok := fun e => Pr.command ((ws.drop f).take (i - f)) cs.isEmpty _ (fun _ => True) wc (by
              rw [show i - f = 0 by omega, List.take_zero]
              unfold Wi.rows Dt.rows Dt.flat Dt.Lies
              exact ⟨_, _, rfl, Nat.le_refl _, Nat.zero_le _, fun q hq => by simp at hq⟩) hcl2 (fun x hx => HZ.out x (List.mem_of_mem_drop (List.mem_of_mem_take hx)))
            have CM2 := Lib.hid cm2
            have ecs : ((cs.length : Int) == 0) = cs.isEmpty := by cases cs <;> simp <;> omega
            have hid : i ≤ d := by omega
            obtain ⟨r, hr⟩ : ∃ r, Pi.command ((ws.drop f).take (i - f)) cs.isEmpty = r := ⟨_, rfl⟩
            rw [hr] at cm hcm CM2
            have HCM := Lib.hid hcm
            clear hcm hcl2 hr HC HG HH cm2
            generalize cs.isEmpty = em at *
            have hdf : d = f ∨ ¬ d = f := by omega
            rcases hdf with rfl | hdf
            all_goals go_upto_if 40 with (go_at_call 121; (first | (with_reducible refine Calls.mono cm ?_) | (with_reducible refine Calls.mono (CM2.out (by first | trivial | rfl | assumption)) ?_)); rintro e w1 ⟨F, a3, n3, d3, ok, h3⟩; obtain ⟨rfl, hb3, h4, h5⟩ := h3; have HB3 := Lib.hid hb3; have H4 := Lib.hid h4; have H5 := Lib.hid h5; clear hb3 h4 h5 cm CM2)
            all_goals
              have hgo : ok = false ∧ G = none ∨ ok = true ∧ ∃ c, r = some c := by
                cases r with
                | none => exact .inl ⟨H4.out rfl, HCM.out.1 rfl⟩
                | some c => exact .inr ⟨(H5.out c rfl).1, c, rfl⟩
              have HB4 := Lib.hid (HB2.out.trans (HB3.out.mono HB2.out.size))
              rcases hgo with ⟨rfl, hG⟩ | ⟨rfl, c, hc⟩
              · have hRR := HR.out
                rw [hG] at hRR
                injection hRR with r1 r2
                subst r1 r2
                have HW5 := Lib.hid (HB4.out.alloc HB4.out.size (.cells #[.string F, .slice a3 n3 d3] 46))
                clear HCM H4 H5 HO2 hG
                go_wp2_with fail
                go_ret2
                exact ⟨.slice none 0 0, rfl, Dt.Lies.nil _ _ _ _, HW5.out⟩
              · obtain ⟨_, hF, hL⟩ := H5.out c hc
                have HGN := Lib.hid (HCM.out.2 c hc)
                have hn3 : n3 = c.args.length := by
                  obtain ⟨_, _, e, _, _, _⟩ := hL.get (fun _ => rfl) (by decide)
                  injection e
                have HL := Lib.hid hL
                have HF := Lib.hid hF
                have HO3 := Lib.hid (HO2.out.below HB3.out)
                have HX3 : Hid (Bs.Box (w1.alloc (.cells #[.string F, .slice a3 n3 d3] 46)) w1.heap.size #[.string F, .slice a3 n3 d3] 46) := Bs.Box.new w1 _ _ _ rfl
                have HB5 := Lib.hid ((Below.refl w1.heap.size w1).alloc (Nat.le_refl _) (.cells #[.string F, .slice a3 n3 d3] 46))
                have HS3 := Lib.hid (show wc.heap.size ≤ w1.heap.size from HB3.out.size)
                generalize hw2 : w1.alloc (.cells #[.string F, .slice a3 n3 d3] 46) = w2 at *
                clear hw2
                have HO4 := Lib.hid (HO3.out.below HB5.out)
                have HL4 : Hid (Dt.Lies w2 (Gr.R w.heap.size (fun _ => False) w2 (.slice a1 cs.length d1)) (Ar.rows c.args) (.slice a3 n3 d3)) := HL.out.on fun k hk => by
                  have e := HB5.out.block k hk.2.1
                  refine ⟨⟨Nat.le_trans (Nat.le_trans HB.out.size HS2.out) hk.1, Nat.lt_of_lt_of_le hk.2.1 HB5.out.size, fun q => ?_, fun q => q, hk.2.2.on e⟩, e⟩
                  have := (HO2.out.own.lt k q).2
                  have := hk.1
                  omega
                have HB6 := Lib.hid (HB4.out.trans (HB5.out.mono HB4.out.size))
                have x0 := HX3.out.cell 0 rfl
                have x1 := HX3.out.cell 1 rfl
                obtain ⟨b8, hb8⟩ : ∃ b8, decide (8 < c.args.length) = b8 := ⟨_, rfl⟩
                have e8 : decide ((8 : Int) < (n3 : Int)) = b8 := by rw [← hb8, hn3]; simp; omega
                have HM8 : Hid ((mm || b8) = Cm.many (cs ++ [c])) := by unfold Hid; rw [Cm.many_snoc, HMM.out, hb8]
                clear HCM H4 H5 hc hF hL hn3 hb8 HO2 HO3 HL HB3 HB4 HB5 HMM
                go_upto_region 11 with fail
                go_cut [6] from 10 to 53 (fun mv wx => mv = .bool (mm || b8) ∧ wx = w2)
                case first =>
                  clear HM8
                  cases mm with
                  | true =>
                    go_wp2_with fail
                    go_meet
                    exact ⟨rfl, rfl⟩
                  | false =>
                    go_wp2_with fail
                    go_meet
                    exact ⟨rfl, rfl⟩
                case rest =>
                  obtain ⟨rfl, hw⟩ := hcut
                  subst hw
                  have hsw : w.heap.size ≤ wc.heap.size := HB6.out.size
                  have HPU := Lib.hid (fun (v7 : Value) (w7 : World) (R7 : w7.ownsRow w.heap.size 46 2 v7 (cs.length + 1) (xs ++ Cm.two F (.slice a3 n3 d3))) (hg7 : (wc.alloc (.cells #[.string F, .slice a3 n3 d3] 46)).grownBy w7 (Value.slice a1 cs.length d1).ownBlock) (hf7 : v7.ownBlock = (Value.slice a1 cs.length d1).ownBlock ∨ v7.ownBlock = some (wc.alloc (.cells #[.string F, .slice a3 n3 d3] 46)).heap.size) => HO4.out.push ((Below.refl _ wc).alloc (Nat.le_refl _) _) (nd := Cm.dt c) rfl (Cm.cells HF.out HL4.out) R7 hg7 hf7)
                  go_wp2_with (at_builtin; refine Ro.push rfl _ _ 35 46 2 40 _ rfl Tryz.underlying35 Cm.info rfl (by decide) _ rfl (HO4.out.own.alloc _) wc.heap.size (Cm.two F (.slice a3 n3 d3)) rfl (Gr.cells wc (Cm.two F (.slice a3 n3 d3)) 46) rfl (Cm.ones _ _ _ _) (by unfold maxLen; omega) (by omega) (by simp; omega) ?_; intro v7 w7 R7 hg7 hf7; have HN7 := Lib.hid (HPU.out v7 w7 R7 hg7 hf7); obtain ⟨a7, d7, rfl⟩ := Gr.form R7; have HB7 := Lib.hid (((Below.refl w.heap.size wc).alloc hsw (.cells #[.string F, .slice a3 n3 d3] 46)).grown hg7 (by simp; omega) (fun k e => (HO4.out.own.lt k e).1)); clear R7 hg7 hf7)
                  go_roundw
                  case rel =>
                    refine ⟨i + 1, i + 1, cs ++ [c], a7, d7, xs ++ Cm.two F (.slice a3 n3 d3), mm || b8, Nat.le_refl _, by omega, (by rw [List.length_append]; rfl), by go_num, rfl, by go_num, ?_, HM8, HGN, ?_, HB6.out.trans HB7.out⟩
                    · have := HCL.out
                      unfold Hid
                      rw [List.length_append]
                      simp
                      omega
                    · have h7 := HN7.out
                      have e1 : [c].flatMap Cm.dt = Cm.dt c := by simp
                      unfold Hid Cm.Own
                      rw [List.length_append, List.flatMap_append, e1]
                      exact h7
                  case measure => simp [intOf]; omega
      · have dle : decide ((i : Int) ≤ (ws.length : Int)) = false := decide_eq_false (by omega)
        have hG : G = some cs := by
          have := HG.out
          unfold Pi.At at this
          rw [if_neg hle] at this
          exact this
        have hRR := HR.out
        rw [hG] at hRR
        unfold Pi.fin at hRR
        simp only at hRR
        have HLI := Lib.hid HO.out.lies
        have hmm := HMM.out
        clear HG HR hG HH HX
        cases mm with
        | true =>
          rw [if_pos (.inl hmm.symm)] at hRR
          injection hRR with r1 r2
          subst r1 r2
          clear hmm HMM
          go_wp2_with fail
          go_ret2
          exact ⟨.slice none 0 0, rfl, Dt.Lies.nil _ _ _ _, HB.out⟩
        | false =>
          by_cases h8 : 8 < cs.length
          · have e8 : decide ((8 : Int) < (cs.length : Int)) = true := decide_eq_true (by omega)
            rw [if_pos (.inr h8)] at hRR
            injection hRR with r1 r2
            subst r1 r2
            clear hmm HMM
            go_wp2_with fail
            go_ret2
            exact ⟨.slice none 0 0, rfl, Dt.Lies.nil _ _ _ _, HB.out⟩
          · have e8 : decide ((8 : Int) < (cs.length : Int)) = false := decide_eq_false (by omega)
            rw [if_neg (fun q => q.elim (fun q => by rw [q] at hmm; cases hmm) h8)] at hRR
            injection hRR with r1 r2
            subst r1 r2
            clear hmm HMM
            go_wp2_with fail
            go_ret2
            exact ⟨_, rfl, HLI.out, HB.out⟩
end Go.Proofs.YtjppobeomocgbaaGreatDoor
/-
  THE REFERENCE's CURSOR IN MEMORY; the walks of its fail and name.
-/
namespace Go.Proofs.YtjppobeomocgbaaGreatDoor
open Go.RowKit
/-- the cursor lies in block g -/
def Cu.At (w : World) (g : Nat) (s : ByteArray) (i : Nat) (e : Int) : Prop := Bs.Box w g #[.string s, .int .i64 (i : Int), .int .i64 e] 117
/-- all but block g is as it was -/
structure Cu.Kept (w w' : World) (g : Nat) : Prop where
  os : w'.os = w.os
  tape : w'.tape = w.tape
  output : w'.output = w.output
  size : w.heap.size ≤ w'.heap.size
  block : ∀ k, k < w.heap.size → k ≠ g → w'.heap[k]? = w.heap[k]?
theorem Cu.Kept.refl (w : World) (g : Nat) : Cu.Kept w w g := ⟨rfl, rfl, rfl, Nat.le_refl _, fun _ _ _ => rfl⟩
theorem Cu.Kept.trans {w w1 w2 : World} {g : Nat} (h : Cu.Kept w w1 g) (h2 : Cu.Kept w1 w2 g) : Cu.Kept w w2 g :=
  ⟨h2.os.trans h.os, h2.tape.trans h.tape, h2.output.trans h.output, Nat.le_trans h.size h2.size, fun k hk hg => (h2.block k (Nat.lt_of_lt_of_le hk h.size) hg).trans (h.block k hk hg)⟩
theorem Cu.Kept.set {w w1 : World} {g : Nat} (h : Cu.Kept w w1 g) (i : Nat) (v : Value) : Cu.Kept w (w1.setCell ⟨g, i, none⟩ v) g :=
  ⟨h.os, h.tape, h.output, by simp; exact h.size, fun k hk hg => (Below.heap_setCell _ _ _ _ hg).trans (h.block k hk hg)⟩
theorem Cu.Kept.drewN {w w1 : World} {g : Nat} (h : Cu.Kept w w1 g) (n : Nat) : Cu.Kept w (w1.drewN n) g := ⟨h.os, h.tape, h.output, h.size, h.block⟩
theorem Cu.Kept.then {w w1 w2 : World} {g : Nat} (h : Cu.Kept w w1 g) (hb : Below w1.heap.size w1 w2) : Cu.Kept w w2 g :=
  ⟨hb.os.trans h.os, hb.tape.trans h.tape, hb.output.trans h.output, Nat.le_trans h.size hb.size, fun k hk hg => (hb.block k (Nat.lt_of_lt_of_le hk h.size)).trans (h.block k hk hg)⟩
theorem Cu.Kept.alloc {w w1 : World} {g : Nat} (h : Cu.Kept w w1 g) (o : Obj) : Cu.Kept w (w1.alloc o) g := h.then ((Below.refl _ _).alloc (Nat.le_refl _) o)
theorem Cu.At.drewN {w : World} {g : Nat} {s : ByteArray} {i : Nat} {e : Int} (h : Cu.At w g s i e) (n : Nat) : Cu.At (w.drewN n) g s i e := h
theorem Cu.At.c0 {w : World} {g : Nat} {s : ByteArray} {i : Nat} {e : Int} (h : Cu.At w g s i e) : w.cell? ⟨g, 0, none⟩ = some (.string s) := Bs.Box.cell h 0 rfl
theorem Cu.At.c1 {w : World} {g : Nat} {s : ByteArray} {i : Nat} {e : Int} (h : Cu.At w g s i e) : w.cell? ⟨g, 1, none⟩ = some (.int .i64 (i : Int)) := Bs.Box.cell h 1 rfl
theorem Cu.At.c2 {w : World} {g : Nat} {s : ByteArray} {i : Nat} {e : Int} (h : Cu.At w g s i e) : w.cell? ⟨g, 2, none⟩ = some (.int .i64 e) := Bs.Box.cell h 2 rfl
theorem Cu.At.fz {w : World} {g : Nat} {s : ByteArray} {i : Nat} {e : Int} (h : Cu.At w g s i e) : ∀ q, w.frozen? ⟨g, q, none⟩ = false := fun q => Bs.Box.frozen h q
theorem Cu.At.set1 {w : World} {g : Nat} {s : ByteArray} {i : Nat} {e : Int} (h : Cu.At w g s i e) (j : Nat) : Cu.At (w.setCell ⟨g, 1, none⟩ (.int .i64 (j : Int))) g s j e := Bs.Box.set h 1 _
theorem Cu.At.set2 {w : World} {g : Nat} {s : ByteArray} {i : Nat} {e : Int} (h : Cu.At w g s i e) (x : Int) : Cu.At (w.setCell ⟨g, 2, none⟩ (.int .i64 x)) g s i x := Bs.Box.set h 2 _
theorem Cu.At.then {w w' : World} {g : Nat} {s : ByteArray} {i : Nat} {e : Int} (h : Cu.At w g s i e) (hb : Below w.heap.size w w') : Cu.At w' g s i e := Bs.Box.on h hb (Bs.Box.lt h)
/-- the first error -/
theorem Cu.fail (x : Int) (g : Nat) (s : ByteArray) (i : Nat) (w : World) (h : Cu.At w g s i 0) : Calls Tryz.prog 61 #[.pointer (some ⟨g, 0, none⟩), .int .i64 x] w fun e w' => e = .returned (.tuple #[]) ∧ Cu.At w' g s i x ∧ Cu.Kept w w' g := by
  have c2 := h.c2
  have f := h.fz
  have H := Lib.hid h
  clear h
  go_enter Tryz.func61, Tryz.ntmps61
  go_wp2
  go_end0
  exact ⟨rfl, H.out.set2 x, (Cu.Kept.refl _ _).set _ _⟩
/-- a later one -/
theorem Cu.fail2 (x y : Int) (hy : (y == 0) = false) (g : Nat) (s : ByteArray) (i : Nat) (w : World) (h : Cu.At w g s i y) : Calls Tryz.prog 61 #[.pointer (some ⟨g, 0, none⟩), .int .i64 x] w fun e w' => e = .returned (.tuple #[]) ∧ w' = w := by
  have c2 := h.c2
  clear h
  go_enter Tryz.func61, Tryz.ntmps61
  go_wp2
  go_end0
  exact ⟨rfl, rfl⟩
end Go.Proofs.YtjppobeomocgbaaGreatDoor

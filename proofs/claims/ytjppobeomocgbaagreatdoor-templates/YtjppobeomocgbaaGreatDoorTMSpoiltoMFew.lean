/-
  THE WALK of stolelaw0.SpoilItems: texts become texts, numbers numbers, in the items' own blocks; nothing else turns.
-/
import Derived.Test.YtjppobeomocgbaaGreatDoorTMSametoMRow1
import Derived.Test.YtjppobeomocgbaaGreatDoorTGSpoiltoKArg
import Derived.Test.YtjppobeomocgbaaGreatDoorTMParsetoGBits
namespace Go.Proofs.YtjppobeomocgbaaGreatDoor
open Go.RowKit
mutual
/-- an item of c items in all, its pipes few and its pipes' texts of at most L bytes -/
inductive It.Few (L : Nat) : It → Nat → Prop
  | mk (k : Int) (t : List UInt8) (p : List Cm) (x y : List It) (c d : Nat) : Cm.Few p L → It.Fews L x c → It.Fews L y d → It.Few L (.mk k t p x y) (c + d + 1)
/-- items, c in all -/
inductive It.Fews (L : Nat) : List It → Nat → Prop
  | nil : It.Fews L [] 0
  | cons (x : It) (l : List It) (c d : Nat) : It.Few L x c → It.Fews L l d → It.Fews L (x :: l) (c + d)
end
theorem It.Fews.snoc {L : Nat} {x : It} {d : Nat} (hx : It.Few L x d) : ∀ {l : List It} {c : Nat}, It.Fews L l c → It.Fews L (l ++ [x]) (c + d)
  | _, _, .nil => by have h := It.Fews.cons x [] d 0 hx .nil; rw [Nat.zero_add]; exact h
  | _, _, .cons y l a b hy hl => by
    have h := It.Fews.cons y (l ++ [x]) a (b + d) hy (It.Fews.snoc (c := b) hx hl)
    rw [Nat.add_assoc]
    exact h
theorem Sy.setN {R : Nat → Prop} {n m : Nat} {w w1 : World} {b o : Nat} {x y : Int} (h : Sw.Rel R n w w1) (hb : R b) (hc : w1.cell? ⟨b, o, none⟩ = some (.int .i64 x)) (hm : n ≤ m) : Sw.Rel R m w (w1.setCell ⟨b, o, none⟩ (.int .i64 y)) := (h.trans (Sw.setN hb hc)).wide (by omega)
set_option maxRecDepth 100000 in
set_option maxHeartbeats 4000000 in
theorem Sy.items (R : Nat → Prop) (L : Nat) (w : World) (hU : ∀ k, R k → Rm.Ub w k) : ∀ (N : Nat) (l : List It), SizeOf.sizeOf l ≤ N → ∀ (v : Value) (n c : Nat) (wu : World), Dt.Lies w R (It.rows l) v → It.Fews L l c → L + n + 1000 * c ≤ 1152921504606846976 → Sw.Rel R n w wu →
    Calls Tryz.prog 12 #[v] wu fun e w' => e = .returned (.tuple #[]) ∧ Sw.Rel R (n + 1000 * c) w w' := by
  intro N
  induction N with
  | zero => intro l hs; cases l <;> simp at hs
  | succ N ih =>
    intro l hs v n c wu h hz hL hr
    obtain ⟨a, d, rfl, hd, hm, hx⟩ := It.get h
    have HX := Lib.hid hx
    have IH := Lib.hid ih
    have HZ := Lib.hid hz
    have HU := Lib.hid hU
    have HRR := Lib.hid hr
    have HLL := Lib.hid hL
    have hml : l.length ≤ 9223372036854775807 := by unfold maxLen at hm; omega
    clear h hx hz hm hU hr hL ih
    go_enter Tryz.func12, Tryz.ntmps12
    go_wp2_with fail
    go_loopw [2] (fun iv wr => ∃ i : Nat, i ≤ l.length ∧ iv = .int .i64 (i : Int) ∧ Hid (∃ p q, It.Fews L (l.drop i) q ∧ p + q = c ∧ Sw.Rel R (n + 1000 * p) w wr)) (fun iv _ => l.length - (intOf iv).toNat)
    case atStart => exact ⟨0, Nat.zero_le _, rfl, 0, c, HZ.out, Nat.zero_add _, HRR.out⟩
    case round =>
      obtain ⟨i, hi, rfl, HV⟩ := hrel
      by_cases hlt : i < l.length
      · have dlt : decide ((i : Int) < (l.length : Int)) = true := decide_eq_true (by omega)
        have hid : i < d := by omega
        obtain ⟨p, q, hq, hpq, hw⟩ := HV.out
        obtain ⟨k, t, ps, x, y, hx⟩ : ∃ k t p x y, l[i]? = some (It.mk k t p x y) := by
          rw [List.getElem?_eq_getElem hlt]
          cases l[i] with
          | mk k t p x y => exact ⟨k, t, p, x, y, rfl⟩
        have hdr : l.drop i = It.mk k t ps x y :: l.drop (i + 1) := by
          rw [List.drop_eq_getElem_cons hlt, ← Option.some.inj ((List.getElem?_eq_getElem hlt).symm.trans hx)]
        rw [hdr] at hq
        obtain ⟨hsx, hsy⟩ := It.sub hs hx
        obtain ⟨b, o, pv, xv, yv, rfl, hb, c0, c1, c2, c3, c4, e1, e2, e3⟩ := HX.out i k t ps x y hx
        cases hq with
        | cons _ _ c1' q' hf hq' =>
        cases hf with
        | mk _ _ _ _ _ cx cy hp hfx hfy =>
        obtain ⟨pa, pd, rfl⟩ := Tr.form e1
        obtain ⟨xa, xd, rfl⟩ := Tr.form e2
        obtain ⟨ya, yd, rfl⟩ := Tr.form e3
        have HPQ := Lib.hid hpq
        have s1 := Sy.pipeR ps _ R L (n + 1000 * p) w wr e1 HU.out hp (by have := HLL.out; omega) hw
        have S2 := Lib.hid fun u (g : Sw.Rel R (n + 1000 * p + 1000) w u) => IH.out x hsx _ (n + 1000 * p + 1000) cx u e2 hfx (by have := HLL.out; omega) g
        have S3 := Lib.hid fun u (g : Sw.Rel R (n + 1000 * p + 1000 + 1000 * cx) w u) => IH.out y hsy _ (n + 1000 * p + 1000 + 1000 * cx) cy u e3 hfy (by have := HLL.out; omega) g
        have HQ := Lib.hid hq'
        have HW := Lib.hid hw
        have k2 := hw.row _ _ _ _ _ c2
        have HF : Hid (∀ q, w.frozen? ⟨b, q, none⟩ = false) := HU.out b hb
        have HC0 := Lib.hid c0
        have HC2 := Lib.hid c2
        have HC3 := Lib.hid c3
        have HC4 := Lib.hid c4
        clear hw hq' hfx hfy hp e1 e2 e3 hx hsx hsy hdr hpq c0 c1 c2 c3 c4 HV IH HX
        go_wp2_with (first
          | (go_at_call 21; refine s1.mono ?_; rintro e w1 ⟨rfl, q1⟩; have H1 := Lib.hid q1; have k3 := q1.row _ _ _ _ _ HC3.out; clear q1 s1 k2)
          | (go_at_call 12; refine (S2.out _ H1.out).mono ?_; rintro e w2 ⟨rfl, q2⟩; have H2 := Lib.hid q2; have k4 := q2.row _ _ _ _ _ HC4.out; clear q2 S2 k3 H1)
          | (go_at_call 12; refine (S3.out _ H2.out).mono ?_; rintro e w3 ⟨rfl, q3⟩; have H3 := Lib.hid q3; obtain ⟨z, k0⟩ := q3.num _ _ _ HC0.out; have rf : ∀ q, w3.frozen? ⟨b, q, none⟩ = false := (fun q => (q3.fz _ _).trans (HF.out q)); clear q3 S3 k4 H2))
        go_roundw
        case rel => exact ⟨i + 1, by omega, by go_num, p + (cx + cy + 1), q', HQ.out, by have := HPQ.out; omega, Sy.setN H3.out hb k0 (by omega)⟩
        case measure => simp [intOf]; omega
      · have ei : i = l.length := by omega
        subst ei
        have dlt : decide ((l.length : Int) < (l.length : Int)) = false := decide_eq_false (by omega)
        obtain ⟨p, q, hq, hpq, hw⟩ := HV.out
        have HW := Lib.hid (hw.wide (m := n + 1000 * c) (by omega))
        clear hw hq hpq
        go_wp2_with fail
        go_end0
        exact ⟨rfl, HW.out⟩
end Go.Proofs.YtjppobeomocgbaaGreatDoor
/-
  PLAIN: what is answered for words is small.
-/
namespace Go.Proofs.YtjppobeomocgbaaGreatDoor
theorem Pi.path_few {p : List (List UInt8)} (h : Pi.path p = true) : p.length ≤ 8 ∧ ∀ t ∈ p, t.length ≤ 32 := by
  unfold Pi.path at h
  simp only [Bool.and_eq_true, List.all_eq_true, decide_eq_true_eq] at h
  refine ⟨h.2, fun t ht => ?_⟩
  have := h.1 t ht
  unfold Pi.name at this
  simp only [Bool.and_eq_true, decide_eq_true_eq] at this
  exact this.2.2
/-- an argument of a word: its path, its texts -/
theorem Pi.arg_few {x : Wi} (hx : x.text.length ≤ 1048576) (h : (Pi.arg x).2 = true) : (Pi.arg x).1.path.length ≤ 8 ∧ (∀ t ∈ (Pi.arg x).1.path, t.length ≤ 32) ∧ (Pi.arg x).1.name.length ≤ 1048576 ∧ (Pi.arg x).1.text.length ≤ 1048576 := by
  have nil : (([] : List (List UInt8)).length ≤ 8 ∧ (∀ t ∈ ([] : List (List UInt8)), t.length ≤ 32)) := ⟨by decide, fun t ht => by cases ht⟩
  unfold Pi.arg at h ⊢
  split at h
  · rename_i hk
    rw [if_pos hk]
    simp only [Bool.and_eq_true] at h
    have := Pi.path_few h.2.2
    exact ⟨this.1, this.2, Nat.zero_le _, Nat.zero_le _⟩
  · rename_i hk
    rw [if_neg hk]
    split at h
    · rename_i hk
      rw [if_pos hk]
      simp only [Bool.and_eq_true] at h
      have := Pi.path_few h.2.2
      exact ⟨this.1, this.2, hx, Nat.zero_le _⟩
    · rename_i hk
      rw [if_neg hk]
      repeat' split
      all_goals first | exact ⟨nil.1, nil.2, Nat.zero_le _, Nat.zero_le _⟩ | exact ⟨nil.1, nil.2, Nat.zero_le _, hx⟩
/-- an argument that is answered -/
def Ar.Few (a : Ar) : Prop := a.path.length ≤ 8 ∧ (∀ t ∈ a.path, t.length ≤ 32) ∧ a.name.length ≤ 1048576 ∧ a.text.length ≤ 1048576
theorem Pi.args_few : ∀ (ws : List Wi) (out r : List Ar), (∀ x ∈ ws, x.text.length ≤ 1048576) → (∀ a ∈ out, a.Few) → Pi.args ws out = some r → ∀ a ∈ r, a.Few := by
  intro ws
  induction ws with
  | nil =>
    intro out r _ ho h
    have h := Option.some.inj h
    subst h
    exact ho
  | cons x ws ih =>
    intro out r hx ho h
    unfold Pi.args at h
    split at h
    · rename_i hk
      refine ih _ _ (fun y hy => hx y (List.mem_cons_of_mem _ hy)) (fun a ha => ?_) h
      rcases List.mem_append.1 ha with ha | ha
      · exact ho a ha
      · rw [List.mem_singleton.1 ha]
        exact Pi.arg_few (hx x (List.mem_cons_self ..)) hk
    · cases h
theorem Pi.fn_few {t : List UInt8} (h : Pi.isFn t = true) : t.length ≤ 32 := by
  unfold Pi.isFn Pi.fns at h
  simp only [List.contains_cons, List.contains_nil, Bool.or_eq_true, beq_iff_eq, Bool.or_false] at h
  rcases h with h | h | h | h | h | h | h | h
  all_goals
    rw [h]
    decide
theorem Pi.command_few {ws : List Wi} {first : Bool} {c : Cm} (hx : ∀ x ∈ ws, x.text.length ≤ 1048576) (h : Pi.command ws first = some c) : c.fn.length ≤ 32 ∧ ∀ a ∈ c.args, a.Few := by
  cases ws with
  | nil => cases h
  | cons y l =>
    by_cases hk : y.kind = 0 ∧ Pi.isFn y.text = true
    · rw [Pi.commandA hk] at h
      split at h
      · cases h
      · cases hr : Pi.args ((y :: l).drop 1) [] with
        | none => rw [hr] at h; cases h
        | some r =>
          rw [hr] at h
          have h := Option.some.inj h
          subst h
          exact ⟨Pi.fn_few hk.2, Pi.args_few _ _ _ (fun x hx' => hx x (List.mem_of_mem_drop hx')) (fun a ha => by cases ha) hr⟩
    · rw [Pi.commandB hk] at h
      cases hr : Pi.args ((y :: l).drop 0) [] with
      | none => rw [hr] at h; cases h
      | some r =>
        rw [hr] at h
        unfold Pi.resB at h
        simp only at h
        split at h
        · have h := Option.some.inj h
          subst h
          exact ⟨Nat.zero_le _, Pi.args_few _ _ _ (fun x hx' => hx x (List.mem_of_mem_drop hx')) (fun a ha => by cases ha) hr⟩
        · cases h
theorem Pi.go_few : ∀ (ws cur : List Wi) (out r : List Cm), (∀ x ∈ ws, x.text.length ≤ 1048576) → (∀ x ∈ cur, x.text.length ≤ 1048576) → (∀ c ∈ out, c.fn.length ≤ 32 ∧ ∀ a ∈ c.args, a.Few) → Pi.go ws cur out = some r → ∀ c ∈ r, c.fn.length ≤ 32 ∧ ∀ a ∈ c.args, a.Few := by
  intro ws
  have snoc : ∀ (out : List Cm) (c : Cm), (∀ c ∈ out, c.fn.length ≤ 32 ∧ ∀ a ∈ c.args, a.Few) → (c.fn.length ≤ 32 ∧ ∀ a ∈ c.args, a.Few) → ∀ q ∈ out ++ [c], q.fn.length ≤ 32 ∧ ∀ a ∈ q.args, a.Few := fun out c ho hc q hq => by
    rcases List.mem_append.1 hq with hq | hq
    · exact ho q hq
    · rw [List.mem_singleton.1 hq]; exact hc
  induction ws with
  | nil =>
    intro cur out r _ hc ho h
    unfold Pi.go at h
    cases hk : Pi.command cur out.isEmpty with
    | none => rw [hk] at h; cases h
    | some c =>
      rw [hk] at h
      have h := Option.some.inj h
      subst h
      exact snoc out c ho (Pi.command_few hc hk)
  | cons x ws ih =>
    intro cur out r hx hc ho h
    have hx' := fun y hy => hx y (List.mem_cons_of_mem _ hy)
    unfold Pi.go at h
    split at h
    · cases hk : Pi.command cur out.isEmpty with
      | none => rw [hk] at h; cases h
      | some c =>
        rw [hk] at h
        exact ih _ _ _ hx' (fun y hy => by cases hy) (snoc out c ho (Pi.command_few hc hk)) h
    · refine ih _ _ _ hx' (fun y hy => ?_) ho h
      rcases List.mem_append.1 hy with hy | hy
      · exact hc y hy
      · rw [List.mem_singleton.1 hy]; exact hx x (List.mem_cons_self ..)
/-- what is answered: few of everything -/
theorem Pi.parse_few {ws : List Wi} (h : Wi.Fits ws) : Cm.Few (Pi.parse ws).1 32 ∧ Cm.Held (Pi.parse ws).1 := by
  rw [Pi.parse_fin]
  have nil : Cm.Few [] 32 ∧ Cm.Held [] := ⟨⟨by decide, fun c hc => by cases hc⟩, ⟨by decide, fun c hc => by cases hc⟩⟩
  cases hg : Pi.go ws [] [] with
  | none => exact nil
  | some cs =>
    have hf := Pi.go_few ws [] [] cs (fun x hx => (h.2 x hx).1) (fun x hx => by cases hx) (fun c hc => by cases hc) hg
    unfold Pi.fin
    simp only
    split
    · exact nil
    · rename_i hk
      have hm : Cm.many cs = false := by
        cases q : Cm.many cs with
        | true => exact absurd (Or.inl q) hk
        | false => rfl
      have hl : cs.length ≤ 8 := by
        by_cases q : 8 < cs.length
        · exact absurd (Or.inr q) hk
        · omega
      have ha : ∀ c ∈ cs, c.args.length ≤ 8 := fun c hc => by
        unfold Cm.many at hm
        have := List.any_eq_false.1 hm c hc
        simpa using this
      refine ⟨⟨hl, fun c hc => ⟨(hf c hc).1, ha c hc, fun x hx => ⟨((hf c hc).2 x hx).1, ((hf c hc).2 x hx).2.1⟩⟩⟩, ⟨by show cs.length ≤ _; omega, fun c hc => ⟨by have := (hf c hc).1; omega, by have := ha c hc; omega, fun x hx => ?_⟩⟩⟩
      obtain ⟨q1, q2, q3, q4⟩ := (hf c hc).2 x hx
      exact ⟨q3, q4, by omega, fun t ht => by have := q2 t ht; omega⟩
end Go.Proofs.YtjppobeomocgbaaGreatDoor
/-
  PLAIN: what is answered for a template is small: its pipes, and how many items.
-/
namespace Go.Proofs.YtjppobeomocgbaaGreatDoor
theorem Wi.Fits.tail {x : Wi} {ws : List Wi} (h : Wi.Fits (x :: ws)) : Wi.Fits ws := ⟨by have := h.1; simp at this; omega, fun y hy => h.2 y (List.mem_cons_of_mem _ hy)⟩
theorem Tm.tiny (s : ByteArray) (hs : s.size ≤ 256) : Wi.Fits ((Wx.words s).1.map Wo.wi) := by
  obtain ⟨h1, h2, h3⟩ := Wx.words_is s
  refine ⟨by rw [List.length_map]; omega, fun x hx => ?_⟩
  obtain ⟨y, hy, rfl⟩ := List.mem_map.1 hx
  have a := Tm.text_le (h1 y hy)
  have b := Tm.wr_le hy
  have c := Wx.good_path (h1 y hy)
  exact ⟨by show y.text.length ≤ _; omega, by show y.path.length ≤ _; omega, fun t ht => by have := c.2 t ht; omega⟩
theorem Tm.pipe_few {k : Int} {t : List UInt8} {ws : List Wo} {y : It} (hw : Wi.Fits (ws.map Wo.wi)) (h : Tm.pipe k t ws = .ok y) : It.Few 32 y 1 := by
  unfold Tm.pipe at h
  dsimp only at h
  split at h
  · injection h with h
    subst h
    exact It.Few.mk k t _ [] [] 0 0 (Pi.parse_few hw).1 .nil .nil
  · cases h
/-- what rows answer that begin at i -/
def Tm.RowsOk (N : Nat) (i : Nat) (G : Except Int (List It × Nat × Nat)) : Prop := ∀ out tag j, G = .ok (out, tag, j) → i ≤ N → i ≤ j ∧ j ≤ N ∧ ∃ c, It.Fews 32 out c ∧ c ≤ j - i
def Tm.ItemOk (N : Nat) (i : Nat) (G : Except Int (It × Nat)) : Prop := ∀ y j, G = .ok (y, j) → i ≤ N → i ≤ j ∧ j ≤ N ∧ ∃ c, It.Few 32 y c ∧ c ≤ j - i + 1
theorem Tm.block_few {N : Nat} {rows : Nat → Bool → Nat → Except Int (List It × Nat × Nat)} (HR : ∀ d l i, Tm.RowsOk N i (rows d l i)) (k : Int) {ws : List Wo} (hw : Wi.Fits (ws.map Wo.wi)) (deep : Nat) (loop : Bool) (i : Nat) : Tm.ItemOk N i (Tm.block rows k ws deep loop i) := by
  intro y j h hi
  unfold Tm.block at h
  dsimp only at h
  have hf := (Pi.parse_few hw).1
  split at h
  · cases h
  · split at h
    · cases h
    · split at h
      · cases h
      · rename_i thn tag j1 h1
        obtain ⟨a1, a2, c, a3, a4⟩ := HR _ _ _ _ _ _ h1 hi
        split at h
        · split at h
          · cases h
          · rename_i els tag2 j2 h2
            obtain ⟨b1, b2, d, b3, b4⟩ := HR _ _ _ _ _ _ h2 a2
            split at h
            · cases h
            · split at h
              · cases h
              · injection h with h
                injection h with e1 e2
                subst e1 e2
                exact ⟨by omega, b2, _, It.Few.mk k [] _ thn els c d hf a3 b3, by omega⟩
        · split at h
          · cases h
          · injection h with h
            injection h with e1 e2
            subst e1 e2
            exact ⟨a1, a2, _, It.Few.mk k [] _ thn [] c 0 hf a3 .nil, by omega⟩
theorem Tm.few1 {N i : Nat} {k : Int} {t : List UInt8} {ws : List Wo} (hw : Wi.Fits (ws.map Wo.wi)) : Tm.ItemOk N i ((Tm.pipe k t ws).map fun y => (y, i)) := by
  intro y j h hi
  cases hp : Tm.pipe k t ws with
  | error e => rw [hp] at h; cases h
  | ok z =>
    rw [hp] at h
    have h : (z, i) = (y, j) := by injection h
    injection h with e1 e2
    subst e1 e2
    exact ⟨Nat.le_refl _, hi, 1, Tm.pipe_few hw hp, by omega⟩
theorem Tm.few0 {N i : Nat} {k : Int} {t : List UInt8} : Tm.ItemOk N i (.ok (.mk k t [] [] [], i)) := by
  intro y j h hi
  injection h with h
  injection h with e1 e2
  subst e1 e2
  exact ⟨Nat.le_refl _, hi, 1, It.Few.mk k t [] [] [] 0 0 ⟨by decide, fun c hc => by cases hc⟩ .nil .nil, by omega⟩
theorem Tm.few_bad {N i : Nat} {e : Int} : Tm.ItemOk N i (.error e) := by
  intro y j h hi
  cases h
theorem Tm.item_few {N : Nat} {rows : Nat → Bool → Nat → Except Int (List It × Nat × Nat)} (HR : ∀ d l i, Tm.RowsOk N i (rows d l i)) (t : List UInt8) {ws : List Wo} (hw : Wi.Fits (ws.map Wo.wi)) (deep : Nat) (loop : Bool) (i : Nat) : Tm.ItemOk N i (Tm.item rows t ws deep loop i) := by
  have hd : Wi.Fits ((ws.drop 1).map Wo.wi) := by
    cases ws with
    | nil => exact hw
    | cons x l => exact Wi.Fits.tail hw
  unfold Tm.item
  split
  · exact Tm.few0
  · split
    · exact Tm.few0
    · split
      · split
        · rename_i x rest
          split
          · exact Tm.few_bad
          · split
            · exact Tm.few0
            · exact Tm.few1 (Wi.Fits.tail (Wi.Fits.tail hw))
        · exact Tm.few_bad
      · split
        · exact Tm.block_few HR 3 hd deep loop i
        · split
          · exact Tm.block_few HR 4 hd deep loop i
          · split
            · exact Tm.block_few HR 5 hd deep loop i
            · split
              · split
                · exact Tm.few1 (Wi.Fits.tail (Wi.Fits.tail hw))
                · exact Tm.few1 hw
              · exact Tm.few1 hw
theorem Tm.rows_few {ps : List Pc} (hp : ∀ p ∈ ps, p.act = true → p.text.length ≤ 256) : ∀ (n deep : Nat) (loop : Bool) (i : Nat) (out : List It) (c : Nat), It.Fews 32 out c →
    ∀ r tag j, Tm.rows ps n deep loop i out = .ok (r, tag, j) → i ≤ ps.length → i ≤ j ∧ j ≤ ps.length ∧ ∃ d, It.Fews 32 r d ∧ d ≤ c + (j - i) := by
  intro n
  induction n with
  | zero =>
    intro deep loop i out c ho r tag j h hi
    unfold Tm.rows at h
    injection h with h
    injection h with e1 e2
    injection e2 with e2 e3
    subst e1 e2 e3
    exact ⟨Nat.le_refl _, hi, c, ho, by omega⟩
  | succ n ih =>
    intro deep loop i out c ho r tag j h hi
    unfold Tm.rows at h
    have out0 : ∀ {q t : Nat}, (Except.ok (out, t, q) : Except Int (List It × Nat × Nat)) = .ok (r, tag, j) → i ≤ q → q ≤ ps.length → i ≤ j ∧ j ≤ ps.length ∧ ∃ d, It.Fews 32 r d ∧ d ≤ c + (j - i) := by
      intro q t h h1 h2
      injection h with h
      injection h with e1 e2
      injection e2 with e2 e3
      subst e1 e2 e3
      exact ⟨h1, h2, c, ho, by omega⟩
    split at h
    · exact out0 h (Nat.le_refl _) hi
    · rename_i p hpi
      have hlt := (List.getElem?_eq_some_iff.1 hpi).1
      split at h
      · obtain ⟨a1, a2, d, a3, a4⟩ := ih _ _ _ _ _ (It.Fews.snoc (It.Few.mk 0 p.text [] [] [] 0 0 ⟨by decide, fun c hc => by cases hc⟩ .nil .nil) ho) _ _ _ h (by omega)
        exact ⟨by omega, a2, d, a3, by omega⟩
      · rename_i hact
        have hz := hp p (List.mem_of_getElem? hpi) (by cases q : p.act with | true => rfl | false => exact absurd q hact)
        have hw := Tm.tiny ⟨p.text.toArray⟩ (by show p.text.toArray.size ≤ _; rw [List.size_toArray]; exact hz)
        dsimp only at h
        split at h
        · cases h
        · split at h
          · cases h
          · split at h
            · cases h
            · split at h
              · exact out0 h (by omega) (by omega)
              · split at h
                · exact out0 h (by omega) (by omega)
                · split at h
                  · cases h
                  · split at h
                    · cases h
                    · rename_i x j1 hx
                      obtain ⟨a1, a2, d, a3, a4⟩ := Tm.item_few (N := ps.length) (rows := fun d l j => Tm.rows ps n d l j []) (fun d l k out tag j h hk => by
                        obtain ⟨b1, b2, e, b3, b4⟩ := ih d l k [] 0 .nil _ _ _ h hk
                        exact ⟨b1, b2, e, b3, by omega⟩) _ hw _ _ _ _ _ hx (by omega)
                      obtain ⟨b1, b2, e, b3, b4⟩ := ih _ _ _ _ _ (It.Fews.snoc a3 ho) _ _ _ h a2
                      exact ⟨by omega, b2, e, b3, by omega⟩
theorem Tm.split_few (s : ByteArray) : (∀ p ∈ (Lx.split s).1, p.act = true → p.text.length ≤ 256) ∧ (Lx.split s).1.length ≤ 1048576 := by
  have h0 : (∀ p ∈ ([] : List Pc), p.act = true → p.text.length ≤ 256) ∧ ([] : List Pc).length ≤ 1048576 := ⟨fun p hp => (by cases hp), by decide⟩
  unfold Lx.split
  split
  · exact h0
  · unfold Lx.all
    split
    · exact h0
    · unfold Lx.limits
      split
      · exact h0
      · rename_i hl
        split
        · exact h0
        · refine ⟨fun p hp ha => ?_, by dsimp only; omega⟩
          by_cases hq : 256 < p.text.length
          · exact absurd (List.any_eq_true.2 ⟨p, hp, by rw [ha, decide_eq_true hq]; rfl⟩) hl
          · omega
theorem Tm.parse_few (s : ByteArray) : ∃ c, It.Fews 32 (Tm.parse s).1 c ∧ c ≤ 1048576 := by
  obtain ⟨h1, h2⟩ := Tm.split_few s
  have nil : ∃ c, It.Fews 32 ([] : List It) c ∧ c ≤ 1048576 := ⟨0, .nil, by decide⟩
  unfold Tm.parse
  dsimp only
  split
  · exact nil
  · cases hg : Tm.rows (Lx.split s).1 ((Lx.split s).1.length + 1) 0 false 0 [] with
    | error e => exact nil
    | ok q =>
      obtain ⟨out, tag, j⟩ := q
      obtain ⟨a1, a2, d, a3, a4⟩ := Tm.rows_few h1 _ _ _ _ _ 0 .nil _ _ _ hg (Nat.zero_le _)
      unfold Tm.fin
      dsimp only
      split
      · exact nil
      · split
        · exact nil
        · exact ⟨d, a3, by omega⟩
end Go.Proofs.YtjppobeomocgbaaGreatDoor

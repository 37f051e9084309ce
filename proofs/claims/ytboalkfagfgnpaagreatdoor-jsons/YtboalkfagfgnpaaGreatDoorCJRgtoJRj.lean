/-
  THE WALKS of the landed reader: digits, number.
-/
import Derived.Test.YtboalkfagfgnpaaGreatDoorCNormtoJRi
import Derived.Test.YtboalkfagfgnpaaGreatDoorCVAwaketoVCopyT
namespace Go.Proofs.YtboalkfagfgnpaaGreatDoor
open Go.RowKit
set_option maxRecDepth 100000 in
set_option maxHeartbeats 4000000 in
theorem Jr.digs (l : List UInt8) (g : Nat) (T : ByteArray) (w : World) (h : Jr.Rd w g T l) :
    Calls Tryz.prog 105 #[.pointer (some ⟨g, 0, none⟩)] w (Jr.Out (Jr.digits l) (fun x => .int .i64 (x : Int)) w g T) := by
  cases l with
  | nil =>
    have tk := Jr.take_end g T w h
    go_enter Tryz.func105, Tryz.ntmps105
    go_wp2_with (go_at_call 100; refine tk.mono ?_; rintro e w1 ⟨rfl, b1⟩)
    exact ⟨rfl, rfl, b1⟩
  | cons c r =>
    have tk := Jr.take c r g T w h
    have di := Jr.isDigit c
    rw [Jr.digits]
    by_cases hd : Pl.digit c = true
    · rw [if_pos hd]
      rw [hd] at di
      obtain ⟨hd1, hd2⟩ := Jr.digit_dig c hd
      obtain ⟨O, hO⟩ : ∃ O, Jr.more (Pl.dig c) r = O := ⟨_, rfl⟩
      rw [hO]
      have HO := Lib.hid hO
      have hc48 : 48 ≤ c.toNat := by omega
      have hc256 := c.toNat_lt
      have dis := fun (c : UInt8) => Jr.isDigit c
      clear h hd hO
      generalize Pl.dig c = D at *
      generalize c.toNat = m at *
      go_enter Tryz.func105, Tryz.ntmps105
      go_wp2_with (first | (go_at_call 100; refine tk.mono ?_; rintro e w1 ⟨rfl, b1, q1⟩; have HB1 := Lib.hid b1; have HR1 := Lib.hid q1; clear b1 q1 tk) | (go_at_call 120; refine (di _).mono ?_; rintro e w' ⟨rfl, hw⟩; have hw := hw.symm; subst hw; clear di))
      go_loopw [4] (fun nv wr => ∃ (n : Nat) (l' : List UInt8), nv = .int .i64 (n : Int) ∧ n ≤ 9007199254740991 ∧ Hid (Jr.more n l' = O) ∧ Hid (Jr.Rd wr g T l') ∧ Hid (w.grownBy wr (some g))) (fun _ wr => Jr.rem g T wr)
      case atStart => exact ⟨D, r, rfl, by omega, HO, HR1, HB1⟩
      case round =>
        clear HO HB1 HR1 hd1 hd2 hc48 hc256
        obtain ⟨n, l', rfl, hn, HO, HR, HG⟩ := hrel
        have HL := Lib.hid (Jr.rem_eq HR.out)
        by_cases h0 : 0 < n
        · have d0 : decide ((0 : Int) < (n : Int)) = true := decide_eq_true (by omega)
          have pk := Jr.peek l' g T wr HR.out
          by_cases hdl : Pl.digit (l'.headD 0) = true
          · cases l' with
            | nil => exact absurd hdl (by decide)
            | cons c2 r2 =>
              have hdl : Pl.digit c2 = true := hdl
              rw [List.headD_cons] at pk
              have di2 := dis c2
              rw [hdl] at di2
              have tk2 := fun u q => Jr.take c2 r2 g T u q
              obtain ⟨hq1, hq2⟩ := Jr.digit_dig c2 hdl
              rw [Jr.more, if_pos ⟨h0, hdl⟩] at HO
              have HM : Hid (r2.length < Jr.rem g T wr) := by
                unfold Hid
                rw [HL.out, List.length_cons]
                omega
              have hm48 : 48 ≤ c2.toNat := by omega
              have hm256 := c2.toNat_lt
              clear hdl HL
              generalize Pl.dig c2 = D2 at *
              generalize c2.toNat = m2 at *
              have e8 : IntKind.u8.wrap ((m2 : Int) - 48) = (D2 : Int) := by rw [IntKind.wrap_u8]; omega
              by_cases hbig : 9007199254740991 < n * 10 + D2
              · rw [if_pos hbig] at HO
                have e : none = O := HO.out
                subst e
                have dg : decide ((9007199254740991 : Int) < (n : Int) * 10 + (D2 : Int)) = true := decide_eq_true (by omega)
                clear HO
                go_wp2_with (first | (go_at_call 69; refine pk.mono ?_; rintro e w2 ⟨rfl, b2⟩; have HB2 := Lib.hid (Jr.grown_trans HG.out (Jr.grown_some b2 _)); replace tk2 := tk2 _ (HR.out.on b2); clear b2 pk) | (go_at_call 120; refine (di2 _).mono ?_; rintro e w' ⟨rfl, hw⟩; have hw := hw.symm; subst hw; clear di2) | (go_at_call 100; refine tk2.mono ?_; rintro e w3 ⟨rfl, b3, q3⟩; have HB3 := Lib.hid (Jr.grown_trans HB2.out b3); clear b3 q3 tk2))
                exact ⟨rfl, rfl, HB3.out⟩
              · rw [if_neg hbig] at HO
                have dg : decide ((9007199254740991 : Int) < (n : Int) * 10 + (D2 : Int)) = false := decide_eq_false (by omega)
                have EN : Hid (((n : Int) * 10 + (D2 : Int)) = ((n * 10 + D2 : Nat) : Int)) := by unfold Hid; omega
                go_wp2_with (first | (go_at_call 69; refine pk.mono ?_; rintro e w2 ⟨rfl, b2⟩; have HB2 := Lib.hid (Jr.grown_trans HG.out (Jr.grown_some b2 _)); replace tk2 := tk2 _ (HR.out.on b2); clear b2 pk) | (go_at_call 120; refine (di2 _).mono ?_; rintro e w' ⟨rfl, hw⟩; have hw := hw.symm; subst hw; clear di2) | (go_at_call 100; refine tk2.mono ?_; rintro e w3 ⟨rfl, b3, q3⟩; have HB3 := Lib.hid (Jr.grown_trans HB2.out b3); have HR3 := Lib.hid q3; clear b3 q3 tk2))
                go_roundw
                case rel => exact ⟨n * 10 + D2, r2, by rw [EN.out], by omega, HO, HR3, HB3⟩
                case measure => rw [Jr.rem_eq HR3.out]; exact HM.out
          · have di2 := dis (l'.headD 0)
            rw [Bool.eq_false_iff.2 hdl] at di2
            have e : some (n, l') = O := by
              rw [← HO.out]
              cases l' with
              | nil => rfl
              | cons c2 r2 =>
                have hdl : ¬ Pl.digit c2 = true := hdl
                rw [Jr.more, if_neg (fun q => hdl q.2)]
            subst e
            clear HO hdl HL
            generalize ((l'.headD 0).toNat : Int) = C at *
            go_wp2_with (first | (go_at_call 69; refine pk.mono ?_; rintro e w2 ⟨rfl, b2⟩; have HB2 := Lib.hid (Jr.grown_trans HG.out (Jr.grown_some b2 _)); have HR2 := Lib.hid (HR.out.on b2); clear b2 pk) | (go_at_call 120; refine (di2 _).mono ?_; rintro e w' ⟨rfl, hw⟩; have hw := hw.symm; subst hw; clear di2))
            go_ret
            exact ⟨rfl, HB2.out, HR2.out⟩
        · have d0 : decide ((0 : Int) < (n : Int)) = false := decide_eq_false (by omega)
          have d0n : decide (0 < n) = false := decide_eq_false h0
          have e : some (n, l') = O := by
            rw [← HO.out, show n = 0 by omega, Jr.more_zero]
          subst e
          clear HO HL
          go_wp2
          go_ret
          exact ⟨rfl, HG.out, HR.out⟩
    · rw [if_neg hd]
      rw [Bool.eq_false_iff.2 hd] at di
      clear h hd
      go_enter Tryz.func105, Tryz.ntmps105
      go_wp2_with (first | (go_at_call 100; refine tk.mono ?_; rintro e w1 ⟨rfl, b1, q1⟩; have HB1 := Lib.hid b1; clear b1 q1 tk) | (go_at_call 120; refine (di _).mono ?_; rintro e w' ⟨rfl, hw⟩; have hw := hw.symm; subst hw; clear di))
      exact ⟨rfl, rfl, HB1.out⟩
/-- a leaf as a value -/
def Jr.cells (k x : Int) (b : Nat) (s : ByteArray) : Value := .agg #[.int .i64 k, .int .i64 x, .int .u64 (b : Int), .string s, .slice none 0 0, .slice none 0 0]
def Jr.numVal (neg : Bool) (n : Nat) : Value := if neg = true ∧ n = 0 then Jr.cells 3 0 9223372036854775808 ⟨#[]⟩ else Jr.cells 2 (if neg then -(n : Int) else (n : Int)) 0 ⟨#[]⟩
def Jr.numP (l : List UInt8) : Option ((Bool × Nat) × List UInt8) := if l.head? = some 45 then (Jr.digits (l.drop 1)).map fun p => ((true, p.1), p.2) else (Jr.digits l).map fun p => ((false, p.1), p.2)
theorem Jr.more_le : ∀ (l : List UInt8) (n m : Nat) (r : List UInt8), n ≤ 9007199254740991 → Jr.more n l = some (m, r) → m ≤ 9007199254740991
  | [], n, m, r, h, e => by
    rw [Jr.more] at e
    simp only [Option.some.injEq, Prod.mk.injEq] at e
    omega
  | c :: l, n, m, r, h, e => by
    rw [Jr.more] at e
    split at e
    · split at e
      · cases e
      · exact Jr.more_le l _ m r (by omega) e
    · simp only [Option.some.injEq, Prod.mk.injEq] at e
      omega
theorem Jr.digits_le {l r : List UInt8} {m : Nat} (h : Jr.digits l = some (m, r)) : m ≤ 9007199254740991 := by
  cases l with
  | nil => cases h
  | cons c l =>
    rw [Jr.digits] at h
    split at h
    · rename_i hd
      exact Jr.more_le l _ m r (by have := (Jr.digit_dig c hd).1; omega) h
    · cases h
theorem Jr.number_eq (l : List UInt8) : Jr.number l = (Jr.numP l).map fun p => (Jr.num p.1.1 p.1.2, p.2) := by
  unfold Jr.number Jr.numP
  split
  · cases Jr.digits (l.drop 1) <;> rfl
  · cases Jr.digits l <;> rfl
theorem Jr.six {w : World} {G : Nat} {u0 u1 u2 u3 u4 u5 : Value} (h : Vm.Box w G u0 u1 u2 u3 u4 u5) (v0 v1 v2 v3 v4 v5 : Value) : ∃ W, ((((((w.setCell ⟨G, 0, none⟩ v0).setCell ⟨G, 1, none⟩ v1).setCell ⟨G, 2, none⟩ v2).setCell ⟨G, 3, none⟩ v3).setCell ⟨G, 4, none⟩ v4).setCell ⟨G, 5, none⟩ v5) = W ∧ Vm.Box W G v0 v1 v2 v3 v4 v5 ∧ Below G w W :=
  ⟨_, rfl, ⟨Vm.setAt (Vm.setAt (Vm.setAt (Vm.setAt (Vm.setAt (Vm.setAt h.all 0 v0) 1 v1) 2 v2) 3 v3) 4 v4) 5 v5⟩, ((((((Below.refl G w).setCell (p := ⟨G, 0, none⟩) (Nat.le_refl _) _).setCell (p := ⟨G, 1, none⟩) (Nat.le_refl _) _).setCell (p := ⟨G, 2, none⟩) (Nat.le_refl _) _).setCell (p := ⟨G, 3, none⟩) (Nat.le_refl _) _).setCell (p := ⟨G, 4, none⟩) (Nat.le_refl _) _).setCell (p := ⟨G, 5, none⟩) (Nat.le_refl _) _⟩
theorem Jr.box_grown {w w' : World} {G g : Nat} {u0 u1 u2 u3 u4 u5 : Value} (h : Vm.Box w G u0 u1 u2 u3 u4 u5) (hb : w.grownBy w' (some g)) (hG : G ≠ g) : Vm.Box w' G u0 u1 u2 u3 u4 u5 :=
  ⟨(hb.block _ h.lt (fun q => hG (by injection q))).trans h.all⟩
set_option maxRecDepth 100000 in
set_option maxHeartbeats 4000000 in
theorem Jr.numb (l : List UInt8) (g : Nat) (T : ByteArray) (w : World) (h : Jr.Rd w g T l) :
    Calls Tryz.prog 74 #[.pointer (some ⟨g, 0, none⟩)] w (Jr.Out (Jr.numP l) (fun p => Jr.numVal p.1 p.2) w g T) := by
  have s45 : ∀ u, Jr.Rd u g T l → Calls Tryz.prog 75 #[.pointer (some ⟨g, 0, none⟩), .int .u8 45] u fun e w' => e = .returned (.bool (decide (l.headD 0 = 45))) ∧ u.grownBy w' (some g) ∧ Jr.Rd w' g T (if l.headD 0 = 45 then l.tail else l) := fun u h => Jr.skip 45 (by decide) l g T u h
  have hh : l.headD 0 = 45 ↔ l.head? = some 45 := by
    cases l with
    | nil => simp
    | cons c r => simp
  have HX : Hid (w.grownBy (w.alloc (.cells #[.int .i64 0, .int .i64 0, .int .u64 0, .string ⟨#[]⟩, .slice none 0 0, .slice none 0 0] 26)) none) := World.grownBy_alloc _ _ _
  replace s45 := s45 _ (h.on HX.out)
  have hgw := h.lt
  have HG : Hid (w.heap.size ≠ g) := by unfold Hid; omega
  have HBX : Hid (Vm.Box (w.alloc (.cells #[.int .i64 0, .int .i64 0, .int .u64 0, .string ⟨#[]⟩, .slice none 0 0, .slice none 0 0] 26)) w.heap.size (.int .i64 0) (.int .i64 0) (.int .u64 0) (.string ⟨#[]⟩) (.slice none 0 0) (.slice none 0 0)) := ⟨Vm.Has.new w (.cells #[.int .i64 0, .int .i64 0, .int .u64 0, .string ⟨#[]⟩, .slice none 0 0, .slice none 0 0] 26) _ rfl⟩
  unfold Jr.numP
  have hdg := fun l u q => Jr.digs l g T u q
  by_cases h45 : l.headD 0 = 45
  · rw [if_pos (hh.1 h45), show l.drop 1 = l.tail by cases l <;> rfl]
    rw [decide_eq_true h45, if_pos h45] at s45
    replace hdg := hdg l.tail
    clear hh h45 h
    cases hd : Jr.digits l.tail with
    | none =>
      rw [hd] at hdg
      clear hd
      go_enter Tryz.func74, Tryz.ntmps74
      go_wp2_with (first | (go_at_call 75; refine s45.mono ?_; rintro e w1 ⟨rfl, b1, q1⟩; have HB1 := Lib.hid (Jr.grown_trans (Jr.grown_some HX.out (some g)) b1); replace hdg := hdg _ q1; clear b1 q1 s45) | (go_at_call 105; refine hdg.mono ?_; rintro e w2 ⟨rfl, b2⟩; have HB2 := Lib.hid (Jr.grown_trans HB1.out b2); clear b2))
      exact ⟨rfl, rfl, HB2.out⟩
    | some p =>
      obtain ⟨n, r⟩ := p
      have hn := Jr.digits_le hd
      rw [hd] at hdg
      clear hd
      by_cases h0 : n = 0
      · have d0 : ((n : Int) == 0) = true := beq_iff_eq.2 (by omega)
        have HV : Hid (Jr.numVal true n = .agg #[.int .i64 3, .int .i64 0, .int .u64 9223372036854775808, .string ⟨#[]⟩, .slice none 0 0, .slice none 0 0]) := by
          unfold Hid Jr.numVal
          rw [if_pos ⟨rfl, h0⟩]
          rfl
        clear h0
        go_enter Tryz.func74, Tryz.ntmps74
        go_wp2_with (first | (go_at_call 75; refine s45.mono ?_; rintro e w1 ⟨rfl, b1, q1⟩; have HB1 := Lib.hid (Jr.grown_trans (Jr.grown_some HX.out (some g)) b1); have HX1 := Lib.hid (Jr.box_grown HBX.out b1 HG.out); replace hdg := hdg _ q1; clear b1 q1 s45) | (go_at_call 105; refine hdg.mono ?_; rintro e w2 ⟨rfl, b2, q2⟩; have HB2 := Lib.hid (Jr.grown_trans HB1.out b2); have HR2 := Lib.hid q2; have HX2 := Lib.hid (Jr.box_grown HX1.out b2 HG.out); obtain ⟨c0, c1, c2, c3, c4, c5⟩ := HX2.out.cells; have f0 := HX2.out.has.frozen 0; have f1 := HX2.out.has.frozen 1; have f2 := HX2.out.has.frozen 2; have f3 := HX2.out.has.frozen 3; have f4 := HX2.out.has.frozen 4; have f5 := HX2.out.has.frozen 5; clear b2 q2 hdg))
        obtain ⟨W, hW, hX, hb⟩ := Jr.six HX2.out (.int .i64 3) (.int .i64 0) (.int .u64 9223372036854775808) (.string ⟨#[]⟩) (.slice none 0 0) (.slice none 0 0)
        rw [hW]
        obtain ⟨x0, x1, x2, x3, x4, x5⟩ := hX.cells
        refine bodyPost_ret (v := .agg #[.int .i64 3, .int .i64 0, .int .u64 9223372036854775808, .string ⟨#[]⟩, .slice none 0 0, .slice none 0 0]) (by simp [results, Tryz.results74, go_sem, x0, x1, x2, x3, x4, x5]) rfl ?_
        exact ⟨congrArg Ending.returned HV.out.symm, Jr.grown_more HB2.out hb (Nat.le_refl _), HR2.out.below hb hgw⟩
      · have d0 : ((n : Int) == 0) = false := beq_eq_false_iff_ne.2 (by omega)
        have HV : Hid (Jr.numVal true n = .agg #[.int .i64 2, .int .i64 (-(n : Int)), .int .u64 0, .string ⟨#[]⟩, .slice none 0 0, .slice none 0 0]) := by
          unfold Hid Jr.numVal
          rw [if_neg (fun q => h0 q.2)]
          rfl
        clear h0
        go_enter Tryz.func74, Tryz.ntmps74
        go_wp2_with (first | (go_at_call 75; refine s45.mono ?_; rintro e w1 ⟨rfl, b1, q1⟩; have HB1 := Lib.hid (Jr.grown_trans (Jr.grown_some HX.out (some g)) b1); have HX1 := Lib.hid (Jr.box_grown HBX.out b1 HG.out); replace hdg := hdg _ q1; clear b1 q1 s45) | (go_at_call 105; refine hdg.mono ?_; rintro e w2 ⟨rfl, b2, q2⟩; have HB2 := Lib.hid (Jr.grown_trans HB1.out b2); have HR2 := Lib.hid q2; have HX2 := Lib.hid (Jr.box_grown HX1.out b2 HG.out); obtain ⟨c0, c1, c2, c3, c4, c5⟩ := HX2.out.cells; have f0 := HX2.out.has.frozen 0; have f1 := HX2.out.has.frozen 1; have f2 := HX2.out.has.frozen 2; have f3 := HX2.out.has.frozen 3; have f4 := HX2.out.has.frozen 4; have f5 := HX2.out.has.frozen 5; clear b2 q2 hdg))
        obtain ⟨W, hW, hX, hb⟩ := Jr.six HX2.out (.int .i64 2) (.int .i64 (-(n : Int))) (.int .u64 0) (.string ⟨#[]⟩) (.slice none 0 0) (.slice none 0 0)
        rw [hW]
        obtain ⟨x0, x1, x2, x3, x4, x5⟩ := hX.cells
        refine bodyPost_ret (v := .agg #[.int .i64 2, .int .i64 (-(n : Int)), .int .u64 0, .string ⟨#[]⟩, .slice none 0 0, .slice none 0 0]) (by simp [results, Tryz.results74, go_sem, x0, x1, x2, x3, x4, x5]) rfl ?_
        exact ⟨congrArg Ending.returned HV.out.symm, Jr.grown_more HB2.out hb (Nat.le_refl _), HR2.out.below hb hgw⟩
  · rw [if_neg (fun q => h45 (hh.2 q))]
    rw [decide_eq_false h45, if_neg h45] at s45
    replace hdg := hdg l
    clear hh h45 h
    cases hd : Jr.digits l with
    | none =>
      rw [hd] at hdg
      clear hd
      go_enter Tryz.func74, Tryz.ntmps74
      go_wp2_with (first | (go_at_call 75; refine s45.mono ?_; rintro e w1 ⟨rfl, b1, q1⟩; have HB1 := Lib.hid (Jr.grown_trans (Jr.grown_some HX.out (some g)) b1); replace hdg := hdg _ q1; clear b1 q1 s45) | (go_at_call 105; refine hdg.mono ?_; rintro e w2 ⟨rfl, b2⟩; have HB2 := Lib.hid (Jr.grown_trans HB1.out b2); clear b2))
      exact ⟨rfl, rfl, HB2.out⟩
    | some p =>
      obtain ⟨n, r⟩ := p
      have hn := Jr.digits_le hd
      rw [hd] at hdg
      clear hd
      have HV : Hid (Jr.numVal false n = .agg #[.int .i64 2, .int .i64 (n : Int), .int .u64 0, .string ⟨#[]⟩, .slice none 0 0, .slice none 0 0]) := by
        unfold Hid Jr.numVal
        rw [if_neg (fun q => Bool.false_ne_true q.1)]
        rfl
      go_enter Tryz.func74, Tryz.ntmps74
      go_wp2_with (first | (go_at_call 75; refine s45.mono ?_; rintro e w1 ⟨rfl, b1, q1⟩; have HB1 := Lib.hid (Jr.grown_trans (Jr.grown_some HX.out (some g)) b1); have HX1 := Lib.hid (Jr.box_grown HBX.out b1 HG.out); replace hdg := hdg _ q1; clear b1 q1 s45) | (go_at_call 105; refine hdg.mono ?_; rintro e w2 ⟨rfl, b2, q2⟩; have HB2 := Lib.hid (Jr.grown_trans HB1.out b2); have HR2 := Lib.hid q2; have HX2 := Lib.hid (Jr.box_grown HX1.out b2 HG.out); obtain ⟨c0, c1, c2, c3, c4, c5⟩ := HX2.out.cells; have f0 := HX2.out.has.frozen 0; have f1 := HX2.out.has.frozen 1; have f2 := HX2.out.has.frozen 2; have f3 := HX2.out.has.frozen 3; have f4 := HX2.out.has.frozen 4; have f5 := HX2.out.has.frozen 5; clear b2 q2 hdg))
      obtain ⟨W, hW, hX, hb⟩ := Jr.six HX2.out (.int .i64 2) (.int .i64 (n : Int)) (.int .u64 0) (.string ⟨#[]⟩) (.slice none 0 0) (.slice none 0 0)
      rw [hW]
      obtain ⟨x0, x1, x2, x3, x4, x5⟩ := hX.cells
      refine bodyPost_ret (v := .agg #[.int .i64 2, .int .i64 (n : Int), .int .u64 0, .string ⟨#[]⟩, .slice none 0 0, .slice none 0 0]) (by simp [results, Tryz.results74, go_sem, x0, x1, x2, x3, x4, x5]) rfl ?_
      exact ⟨congrArg Ending.returned HV.out.symm, Jr.grown_more HB2.out hb (Nat.le_refl _), HR2.out.below hb hgw⟩
end Go.Proofs.YtboalkfagfgnpaaGreatDoor
/-
  THE LANDED READER's list or record under way, in memory.
-/
namespace Go.Proofs.YtboalkfagfgnpaaGreatDoor
open Go.RowKit
/-- 'append(row, x)' of one element, whatever the type: the row in a block of its own; where it lies behind it -/
theorem Jr.wp_app {w : World} {o : Oper} {a : Act} {K : Act → World → Prop} {Z : Exit → Act → World → Prop} (t e : TypeId) (z : Value) (size bytes : Nat) (ht : Tryz.prog.underlying t = some (.slice e)) (hinfo : (Tryz.prog.info? e).map (fun i => (i.zero, i.size, i.bytes)) = some (some z, size, bytes)) (hsz : 0 < size) (hz : z.cells.size = size) (s x : Operand)
    (ho : o.op = .call { callee := .builtin .append, args := #[s, x], argTypes := #[t, t] })
    {base n : Nat} {xs : List Value} (v : Value) (hs : a.eval s = v) (hown : w.ownsRow base e size v n xs) (g1 : Nat) (news : List Value) (hx : a.eval x = .slice (some ⟨g1, 0, none⟩) 1 1) (hl : news.length = size)
    (hnews : ∀ j u, news[j]? = some u → w.cell? ((⟨g1, 0, none⟩ : Addr).add j) = some u) (hone : ∀ u ∈ news, u.oneCell' = true) (hn : (n + 1) * bytes ≤ 140737488355328) (h63 : n + 1 ≤ maxLen) (hbase : base ≤ w.heap.size)
    (h : ∀ v' w', w'.ownsRow base e size v' (n + 1) (xs ++ news) → w.grownBy w' v.ownBlock → (v'.ownBlock = v.ownBlock ∨ v'.ownBlock = some w.heap.size) → K (a.put o.dst v') w') : o.wp Tryz.prog a w K Z := by
  obtain ⟨iV, hiV, hzV, hsV, hbV⟩ := info_parts hinfo
  obtain ⟨v', w', hr, h2, h3, h4⟩ := run_append_own (P := Tryz.prog) w base t o.type e iV z size bytes ht hiV hzV hsV hbV hz hsz v n xs hown ⟨g1, 0, none⟩ 1 1 news (by rw [Nat.one_mul]; exact hl) hnews hone h63 hn hbase
  have hf := Vr.fresh (P := Tryz.prog) base t o.type e iV z size bytes ht hiV hzV hsV hbV hsz v n xs hown ⟨g1, 0, none⟩ 1 1 (by decide) news (by rw [Nat.one_mul]; exact hl) hnews hone h63 hn v' w' hr
  unfold Oper.wp execOp
  simp only [ho, resolve, invoke, builtin, Sem.run_bind, Sem.run_pure, Result.andThen_ok, List.map_toArray, List.map_cons, List.map_nil, hs, hx, hr]
  exact h v' w' h2 h3 hf
/-- blocks that are none of the two rows' -/
def Jr.Free (base : Nat) (vi vk : Value) (u : World) (k : Nat) : Prop := base ≤ k ∧ k < u.heap.size ∧ vi.ownBlock ≠ some k ∧ vk.ownBlock ≠ some k
/-- a list or record that has been read so far: the reader's and the depth's box, the result's variable, the value's variable and its two rows -/
structure Jr.Mem (w : World) (g e : Nat) (kd : Int) (s : Jr.St) (vi vk : Value) (u : World) : Prop where
  grown : w.grownBy u (some g)
  glt : g < w.heap.size
  size : w.heap.size + 4 ≤ u.heap.size
  rp : Bs.Box u w.heap.size #[.pointer (some ⟨g, 0, none⟩)] 92
  dp : Bs.Box u (w.heap.size + 1) #[.int .i64 (e : Int)] 3
  res : Vm.Box u (w.heap.size + 1 + 1) (.int .i64 0) (.int .i64 0) (.int .u64 0) (.string ⟨#[]⟩) (.slice none 0 0) (.slice none 0 0)
  var : Vm.Box u (w.heap.size + 1 + 1 + 1) (.int .i64 kd) (.int .i64 0) (.int .u64 0) (.string ⟨#[]⟩) vi vk
  items : ∃ xs, u.ownsRow (w.heap.size + 4) 26 6 vi s.2.length xs ∧ ∀ i, i < s.2.length → ∃ u0 u1 u2 u3 u4 u5, xs[i * 6]? = some u0 ∧ xs[i * 6 + 1]? = some u1 ∧ xs[i * 6 + 2]? = some u2 ∧ xs[i * 6 + 3]? = some u3 ∧ xs[i * 6 + 4]? = some u4 ∧ xs[i * 6 + 5]? = some u5 ∧ (s.2.getD i .nil).Lies u (Jr.Free (w.heap.size + 4) vi vk u) (.agg #[u0, u1, u2, u3, u4, u5])
  keys : u.ownsRow (w.heap.size + 4) 9 1 vk s.1.length (s.1.map .string)
theorem Jr.own_kept {u u' : World} {base : Nat} {ty : TypeId} {sz : Nat} {v : Value} {n : Nat} {xs : List Value} (h : u.ownsRow base ty sz v n xs) (hb : ∀ k, v.ownBlock = some k → u'.heap[k]? = u.heap[k]?) : u'.ownsRow base ty sz v n xs := by
  refine ⟨h.1, ?_⟩
  rcases h.2 with hn | ⟨g, cap, cur, rfl, hbb, hgg, rest⟩
  · exact .inl hn
  · exact .inr ⟨g, cap, cur, rfl, hbb, (hb g rfl).trans hgg, rest⟩
/-- what turns none of its blocks -/
theorem Jr.Mem.still {w : World} {g e : Nat} {kd : Int} {s : Jr.St} {vi vk : Value} {u u' : World} (h : Jr.Mem w g e kd s vi vk u) (hb : u.grownBy u' (some g)) : Jr.Mem w g e kd s vi vk u' := by
  have hg := h.glt
  have blk : ∀ k, w.heap.size ≤ k → k < u.heap.size → u'.heap[k]? = u.heap[k]? := fun k h1 h2 => hb.block k h2 (fun q => by injection q with q; omega)
  have hsz := h.size
  refine ⟨Jr.grown_trans h.grown hb, hg, Nat.le_trans hsz hb.size, (blk _ (by omega) (by omega)).trans h.rp, (blk _ (by omega) (by omega)).trans h.dp, ⟨(blk _ (by omega) (by omega)).trans h.res.all⟩, ⟨(blk _ (by omega) (by omega)).trans h.var.all⟩, ?_, Jr.own_kept h.keys fun k hk => blk k (by have := (h.keys.lt k hk).1; omega) (h.keys.lt k hk).2⟩
  obtain ⟨xs, ho, hi⟩ := h.items
  refine ⟨xs, Jr.own_kept ho fun k hk => blk k (by have := (ho.lt k hk).1; omega) (ho.lt k hk).2, fun i hin => ?_⟩
  obtain ⟨u0, u1, u2, u3, u4, u5, x0, x1, x2, x3, x4, x5, hl⟩ := hi i hin
  exact ⟨u0, u1, u2, u3, u4, u5, x0, x1, x2, x3, x4, x5, hl.on fun k hk => ⟨⟨hk.1, Nat.lt_of_lt_of_le hk.2.1 hb.size, hk.2.2⟩, blk k (by have := hk.1; omega) hk.2.1⟩⟩
/-- the two rows lie in two blocks -/
theorem Jr.Mem.apart {w : World} {g e : Nat} {kd : Int} {s : Jr.St} {vi vk : Value} {u : World} (h : Jr.Mem w g e kd s vi vk u) : ∀ k, vi.ownBlock = some k → vk.ownBlock ≠ some k := by
  intro k hk hk2
  obtain ⟨xs, ho, -⟩ := h.items
  rcases ho.2 with ⟨rfl, _⟩ | ⟨g1, cap, cur, rfl, hb1, hg1, _⟩
  · cases hk
  · rcases h.keys.2 with ⟨e, _⟩ | ⟨g2, cap2, cur2, e, hb2, hg2, _⟩
    · rw [e] at hk2; cases hk2
    · rw [e] at hk2
      simp only [Value.ownBlock, Option.some.injEq] at hk hk2
      subst hk hk2
      rw [hg1] at hg2
      injection hg2 with hg2
      injection hg2 with _ q _
      exact absurd q (by decide)
/-- one item more -/
theorem Jr.Mem.item {w : World} {g e : Nat} {kd : Int} {s : Jr.St} {vi vk vi' : Value} {u u' W : World} {xs : List Value} {G cap : Nat} (h : Jr.Mem w g e kd s vi vk u) (t : Vt) (v0 v1 v2 v3 v4 v5 : Value) (ht : t.Lies u (Jr.Free (w.heap.size + 4) vi vk u) (.agg #[v0, v1, v2, v3, v4, v5]))
    (hxs : u.ownsRow (w.heap.size + 4) 26 6 vi s.2.length xs) (hi : ∀ i, i < s.2.length → ∃ u0 u1 u2 u3 u4 u5, xs[i * 6]? = some u0 ∧ xs[i * 6 + 1]? = some u1 ∧ xs[i * 6 + 2]? = some u2 ∧ xs[i * 6 + 3]? = some u3 ∧ xs[i * 6 + 4]? = some u4 ∧ xs[i * 6 + 5]? = some u5 ∧ (s.2.getD i .nil).Lies u (Jr.Free (w.heap.size + 4) vi vk u) (.agg #[u0, u1, u2, u3, u4, u5]))
    (hv : vi' = .slice (some ⟨G, 0, none⟩) (s.2.length + 1) cap) (hgr : u.grownBy u' vi.ownBlock) (hf : vi'.ownBlock = vi.ownBlock ∨ vi'.ownBlock = some u.heap.size)
    (hW : W.ownsRow (w.heap.size + 4) 26 6 vi' (s.2.length + 1) (xs ++ [v0, v1, v2, v3, v4, v5])) (hbx : Vm.Box W (w.heap.size + 1 + 1 + 1) (.int .i64 kd) (.int .i64 0) (.int .u64 0) (.string ⟨#[]⟩) vi' vk)
    (hos : W.os = u'.os) (htp : W.tape = u'.tape) (hout : W.output = u'.output) (hsz : u'.heap.size ≤ W.heap.size) (hoth : ∀ k, k < u'.heap.size → k ≠ G → k ≠ w.heap.size + 1 + 1 + 1 → W.heap[k]? = u'.heap[k]?) :
    Jr.Mem w g e kd (s.1, s.2 ++ [t]) vi' vk W := by
  have hg := h.glt
  have hs4 := h.size
  have hG : w.heap.size + 4 ≤ G := (hW.lt G (by rw [hv]; rfl)).1
  have hGo : vi'.ownBlock = some G := by rw [hv]; rfl
  have hus := hgr.size
  have hlt : ∀ k, vi.ownBlock = some k → w.heap.size + 4 ≤ k := fun k hk => (hxs.lt k hk).1
  have low : ∀ k, k < u.heap.size → (k < w.heap.size + 1 + 1 + 1) → W.heap[k]? = u.heap[k]? := fun k h1 h2 => by
    rw [hoth k (by omega) (by omega) (by omega)]
    exact hgr.block k h1 (fun q => by have := hlt k q.symm; omega)
  have high : ∀ k, w.heap.size + 4 ≤ k → k < u.heap.size → vi.ownBlock ≠ some k → W.heap[k]? = u.heap[k]? := fun k h1 h2 h3 => by
    have hkG : k ≠ G := by
      rintro rfl
      rcases hf with q | q
      · exact h3 (q ▸ hGo)
      · rw [hGo] at q; injection q with q; omega
    rw [hoth k (by omega) hkG (by omega)]
    exact hgr.block k h2 (fun q => h3 q.symm)
  have free : ∀ k, Jr.Free (w.heap.size + 4) vi vk u k → Jr.Free (w.heap.size + 4) vi' vk W k ∧ W.heap[k]? = u.heap[k]? := fun k ⟨k1, k2, k3, k4⟩ => by
    refine ⟨⟨k1, by omega, fun q => ?_, k4⟩, high k k1 k2 k3⟩
    rcases hf with r | r
    · exact k3 (r ▸ q)
    · rw [r] at q; injection q with q; omega
  refine ⟨⟨?_, ?_, ?_, by have := h.grown.size; omega, fun k hk hne => ?_⟩, hg, by omega, (low _ (by omega) (by omega)).trans h.rp, (low _ (by omega) (by omega)).trans h.dp, ⟨(low _ (by omega) (by omega)).trans h.res.all⟩, hbx, ?_, Jr.own_kept h.keys fun k hk => high k (h.keys.lt k hk).1 (h.keys.lt k hk).2 (fun q => h.apart k q hk)⟩
  · rw [hos, hgr.os, h.grown.os]
  · rw [htp, hgr.tape, h.grown.tape]
  · rw [hout, hgr.output, h.grown.output]
  · rw [low k (by omega) (by omega)]
    exact h.grown.block k hk hne
  · refine ⟨xs ++ [v0, v1, v2, v3, v4, v5], by rw [List.length_append]; exact hW, fun i hin => ?_⟩
    have hlen := hxs.1
    simp only [List.length_append, List.length_cons, List.length_nil] at hin
    by_cases e : i = s.2.length
    · subst e
      have at6 : ∀ r, (xs ++ [v0, v1, v2, v3, v4, v5])[s.2.length * 6 + r]? = ([v0, v1, v2, v3, v4, v5] : List Value)[r]? := fun r => by
        rw [List.getElem?_append_right (by omega), hlen, Nat.add_sub_cancel_left]
      refine ⟨v0, v1, v2, v3, v4, v5, at6 0, at6 1, at6 2, at6 3, at6 4, at6 5, ?_⟩
      have e2 : (s.2 ++ [t]).getD s.2.length .nil = t := by simp [List.getD_eq_getElem?_getD]
      rw [e2]
      exact ht.on free
    · obtain ⟨u0, u1, u2, u3, u4, u5, y0, y1, y2, y3, y4, y5, hl⟩ := hi i (by omega)
      refine ⟨u0, u1, u2, u3, u4, u5, ?_, ?_, ?_, ?_, ?_, ?_, ?_⟩
      rotate_left 6
      · have e2 : (s.2 ++ [t]).getD i .nil = s.2.getD i .nil := by
          rw [List.getD_eq_getElem?_getD, List.getD_eq_getElem?_getD, List.getElem?_append_left (by omega)]
        rw [e2]
        exact hl.on free
      all_goals rw [List.getElem?_append_left (by omega)]
      all_goals assumption
/-- one key more -/
theorem Jr.Mem.key {w : World} {g e : Nat} {kd : Int} {s : Jr.St} {vi vk vk' : Value} {u u' : World} (h : Jr.Mem w g e kd s vi vk u) (b : ByteArray) (ho : u'.ownsRow (w.heap.size + 4) 9 1 vk' (s.1.length + 1) (s.1.map .string ++ [.string b])) (hgr : u.grownBy u' vk.ownBlock) (hf : vk'.ownBlock = vk.ownBlock ∨ vk'.ownBlock = some u.heap.size) :
    Jr.Mem w g e kd (s.1 ++ [b], s.2) vi vk' (u'.setCell ⟨w.heap.size + 1 + 1 + 1, 5, none⟩ vk') := by
  have hg := h.glt
  have hs4 := h.size
  have hus := hgr.size
  have hlt : ∀ k, vk.ownBlock = some k → w.heap.size + 4 ≤ k := fun k hk => (h.keys.lt k hk).1
  have oth : ∀ k, k < u.heap.size → k ≠ w.heap.size + 1 + 1 + 1 → vk.ownBlock ≠ some k → (u'.setCell ⟨w.heap.size + 1 + 1 + 1, 5, none⟩ vk').heap[k]? = u.heap[k]? := fun k h1 h2 h3 => by
    rw [Below.heap_setCell _ _ _ _ h2]
    exact hgr.block k h1 (fun q => h3 q.symm)
  have low : ∀ k, k < u.heap.size → (k < w.heap.size + 1 + 1 + 1) → (u'.setCell ⟨w.heap.size + 1 + 1 + 1, 5, none⟩ vk').heap[k]? = u.heap[k]? := fun k h1 h2 => oth k h1 (by omega) (fun q => by have := hlt k q; omega)
  have hsz : (u'.setCell ⟨w.heap.size + 1 + 1 + 1, 5, none⟩ vk').heap.size = u'.heap.size := by simp [World.setCell]
  have free : ∀ k, Jr.Free (w.heap.size + 4) vi vk u k → Jr.Free (w.heap.size + 4) vi vk' (u'.setCell ⟨w.heap.size + 1 + 1 + 1, 5, none⟩ vk') k ∧ (u'.setCell ⟨w.heap.size + 1 + 1 + 1, 5, none⟩ vk').heap[k]? = u.heap[k]? := fun k ⟨k1, k2, k3, k4⟩ => by
    refine ⟨⟨k1, by omega, k3, fun q => ?_⟩, oth k k2 (by omega) k4⟩
    rcases hf with r | r
    · exact k4 (r ▸ q)
    · rw [r] at q; injection q with q; omega
  have hbx : Vm.Box u' (w.heap.size + 1 + 1 + 1) (.int .i64 kd) (.int .i64 0) (.int .u64 0) (.string ⟨#[]⟩) vi vk := ⟨(hgr.block _ (by omega) (fun q => by have := hlt _ q.symm; omega)).trans h.var.all⟩
  obtain ⟨xs, hx, hi⟩ := h.items
  refine ⟨⟨?_, ?_, ?_, by have := h.grown.size; omega, fun k hk hne => ?_⟩, hg, by omega, (low _ (by omega) (by omega)).trans h.rp, (low _ (by omega) (by omega)).trans h.dp, ⟨(low _ (by omega) (by omega)).trans h.res.all⟩, ⟨Vm.setAt hbx.all 5 vk'⟩, ⟨xs, Jr.own_kept hx fun k hk => oth k (hx.lt k hk).2 (by have := (hx.lt k hk).1; omega) (h.apart k hk), fun i hin => ?_⟩, ?_⟩
  · rw [show (u'.setCell ⟨w.heap.size + 1 + 1 + 1, 5, none⟩ vk').os = u'.os from rfl, hgr.os, h.grown.os]
  · rw [show (u'.setCell ⟨w.heap.size + 1 + 1 + 1, 5, none⟩ vk').tape = u'.tape from rfl, hgr.tape, h.grown.tape]
  · rw [show (u'.setCell ⟨w.heap.size + 1 + 1 + 1, 5, none⟩ vk').output = u'.output from rfl, hgr.output, h.grown.output]
  · rw [low k (by omega) (by omega)]
    exact h.grown.block k hk hne
  · obtain ⟨u0, u1, u2, u3, u4, u5, x0, x1, x2, x3, x4, x5, hl⟩ := hi i hin
    exact ⟨u0, u1, u2, u3, u4, u5, x0, x1, x2, x3, x4, x5, hl.on free⟩
  · rw [List.length_append, List.map_append]
    exact Jr.own_kept ho fun k hk => Below.heap_setCell _ _ _ _ (by have := (ho.lt k hk).1; show k ≠ w.heap.size + 1 + 1 + 1; omega)
end Go.Proofs.YtboalkfagfgnpaaGreatDoor

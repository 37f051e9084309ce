/-
  THE WALK of the landed reader: row, over whatever part.
-/
import Derived.Test.YtiajclmhimkpnaaDoorBJRd2toJRh
import Derived.Test.YtiajclmhimkpnaaDoorBJRetoJRf
import Derived.Test.YtiajclmhimkpnaaDoorBEPlaintoVKit
namespace Go.Proofs.YtiajclmhimkpnaaDoor
open Go.RowKit
abbrev Jr.St := List ByteArray × List Vt
def Jr.ROut (o : Option (Jr.St × List UInt8)) (I : Jr.St → World → Prop) (w0 : World) (g : Nat) (T : ByteArray) (e : Ending) (w' : World) : Prop :=
  match o with
  | none => e = .panicked Jr.fault ∧ w0.grownBy w' (some g)
  | some (s, r) => e = .returned (.tuple #[]) ∧ I s w' ∧ Jr.Rd w' g T r
theorem Jr.run_to (w : World) (o c : UInt8) :
    (Instr.slice 9 (.string ⟨#[o, c]⟩) none (some (.int .i64 1)) none).run Tryd.prog w = .ok (.string ⟨#[o]⟩) w := by
  simp [Instr.slice, run_underlying Tryd.underlying9, Instr.sliceBounds]
  rfl
theorem Jr.is_skip {c : UInt8} (hc : c ≠ 0) (l : List UInt8) : Js.is c l = if (Js.ws l).headD 0 = c then some (Js.ws l).tail else none := by
  unfold Js.is
  cases Js.ws l with
  | nil => rw [if_neg (fun q => hc q.symm)]
  | cons d r => rfl
theorem Jr.is_pre (c : UInt8) (l : List UInt8) : Js.is c l = if Pl.pre [c] (Js.ws l) = true then some ((Js.ws l).drop 1) else none := by
  unfold Js.is
  cases Js.ws l with
  | nil => rfl
  | cons d r =>
    simp only
    by_cases h : d = c
    · subst h
      rw [if_pos rfl, if_pos (by rw [Pl.pre_cons, Pl.pre_nil]; simp)]
      rfl
    · rw [if_neg h, if_neg (by rw [Pl.pre_cons, Pl.pre_nil]; simpa using fun q => h q.symm)]
set_option maxRecDepth 100000 in
set_option maxHeartbeats 4000000 in
theorem Jr.row (F : FuncId) (caps : Array Value) (hF : ∀ u, (callFunc F caps).run Tryd.prog u = .ok (.enter F caps) u) (o c : UInt8) (hc : c ≠ 0) (P : Jr.St → List UInt8 → Option (Jr.St × List UInt8)) (I : Jr.St → World → Prop) (w0 : World) (g : Nat) (T : ByteArray)
    (hP0 : ∀ s, P s [] = none) (hP : ∀ s l s2 r, P s l = some (s2, r) → r.length ≤ l.length) (hIk : ∀ s u, I s u → w0.grownBy u (some g)) (hIg : ∀ s u u', I s u → u.grownBy u' (some g) → I s u')
    (hPn : ∀ s l s2 r, P s l = some (s2, r) → s2.2.length = s.2.length + 1) (hpart : ∀ s l u, s.2.length ≤ 65536 → Jr.Rd u g T l → I s u → Calls Tryd.prog F caps u (Jr.ROut (P s l) I w0 g T))
    (s : Jr.St) (hs : s.2 = []) (r : List UInt8) (w : World) (h : Jr.Rd w g T (o :: r)) (hI : I s w) :
    Calls Tryd.prog 54 #[.pointer (some ⟨g, 0, none⟩), .string ⟨#[o, c]⟩, .func (.func F) #[] caps] w (Jr.ROut (Jr.rowL P c s r) I w0 g T) := by
  have hto := fun u => Jr.run_to u o c
  have hix : ∀ hh, (⟨#[o, c]⟩ : ByteArray)[1]'hh = c := fun _ => rfl
  have wd := Jr.word ⟨#[o]⟩ (o :: r) (by show Pl.pre [o] (o :: r) = true; rw [Pl.pre_cons, Pl.pre_nil]; simp) g T w h
  rw [show (⟨#[o]⟩ : ByteArray).size = 1 from rfl, List.drop_succ_cons, List.drop_zero] at wd
  have bl := fun u q => Jr.blanks r g T u q
  have sk := fun u q => Jr.skip c hc (Js.ws r) g T u q
  have HP := Lib.hid hP
  have HP0 := Lib.hid hP0
  have HPN := Lib.hid hPn
  have HSN : Hid (s.2.length + r.length ≤ 65536) := by
    have := h.len
    unfold Hid
    rw [hs]
    simp only [List.length_cons, List.length_nil] at this ⊢
    omega
  have HIK := Lib.hid hIk
  have HIG := Lib.hid hIg
  have HPT := Lib.hid hpart
  have HI := Lib.hid hI
  obtain ⟨O, hO⟩ : ∃ O, Jr.rowL P c s r = O := ⟨_, rfl⟩
  rw [hO]
  unfold Jr.rowL at hO
  rw [Jr.is_skip hc] at hO
  clear h hP hP0 hPn hs hIk hIg hpart hI
  by_cases h0 : (Js.ws r).headD 0 = c
  · rw [if_pos h0] at hO
    have hO : some (s, (Js.ws r).tail) = O := hO
    subst hO
    rw [decide_eq_true h0, if_pos h0] at sk
    clear h0 HPT HP HP0 HPN HSN
    go_enter Tryd.func54, Tryd.ntmps54
    go_wp2_with (first | (go_at_call 40; refine wd.mono ?_; rintro e w1 ⟨rfl, b1, q1⟩; have HI1 := Lib.hid (HIG.out _ _ _ HI.out b1); replace bl := bl _ q1; clear b1 q1 wd) | (go_at_call 32; refine bl.mono ?_; rintro e w2 ⟨rfl, b2, q2⟩; have HI2 := Lib.hid (HIG.out _ _ _ HI1.out b2); replace sk := sk _ q2; clear b2 q2 bl) | (go_at_call 45; refine sk.mono ?_; rintro e w3 ⟨rfl, b3, q3⟩; have HI3 := Lib.hid (HIG.out _ _ _ HI2.out b3); have HR3 := Lib.hid q3; clear b3 q3 sk))
    first | go_end0 | refine bodyPost_ret (results_none rfl _ _ _) rfl ?_
    exact ⟨rfl, HI3.out, HR3.out⟩
  · rw [if_neg h0] at hO
    have hO : Jr.rowF P c r.length s (Js.ws r) = O := hO
    have HO := Lib.hid hO
    rw [decide_eq_false h0, if_neg h0] at sk
    have HLN : Hid ((Js.ws r).length ≤ r.length) := Js.ws_len r
    clear h0 hO
    go_enter Tryd.func54, Tryd.ntmps54
    go_wp2_with (first | (go_at_call 40; refine wd.mono ?_; rintro e w1 ⟨rfl, b1, q1⟩; have HI1 := Lib.hid (HIG.out _ _ _ HI.out b1); replace bl := bl _ q1; clear b1 q1 wd) | (go_at_call 32; refine bl.mono ?_; rintro e w2 ⟨rfl, b2, q2⟩; have HI2 := Lib.hid (HIG.out _ _ _ HI1.out b2); replace sk := sk _ q2; clear b2 q2 bl) | (go_at_call 45; refine sk.mono ?_; rintro e w3 ⟨rfl, b3, q3⟩; have HI3 := Lib.hid (HIG.out _ _ _ HI2.out b3); have HR3 := Lib.hid q3; clear b3 q3 sk))
    clear HI HI1 HI2
    go_loopw [] (fun wr => ∃ (f : Nat) (s' : Jr.St) (l' : List UInt8), Hid (Jr.rowF P c f s' l' = O) ∧ Hid (l'.length ≤ f) ∧ Hid (s'.2.length + f ≤ 65536) ∧ Hid (Jr.Rd wr g T l') ∧ Hid (I s' wr)) (fun wr => Jr.rem g T wr)
    case atStart => exact ⟨r.length, s, Js.ws r, HO, HLN, HSN, HR3, HI3⟩
    case round =>
      clear HO HLN HR3 HI3 HSN
      obtain ⟨f, s', l', HO, HF, HSN, HR, HI⟩ := hrel
      have HL := Lib.hid (Jr.rem_eq HR.out)
      have pt := HPT.out s' l' wr (by have := HSN.out; omega) HR.out HI.out
      cases f with
      | zero =>
        have e : none = O := HO.out
        subst e
        have hnil : l' = [] := List.length_eq_zero_iff.1 (Nat.le_zero.1 HF.out)
        rw [hnil] at pt
        rw [HP0.out] at pt
        clear HO hnil
        go_wp2_with fail
        refine pt.mono ?_
        rintro e w4 ⟨rfl, b4⟩
        exact ⟨rfl, rfl, b4⟩
      | succ f =>
        rw [Jr.rowF] at HO
        cases hps : P s' l' with
        | none =>
          rw [hps] at pt HO
          have e : none = O := HO.out
          subst e
          clear HO hps
          go_wp2_with fail
          refine pt.mono ?_
          rintro e w4 ⟨rfl, b4⟩
          exact ⟨rfl, rfl, b4⟩
        | some p =>
          obtain ⟨s2, r2⟩ := p
          have HPL := Lib.hid (HP.out _ _ _ _ hps)
          have HPM := Lib.hid (HPN.out _ _ _ _ hps)
          rw [hps] at pt HO
          replace HO : Hid ((match Js.is c r2 with | some r3 => some (s2, r3) | none => match Js.is 44 r2 with | none => none | some r3 => Jr.rowF P c f s2 r3) = O) := HO
          have bl := fun u q => Jr.blanks r2 g T u q
          have sk := fun u q => Jr.skip c hc (Js.ws r2) g T u q
          clear hps
          by_cases h1 : (Js.ws r2).headD 0 = c
          · rw [Jr.is_skip hc, if_pos h1] at HO
            have e : some (s2, (Js.ws r2).tail) = O := HO.out
            subst e
            rw [decide_eq_true h1, if_pos h1] at sk
            clear HO h1
            go_wp2_with fail
            refine pt.mono ?_
            rintro e w4 ⟨rfl, i4, q4⟩
            have HI4 := Lib.hid i4
            replace bl := bl _ q4
            clear i4 q4 pt
            go_wp2_with (first | (go_at_call 32; refine bl.mono ?_; rintro e w5 ⟨rfl, b5, q5⟩; have HI5 := Lib.hid (HIG.out _ _ _ HI4.out b5); replace sk := sk _ q5; clear b5 q5 bl) | (go_at_call 45; refine sk.mono ?_; rintro e w6 ⟨rfl, b6, q6⟩; have HI6 := Lib.hid (HIG.out _ _ _ HI5.out b6); have HR6 := Lib.hid q6; clear b6 q6 sk))
            first | go_end0 | refine bodyPost_ret (results_none rfl _ _ _) rfl ?_
            exact ⟨rfl, HI6.out, HR6.out⟩
          · rw [Jr.is_skip hc, if_neg h1, Jr.is_pre] at HO
            rw [decide_eq_false h1, if_neg h1] at sk
            clear h1
            by_cases h2 : Pl.pre [44] (Js.ws r2) = true
            · rw [if_pos h2] at HO
              have wd := fun u q => Jr.word ⟨#[44]⟩ (Js.ws r2) h2 g T u q
              rw [show (⟨#[44]⟩ : ByteArray).size = 1 from rfl] at wd
              have HLL : Hid (((Js.ws r2).drop 1).length < l'.length) := by
                have h3 := HPL.out
                have h4 := Js.ws_len r2
                obtain ⟨t, e⟩ := (Pl.pre_iff _ _).1 h2
                unfold Hid
                rw [e] at h4 ⊢
                simp only [List.cons_append, List.nil_append, List.length_cons, List.drop_succ_cons, List.drop_zero] at h4 ⊢
                omega
              have HO2 : Hid (Jr.rowF P c f s2 ((Js.ws r2).drop 1) = O) := HO
              clear h2 HO
              go_wp2_with fail
              refine pt.mono ?_
              rintro e w4 ⟨rfl, i4, q4⟩
              have HI4 := Lib.hid i4
              replace bl := bl _ q4
              clear i4 q4 pt
              go_wp2_with (first | (go_at_call 32; refine bl.mono ?_; rintro e w5 ⟨rfl, b5, q5⟩; have HI5 := Lib.hid (HIG.out _ _ _ HI4.out b5); replace sk := sk _ q5; clear b5 q5 bl) | (go_at_call 45; refine sk.mono ?_; rintro e w6 ⟨rfl, b6, q6⟩; have HI6 := Lib.hid (HIG.out _ _ _ HI5.out b6); replace wd := wd _ q6; clear b6 q6 sk) | (go_at_call 40; refine wd.mono ?_; rintro e w7 ⟨rfl, b7, q7⟩; have HI7 := Lib.hid (HIG.out _ _ _ HI6.out b7); have HR7 := Lib.hid q7; clear b7 q7 wd))
              go_roundw
              case rel => exact ⟨f, s2, _, HO2, by have h1 := HLL.out; have h2 := HF.out; unfold Hid; omega, by have h1 := HPM.out; have h2 := HSN.out; unfold Hid; omega, HR7, HI7⟩
              case measure => rw [Jr.rem_eq HR7.out, HL.out]; exact HLL.out
            · rw [if_neg h2] at HO
              have e : none = O := HO.out
              subst e
              have wd := fun u q => Jr.word_no ⟨#[44]⟩ (Js.ws r2) (Bool.eq_false_iff.2 h2) g T u q
              clear h2 HO
              go_wp2_with fail
              refine pt.mono ?_
              rintro e w4 ⟨rfl, i4, q4⟩
              have HI4 := Lib.hid i4
              replace bl := bl _ q4
              clear i4 q4 pt
              go_wp2_with (first | (go_at_call 32; refine bl.mono ?_; rintro e w5 ⟨rfl, b5, q5⟩; have HI5 := Lib.hid (HIG.out _ _ _ HI4.out b5); replace sk := sk _ q5; clear b5 q5 bl) | (go_at_call 45; refine sk.mono ?_; rintro e w6 ⟨rfl, b6, q6⟩; have HI6 := Lib.hid (HIG.out _ _ _ HI5.out b6); replace wd := wd _ q6; clear b6 q6 sk) | (go_at_call 40; refine wd.mono ?_; rintro e w7 ⟨rfl, b7⟩; have HK7 := Lib.hid (Jr.grown_trans (HIK.out _ _ HI6.out) b7); clear b7 wd))
              exact ⟨rfl, rfl, HK7.out⟩
end Go.Proofs.YtiajclmhimkpnaaDoor
/-
  THE WALKS of the landed reader: digits, number.
-/
namespace Go.Proofs.YtiajclmhimkpnaaDoor
open Go.RowKit
set_option maxRecDepth 100000 in
set_option maxHeartbeats 4000000 in
theorem Jr.digs (l : List UInt8) (g : Nat) (T : ByteArray) (w : World) (h : Jr.Rd w g T l) :
    Calls Tryd.prog 57 #[.pointer (some ⟨g, 0, none⟩)] w (Jr.Out (Jr.digits l) (fun x => .int .i64 (x : Int)) w g T) := by
  cases l with
  | nil =>
    have tk := Jr.take_end g T w h
    go_enter Tryd.func57, Tryd.ntmps57
    go_wp2_with (go_at_call 52; refine tk.mono ?_; rintro e w1 ⟨rfl, b1⟩)
    exact ⟨rfl, rfl, b1⟩
  | cons c r =>
    have tk := Jr.take c r g T w h
    have di := Jr.isDigit c
    rw [Jr.digits]
    by_cases hd : Pl.digit c = true
    · rw [if_pos hd]
      rw [hd] at di
      obtain ⟨hd1, hd2⟩ := Jr.digit_dig c hd
      obtain ⟨O, hO⟩ : ∃ O, Jr.more (Pl.dig c) r = O := ⟨_, rfl⟩
      rw [hO]
      have HO := Lib.hid hO
      have hc48 : 48 ≤ c.toNat := by omega
      have hc256 := c.toNat_lt
      have dis := fun (c : UInt8) => Jr.isDigit c
      clear h hd hO
      generalize Pl.dig c = D at *
      generalize c.toNat = m at *
      go_enter Tryd.func57, Tryd.ntmps57
      go_wp2_with (first | (go_at_call 52; refine tk.mono ?_; rintro e w1 ⟨rfl, b1, q1⟩; have HB1 := Lib.hid b1; have HR1 := Lib.hid q1; clear b1 q1 tk) | (go_at_call 61; refine (di _).mono ?_; rintro e w' ⟨rfl, hw⟩; have hw := hw.symm; subst hw; clear di))
      go_loopw [4] (fun nv wr => ∃ (n : Nat) (l' : List UInt8), nv = .int .i64 (n : Int) ∧ n ≤ 9007199254740991 ∧ Hid (Jr.more n l' = O) ∧ Hid (Jr.Rd wr g T l') ∧ Hid (w.grownBy wr (some g))) (fun _ wr => Jr.rem g T wr)
      case atStart => exact ⟨D, r, rfl, by omega, HO, HR1, HB1⟩
      case round =>
        clear HO HB1 HR1 hd1 hd2 hc48 hc256
        obtain ⟨n, l', rfl, hn, HO, HR, HG⟩ := hrel
        have HL := Lib.hid (Jr.rem_eq HR.out)
        by_cases h0 : 0 < n
        · have d0 : decide ((0 : Int) < (n : Int)) = true := decide_eq_true (by omega)
          have pk := Jr.peek l' g T wr HR.out
          by_cases hdl : Pl.digit (l'.headD 0) = true
          · cases l' with
            | nil => exact absurd hdl (by decide)
            | cons c2 r2 =>
              have hdl : Pl.digit c2 = true := hdl
              rw [List.headD_cons] at pk
              have di2 := dis c2
              rw [hdl] at di2
              have tk2 := fun u q => Jr.take c2 r2 g T u q
              obtain ⟨hq1, hq2⟩ := Jr.digit_dig c2 hdl
              rw [Jr.more, if_pos ⟨h0, hdl⟩] at HO
              have HM : Hid (r2.length < Jr.rem g T wr) := by
                unfold Hid
                rw [HL.out, List.length_cons]
                omega
              have hm48 : 48 ≤ c2.toNat := by omega
              have hm256 := c2.toNat_lt
              clear hdl HL
              generalize Pl.dig c2 = D2 at *
              generalize c2.toNat = m2 at *
              have e8 : IntKind.u8.wrap ((m2 : Int) - 48) = (D2 : Int) := by rw [IntKind.wrap_u8]; omega
              by_cases hbig : 9007199254740991 < n * 10 + D2
              · rw [if_pos hbig] at HO
                have e : none = O := HO.out
                subst e
                have dg : decide ((9007199254740991 : Int) < (n : Int) * 10 + (D2 : Int)) = true := decide_eq_true (by omega)
                clear HO
                go_wp2_with (first | (go_at_call 39; refine pk.mono ?_; rintro e w2 ⟨rfl, b2⟩; have HB2 := Lib.hid (Jr.grown_trans HG.out (Jr.grown_some b2 _)); replace tk2 := tk2 _ (HR.out.on b2); clear b2 pk) | (go_at_call 61; refine (di2 _).mono ?_; rintro e w' ⟨rfl, hw⟩; have hw := hw.symm; subst hw; clear di2) | (go_at_call 52; refine tk2.mono ?_; rintro e w3 ⟨rfl, b3, q3⟩; have HB3 := Lib.hid (Jr.grown_trans HB2.out b3); clear b3 q3 tk2))
                exact ⟨rfl, rfl, HB3.out⟩
              · rw [if_neg hbig] at HO
                have dg : decide ((9007199254740991 : Int) < (n : Int) * 10 + (D2 : Int)) = false := decide_eq_false (by omega)
                have EN : Hid (((n : Int) * 10 + (D2 : Int)) = ((n * 10 + D2 : Nat) : Int)) := by unfold Hid; omega
                go_wp2_with (first | (go_at_call 39; refine pk.mono ?_; rintro e w2 ⟨rfl, b2⟩; have HB2 := Lib.hid (Jr.grown_trans HG.out (Jr.grown_some b2 _)); replace tk2 := tk2 _ (HR.out.on b2); clear b2 pk) | (go_at_call 61; refine (di2 _).mono ?_; rintro e w' ⟨rfl, hw⟩; have hw := hw.symm; subst hw; clear di2) | (go_at_call 52; refine tk2.mono ?_; rintro e w3 ⟨rfl, b3, q3⟩; have HB3 := Lib.hid (Jr.grown_trans HB2.out b3); have HR3 := Lib.hid q3; clear b3 q3 tk2))
                go_roundw
                case rel => exact ⟨n * 10 + D2, r2, by rw [EN.out], by omega, HO, HR3, HB3⟩
                case measure => rw [Jr.rem_eq HR3.out]; exact HM.out
          · have di2 := dis (l'.headD 0)
            rw [Bool.eq_false_iff.2 hdl] at di2
            have e : some (n, l') = O := by
              rw [← HO.out]
              cases l' with
              | nil => rfl
              | cons c2 r2 =>
                have hdl : ¬ Pl.digit c2 = true := hdl
                rw [Jr.more, if_neg (fun q => hdl q.2)]
            subst e
            clear HO hdl HL
            generalize ((l'.headD 0).toNat : Int) = C at *
            go_wp2_with (first | (go_at_call 39; refine pk.mono ?_; rintro e w2 ⟨rfl, b2⟩; have HB2 := Lib.hid (Jr.grown_trans HG.out (Jr.grown_some b2 _)); have HR2 := Lib.hid (HR.out.on b2); clear b2 pk) | (go_at_call 61; refine (di2 _).mono ?_; rintro e w' ⟨rfl, hw⟩; have hw := hw.symm; subst hw; clear di2))
            go_ret
            exact ⟨rfl, HB2.out, HR2.out⟩
        · have d0 : decide ((0 : Int) < (n : Int)) = false := decide_eq_false (by omega)
          have d0n : decide (0 < n) = false := decide_eq_false h0
          have e : some (n, l') = O := by
            rw [← HO.out, show n = 0 by omega, Jr.more_zero]
          subst e
          clear HO HL
          go_wp2
          go_ret
          exact ⟨rfl, HG.out, HR.out⟩
    · rw [if_neg hd]
      rw [Bool.eq_false_iff.2 hd] at di
      clear h hd
      go_enter Tryd.func57, Tryd.ntmps57
      go_wp2_with (first | (go_at_call 52; refine tk.mono ?_; rintro e w1 ⟨rfl, b1, q1⟩; have HB1 := Lib.hid b1; clear b1 q1 tk) | (go_at_call 61; refine (di _).mono ?_; rintro e w' ⟨rfl, hw⟩; have hw := hw.symm; subst hw; clear di))
      exact ⟨rfl, rfl, HB1.out⟩
/-- a leaf as a value -/
def Jr.cells (k x : Int) (b : Nat) (s : ByteArray) : Value := .agg #[.int .i64 k, .int .i64 x, .int .u64 (b : Int), .string s, .slice none 0 0, .slice none 0 0]
def Jr.numVal (neg : Bool) (n : Nat) : Value := if neg = true ∧ n = 0 then Jr.cells 3 0 9223372036854775808 ⟨#[]⟩ else Jr.cells 2 (if neg then -(n : Int) else (n : Int)) 0 ⟨#[]⟩
def Jr.numP (l : List UInt8) : Option ((Bool × Nat) × List UInt8) := if l.head? = some 45 then (Jr.digits (l.drop 1)).map fun p => ((true, p.1), p.2) else (Jr.digits l).map fun p => ((false, p.1), p.2)
theorem Jr.more_le : ∀ (l : List UInt8) (n m : Nat) (r : List UInt8), n ≤ 9007199254740991 → Jr.more n l = some (m, r) → m ≤ 9007199254740991
  | [], n, m, r, h, e => by
    rw [Jr.more] at e
    simp only [Option.some.injEq, Prod.mk.injEq] at e
    omega
  | c :: l, n, m, r, h, e => by
    rw [Jr.more] at e
    split at e
    · split at e
      · cases e
      · exact Jr.more_le l _ m r (by omega) e
    · simp only [Option.some.injEq, Prod.mk.injEq] at e
      omega
theorem Jr.digits_le {l r : List UInt8} {m : Nat} (h : Jr.digits l = some (m, r)) : m ≤ 9007199254740991 := by
  cases l with
  | nil => cases h
  | cons c l =>
    rw [Jr.digits] at h
    split at h
    · rename_i hd
      exact Jr.more_le l _ m r (by have := (Jr.digit_dig c hd).1; omega) h
    · cases h
theorem Jr.number_eq (l : List UInt8) : Jr.number l = (Jr.numP l).map fun p => (Jr.num p.1.1 p.1.2, p.2) := by
  unfold Jr.number Jr.numP
  split
  · cases Jr.digits (l.drop 1) <;> rfl
  · cases Jr.digits l <;> rfl
theorem Jr.six {w : World} {G : Nat} {u0 u1 u2 u3 u4 u5 : Value} (h : Vm.Box w G u0 u1 u2 u3 u4 u5) (v0 v1 v2 v3 v4 v5 : Value) : ∃ W, ((((((w.setCell ⟨G, 0, none⟩ v0).setCell ⟨G, 1, none⟩ v1).setCell ⟨G, 2, none⟩ v2).setCell ⟨G, 3, none⟩ v3).setCell ⟨G, 4, none⟩ v4).setCell ⟨G, 5, none⟩ v5) = W ∧ Vm.Box W G v0 v1 v2 v3 v4 v5 ∧ Below G w W :=
  ⟨_, rfl, ⟨Vm.setAt (Vm.setAt (Vm.setAt (Vm.setAt (Vm.setAt (Vm.setAt h.all 0 v0) 1 v1) 2 v2) 3 v3) 4 v4) 5 v5⟩, ((((((Below.refl G w).setCell (p := ⟨G, 0, none⟩) (Nat.le_refl _) _).setCell (p := ⟨G, 1, none⟩) (Nat.le_refl _) _).setCell (p := ⟨G, 2, none⟩) (Nat.le_refl _) _).setCell (p := ⟨G, 3, none⟩) (Nat.le_refl _) _).setCell (p := ⟨G, 4, none⟩) (Nat.le_refl _) _).setCell (p := ⟨G, 5, none⟩) (Nat.le_refl _) _⟩
theorem Jr.box_grown {w w' : World} {G g : Nat} {u0 u1 u2 u3 u4 u5 : Value} (h : Vm.Box w G u0 u1 u2 u3 u4 u5) (hb : w.grownBy w' (some g)) (hG : G ≠ g) : Vm.Box w' G u0 u1 u2 u3 u4 u5 :=
  ⟨(hb.block _ h.lt (fun q => hG (by injection q))).trans h.all⟩
set_option maxRecDepth 100000 in
set_option maxHeartbeats 4000000 in
theorem Jr.numb (l : List UInt8) (g : Nat) (T : ByteArray) (w : World) (h : Jr.Rd w g T l) :
    Calls Tryd.prog 44 #[.pointer (some ⟨g, 0, none⟩)] w (Jr.Out (Jr.numP l) (fun p => Jr.numVal p.1 p.2) w g T) := by
  have s45 : ∀ u, Jr.Rd u g T l → Calls Tryd.prog 45 #[.pointer (some ⟨g, 0, none⟩), .int .u8 45] u fun e w' => e = .returned (.bool (decide (l.headD 0 = 45))) ∧ u.grownBy w' (some g) ∧ Jr.Rd w' g T (if l.headD 0 = 45 then l.tail else l) := fun u h => Jr.skip 45 (by decide) l g T u h
  have hh : l.headD 0 = 45 ↔ l.head? = some 45 := by
    cases l with
    | nil => simp
    | cons c r => simp
  have HX : Hid (w.grownBy (w.alloc (.cells #[.int .i64 0, .int .i64 0, .int .u64 0, .string ⟨#[]⟩, .slice none 0 0, .slice none 0 0] 29)) none) := World.grownBy_alloc _ _ _
  replace s45 := s45 _ (h.on HX.out)
  have hgw := h.lt
  have HG : Hid (w.heap.size ≠ g) := by unfold Hid; omega
  have HBX : Hid (Vm.Box (w.alloc (.cells #[.int .i64 0, .int .i64 0, .int .u64 0, .string ⟨#[]⟩, .slice none 0 0, .slice none 0 0] 29)) w.heap.size (.int .i64 0) (.int .i64 0) (.int .u64 0) (.string ⟨#[]⟩) (.slice none 0 0) (.slice none 0 0)) := ⟨Vm.Has.new w (.cells #[.int .i64 0, .int .i64 0, .int .u64 0, .string ⟨#[]⟩, .slice none 0 0, .slice none 0 0] 29) _ rfl⟩
  unfold Jr.numP
  have hdg := fun l u q => Jr.digs l g T u q
  by_cases h45 : l.headD 0 = 45
  · rw [if_pos (hh.1 h45), show l.drop 1 = l.tail by cases l <;> rfl]
    rw [decide_eq_true h45, if_pos h45] at s45
    replace hdg := hdg l.tail
    clear hh h45 h
    cases hd : Jr.digits l.tail with
    | none =>
      rw [hd] at hdg
      clear hd
      go_enter Tryd.func44, Tryd.ntmps44
      go_wp2_with (first | (go_at_call 45; refine s45.mono ?_; rintro e w1 ⟨rfl, b1, q1⟩; have HB1 := Lib.hid (Jr.grown_trans (Jr.grown_some HX.out (some g)) b1); replace hdg := hdg _ q1; clear b1 q1 s45) | (go_at_call 57; refine hdg.mono ?_; rintro e w2 ⟨rfl, b2⟩; have HB2 := Lib.hid (Jr.grown_trans HB1.out b2); clear b2))
      exact ⟨rfl, rfl, HB2.out⟩
    | some p =>
      obtain ⟨n, r⟩ := p
      have hn := Jr.digits_le hd
      rw [hd] at hdg
      clear hd
      by_cases h0 : n = 0
      · have d0 : ((n : Int) == 0) = true := beq_iff_eq.2 (by omega)
        have HV : Hid (Jr.numVal true n = .agg #[.int .i64 3, .int .i64 0, .int .u64 9223372036854775808, .string ⟨#[]⟩, .slice none 0 0, .slice none 0 0]) := by
          unfold Hid Jr.numVal
          rw [if_pos ⟨rfl, h0⟩]
          rfl
        clear h0
        go_enter Tryd.func44, Tryd.ntmps44
        go_wp2_with (first | (go_at_call 45; refine s45.mono ?_; rintro e w1 ⟨rfl, b1, q1⟩; have HB1 := Lib.hid (Jr.grown_trans (Jr.grown_some HX.out (some g)) b1); have HX1 := Lib.hid (Jr.box_grown HBX.out b1 HG.out); replace hdg := hdg _ q1; clear b1 q1 s45) | (go_at_call 57; refine hdg.mono ?_; rintro e w2 ⟨rfl, b2, q2⟩; have HB2 := Lib.hid (Jr.grown_trans HB1.out b2); have HR2 := Lib.hid q2; have HX2 := Lib.hid (Jr.box_grown HX1.out b2 HG.out); obtain ⟨c0, c1, c2, c3, c4, c5⟩ := HX2.out.cells; have f0 := HX2.out.has.frozen 0; have f1 := HX2.out.has.frozen 1; have f2 := HX2.out.has.frozen 2; have f3 := HX2.out.has.frozen 3; have f4 := HX2.out.has.frozen 4; have f5 := HX2.out.has.frozen 5; clear b2 q2 hdg))
        obtain ⟨W, hW, hX, hb⟩ := Jr.six HX2.out (.int .i64 3) (.int .i64 0) (.int .u64 9223372036854775808) (.string ⟨#[]⟩) (.slice none 0 0) (.slice none 0 0)
        rw [hW]
        obtain ⟨x0, x1, x2, x3, x4, x5⟩ := hX.cells
        refine bodyPost_ret (v := .agg #[.int .i64 3, .int .i64 0, .int .u64 9223372036854775808, .string ⟨#[]⟩, .slice none 0 0, .slice none 0 0]) (by simp [results, Tryd.results44, go_sem, x0, x1, x2, x3, x4, x5]) rfl ?_
        exact ⟨congrArg Ending.returned HV.out.symm, Jr.grown_more HB2.out hb (Nat.le_refl _), HR2.out.below hb hgw⟩
      · have d0 : ((n : Int) == 0) = false := beq_eq_false_iff_ne.2 (by omega)
        have HV : Hid (Jr.numVal true n = .agg #[.int .i64 2, .int .i64 (-(n : Int)), .int .u64 0, .string ⟨#[]⟩, .slice none 0 0, .slice none 0 0]) := by
          unfold Hid Jr.numVal
          rw [if_neg (fun q => h0 q.2)]
          rfl
        clear h0
        go_enter Tryd.func44, Tryd.ntmps44
        go_wp2_with (first | (go_at_call 45; refine s45.mono ?_; rintro e w1 ⟨rfl, b1, q1⟩; have HB1 := Lib.hid (Jr.grown_trans (Jr.grown_some HX.out (some g)) b1); have HX1 := Lib.hid (Jr.box_grown HBX.out b1 HG.out); replace hdg := hdg _ q1; clear b1 q1 s45) | (go_at_call 57; refine hdg.mono ?_; rintro e w2 ⟨rfl, b2, q2⟩; have HB2 := Lib.hid (Jr.grown_trans HB1.out b2); have HR2 := Lib.hid q2; have HX2 := Lib.hid (Jr.box_grown HX1.out b2 HG.out); obtain ⟨c0, c1, c2, c3, c4, c5⟩ := HX2.out.cells; have f0 := HX2.out.has.frozen 0; have f1 := HX2.out.has.frozen 1; have f2 := HX2.out.has.frozen 2; have f3 := HX2.out.has.frozen 3; have f4 := HX2.out.has.frozen 4; have f5 := HX2.out.has.frozen 5; clear b2 q2 hdg))
        obtain ⟨W, hW, hX, hb⟩ := Jr.six HX2.out (.int .i64 2) (.int .i64 (-(n : Int))) (.int .u64 0) (.string ⟨#[]⟩) (.slice none 0 0) (.slice none 0 0)
        rw [hW]
        obtain ⟨x0, x1, x2, x3, x4, x5⟩ := hX.cells
        refine bodyPost_ret (v := .agg #[.int .i64 2, .int .i64 (-(n : Int)), .int .u64 0, .string ⟨#[]⟩, .slice none 0 0, .slice none 0 0]) (by simp [results, Tryd.results44, go_sem, x0, x1, x2, x3, x4, x5]) rfl ?_
        exact ⟨congrArg Ending.returned HV.out.symm, Jr.grown_more HB2.out hb (Nat.le_refl _), HR2.out.below hb hgw⟩
  · rw [if_neg (fun q => h45 (hh.2 q))]
    rw [decide_eq_false h45, if_neg h45] at s45
    replace hdg := hdg l
    clear hh h45 h
    cases hd : Jr.digits l with
    | none =>
      rw [hd] at hdg
      clear hd
      go_enter Tryd.func44, Tryd.ntmps44
      go_wp2_with (first | (go_at_call 45; refine s45.mono ?_; rintro e w1 ⟨rfl, b1, q1⟩; have HB1 := Lib.hid (Jr.grown_trans (Jr.grown_some HX.out (some g)) b1); replace hdg := hdg _ q1; clear b1 q1 s45) | (go_at_call 57; refine hdg.mono ?_; rintro e w2 ⟨rfl, b2⟩; have HB2 := Lib.hid (Jr.grown_trans HB1.out b2); clear b2))
      exact ⟨rfl, rfl, HB2.out⟩
    | some p =>
      obtain ⟨n, r⟩ := p
      have hn := Jr.digits_le hd
      rw [hd] at hdg
      clear hd
      have HV : Hid (Jr.numVal false n = .agg #[.int .i64 2, .int .i64 (n : Int), .int .u64 0, .string ⟨#[]⟩, .slice none 0 0, .slice none 0 0]) := by
        unfold Hid Jr.numVal
        rw [if_neg (fun q => Bool.false_ne_true q.1)]
        rfl
      go_enter Tryd.func44, Tryd.ntmps44
      go_wp2_with (first | (go_at_call 45; refine s45.mono ?_; rintro e w1 ⟨rfl, b1, q1⟩; have HB1 := Lib.hid (Jr.grown_trans (Jr.grown_some HX.out (some g)) b1); have HX1 := Lib.hid (Jr.box_grown HBX.out b1 HG.out); replace hdg := hdg _ q1; clear b1 q1 s45) | (go_at_call 57; refine hdg.mono ?_; rintro e w2 ⟨rfl, b2, q2⟩; have HB2 := Lib.hid (Jr.grown_trans HB1.out b2); have HR2 := Lib.hid q2; have HX2 := Lib.hid (Jr.box_grown HX1.out b2 HG.out); obtain ⟨c0, c1, c2, c3, c4, c5⟩ := HX2.out.cells; have f0 := HX2.out.has.frozen 0; have f1 := HX2.out.has.frozen 1; have f2 := HX2.out.has.frozen 2; have f3 := HX2.out.has.frozen 3; have f4 := HX2.out.has.frozen 4; have f5 := HX2.out.has.frozen 5; clear b2 q2 hdg))
      obtain ⟨W, hW, hX, hb⟩ := Jr.six HX2.out (.int .i64 2) (.int .i64 (n : Int)) (.int .u64 0) (.string ⟨#[]⟩) (.slice none 0 0) (.slice none 0 0)
      rw [hW]
      obtain ⟨x0, x1, x2, x3, x4, x5⟩ := hX.cells
      refine bodyPost_ret (v := .agg #[.int .i64 2, .int .i64 (n : Int), .int .u64 0, .string ⟨#[]⟩, .slice none 0 0, .slice none 0 0]) (by simp [results, Tryd.results44, go_sem, x0, x1, x2, x3, x4, x5]) rfl ?_
      exact ⟨congrArg Ending.returned HV.out.symm, Jr.grown_more HB2.out hb (Nat.le_refl _), HR2.out.below hb hgw⟩
end Go.Proofs.YtiajclmhimkpnaaDoor

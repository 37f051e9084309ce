/-
  THE WALK of the landed reader: row, over whatever part.
-/
import Derived.Test.YtboalkfagfgnpaaGreatDoorBJRhtoJRa
import Derived.Test.YtboalkfagfgnpaaGreatDoorBJRf
namespace Go.Proofs.YtboalkfagfgnpaaGreatDoor
open Go.RowKit
abbrev Jr.St := List ByteArray × List Vt
def Jr.ROut (o : Option (Jr.St × List UInt8)) (I : Jr.St → World → Prop) (w0 : World) (g : Nat) (T : ByteArray) (e : Ending) (w' : World) : Prop :=
  match o with
  | none => e = .panicked Jr.fault ∧ w0.grownBy w' (some g)
  | some (s, r) => e = .returned (.tuple #[]) ∧ I s w' ∧ Jr.Rd w' g T r
theorem Jr.run_to (w : World) (o c : UInt8) :
    (Instr.slice 9 (.string ⟨#[o, c]⟩) none (some (.int .i64 1)) none).run Tryz.prog w = .ok (.string ⟨#[o]⟩) w := by
  simp [Instr.slice, run_underlying Tryz.underlying9, Instr.sliceBounds]
  rfl
theorem Jr.is_skip {c : UInt8} (hc : c ≠ 0) (l : List UInt8) : Js.is c l = if (Js.ws l).headD 0 = c then some (Js.ws l).tail else none := by
  unfold Js.is
  cases Js.ws l with
  | nil => rw [if_neg (fun q => hc q.symm)]
  | cons d r => rfl
theorem Jr.is_pre (c : UInt8) (l : List UInt8) : Js.is c l = if Pl.pre [c] (Js.ws l) = true then some ((Js.ws l).drop 1) else none := by
  unfold Js.is
  cases Js.ws l with
  | nil => rfl
  | cons d r =>
    simp only
    by_cases h : d = c
    · subst h
      rw [if_pos rfl, if_pos (by rw [Pl.pre_cons, Pl.pre_nil]; simp)]
      rfl
    · rw [if_neg h, if_neg (by rw [Pl.pre_cons, Pl.pre_nil]; simpa using fun q => h q.symm)]
set_option maxRecDepth 100000 in
set_option maxHeartbeats 4000000 in
theorem Jr.row (F : FuncId) (caps : Array Value) (hF : ∀ u, (callFunc F caps).run Tryz.prog u = .ok (.enter F caps) u) (o c : UInt8) (hc : c ≠ 0) (P : Jr.St → List UInt8 → Option (Jr.St × List UInt8)) (I : Jr.St → World → Prop) (w0 : World) (g : Nat) (T : ByteArray)
    (hP0 : ∀ s, P s [] = none) (hP : ∀ s l s2 r, P s l = some (s2, r) → r.length ≤ l.length) (hIk : ∀ s u, I s u → w0.grownBy u (some g)) (hIg : ∀ s u u', I s u → u.grownBy u' (some g) → I s u')
    (hPn : ∀ s l s2 r, P s l = some (s2, r) → s2.2.length = s.2.length + 1) (hpart : ∀ s l u, s.2.length ≤ 65536 → Jr.Rd u g T l → I s u → Calls Tryz.prog F caps u (Jr.ROut (P s l) I w0 g T))
    (s : Jr.St) (hs : s.2 = []) (r : List UInt8) (w : World) (h : Jr.Rd w g T (o :: r)) (hI : I s w) :
    Calls Tryz.prog 102 #[.pointer (some ⟨g, 0, none⟩), .string ⟨#[o, c]⟩, .func (.func F) #[] caps] w (Jr.ROut (Jr.rowL P c s r) I w0 g T) := by
  have hto := fun u => Jr.run_to u o c
  have hix : ∀ hh, (⟨#[o, c]⟩ : ByteArray)[1]'hh = c := fun _ => rfl
  have wd := Jr.word ⟨#[o]⟩ (o :: r) (by show Pl.pre [o] (o :: r) = true; rw [Pl.pre_cons, Pl.pre_nil]; simp) g T w h
  rw [show (⟨#[o]⟩ : ByteArray).size = 1 from rfl, List.drop_succ_cons, List.drop_zero] at wd
  have bl := fun u q => Jr.blanks r g T u q
  have sk := fun u q => Jr.skip c hc (Js.ws r) g T u q
  have HP := Lib.hid hP
  have HP0 := Lib.hid hP0
  have HPN := Lib.hid hPn
  have HSN : Hid (s.2.length + r.length ≤ 65536) := by
    have := h.len
    unfold Hid
    rw [hs]
    simp only [List.length_cons, List.length_nil] at this ⊢
    omega
  have HIK := Lib.hid hIk
  have HIG := Lib.hid hIg
  have HPT := Lib.hid hpart
  have HI := Lib.hid hI
  obtain ⟨O, hO⟩ : ∃ O, Jr.rowL P c s r = O := ⟨_, rfl⟩
  rw [hO]
  unfold Jr.rowL at hO
  rw [Jr.is_skip hc] at hO
  clear h hP hP0 hPn hs hIk hIg hpart hI
  by_cases h0 : (Js.ws r).headD 0 = c
  · rw [if_pos h0] at hO
    have hO : some (s, (Js.ws r).tail) = O := hO
    subst hO
    rw [decide_eq_true h0, if_pos h0] at sk
    clear h0 HPT HP HP0 HPN HSN
    go_enter Tryz.func102, Tryz.ntmps102
    go_wp2_with (first | (go_at_call 70; refine wd.mono ?_; rintro e w1 ⟨rfl, b1, q1⟩; have HI1 := Lib.hid (HIG.out _ _ _ HI.out b1); replace bl := bl _ q1; clear b1 q1 wd) | (go_at_call 50; refine bl.mono ?_; rintro e w2 ⟨rfl, b2, q2⟩; have HI2 := Lib.hid (HIG.out _ _ _ HI1.out b2); replace sk := sk _ q2; clear b2 q2 bl) | (go_at_call 75; refine sk.mono ?_; rintro e w3 ⟨rfl, b3, q3⟩; have HI3 := Lib.hid (HIG.out _ _ _ HI2.out b3); have HR3 := Lib.hid q3; clear b3 q3 sk))
    first | go_end0 | refine bodyPost_ret (results_none rfl _ _ _) rfl ?_
    exact ⟨rfl, HI3.out, HR3.out⟩
  · rw [if_neg h0] at hO
    have hO : Jr.rowF P c r.length s (Js.ws r) = O := hO
    have HO := Lib.hid hO
    rw [decide_eq_false h0, if_neg h0] at sk
    have HLN : Hid ((Js.ws r).length ≤ r.length) := Js.ws_len r
    clear h0 hO
    go_enter Tryz.func102, Tryz.ntmps102
    go_wp2_with (first | (go_at_call 70; refine wd.mono ?_; rintro e w1 ⟨rfl, b1, q1⟩; have HI1 := Lib.hid (HIG.out _ _ _ HI.out b1); replace bl := bl _ q1; clear b1 q1 wd) | (go_at_call 50; refine bl.mono ?_; rintro e w2 ⟨rfl, b2, q2⟩; have HI2 := Lib.hid (HIG.out _ _ _ HI1.out b2); replace sk := sk _ q2; clear b2 q2 bl) | (go_at_call 75; refine sk.mono ?_; rintro e w3 ⟨rfl, b3, q3⟩; have HI3 := Lib.hid (HIG.out _ _ _ HI2.out b3); have HR3 := Lib.hid q3; clear b3 q3 sk))
    clear HI HI1 HI2
    go_loopw [] (fun wr => ∃ (f : Nat) (s' : Jr.St) (l' : List UInt8), Hid (Jr.rowF P c f s' l' = O) ∧ Hid (l'.length ≤ f) ∧ Hid (s'.2.length + f ≤ 65536) ∧ Hid (Jr.Rd wr g T l') ∧ Hid (I s' wr)) (fun wr => Jr.rem g T wr)
    case atStart => exact ⟨r.length, s, Js.ws r, HO, HLN, HSN, HR3, HI3⟩
    case round =>
      clear HO HLN HR3 HI3 HSN
      obtain ⟨f, s', l', HO, HF, HSN, HR, HI⟩ := hrel
      have HL := Lib.hid (Jr.rem_eq HR.out)
      have pt := HPT.out s' l' wr (by have := HSN.out; omega) HR.out HI.out
      cases f with
      | zero =>
        have e : none = O := HO.out
        subst e
        have hnil : l' = [] := List.length_eq_zero_iff.1 (Nat.le_zero.1 HF.out)
        rw [hnil] at pt
        rw [HP0.out] at pt
        clear HO hnil
        go_wp2_with fail
        refine pt.mono ?_
        rintro e w4 ⟨rfl, b4⟩
        exact ⟨rfl, rfl, b4⟩
      | succ f =>
        rw [Jr.rowF] at HO
        cases hps : P s' l' with
        | none =>
          rw [hps] at pt HO
          have e : none = O := HO.out
          subst e
          clear HO hps
          go_wp2_with fail
          refine pt.mono ?_
          rintro e w4 ⟨rfl, b4⟩
          exact ⟨rfl, rfl, b4⟩
        | some p =>
          obtain ⟨s2, r2⟩ := p
          have HPL := Lib.hid (HP.out _ _ _ _ hps)
          have HPM := Lib.hid (HPN.out _ _ _ _ hps)
          rw [hps] at pt HO
          replace HO : Hid ((match Js.is c r2 with | some r3 => some (s2, r3) | none => match Js.is 44 r2 with | none => none | some r3 => Jr.rowF P c f s2 r3) = O) := HO
          have bl := fun u q => Jr.blanks r2 g T u q
          have sk := fun u q => Jr.skip c hc (Js.ws r2) g T u q
          clear hps
          by_cases h1 : (Js.ws r2).headD 0 = c
          · rw [Jr.is_skip hc, if_pos h1] at HO
            have e : some (s2, (Js.ws r2).tail) = O := HO.out
            subst e
            rw [decide_eq_true h1, if_pos h1] at sk
            clear HO h1
            go_wp2_with fail
            refine pt.mono ?_
            rintro e w4 ⟨rfl, i4, q4⟩
            have HI4 := Lib.hid i4
            replace bl := bl _ q4
            clear i4 q4 pt
            go_wp2_with (first | (go_at_call 50; refine bl.mono ?_; rintro e w5 ⟨rfl, b5, q5⟩; have HI5 := Lib.hid (HIG.out _ _ _ HI4.out b5); replace sk := sk _ q5; clear b5 q5 bl) | (go_at_call 75; refine sk.mono ?_; rintro e w6 ⟨rfl, b6, q6⟩; have HI6 := Lib.hid (HIG.out _ _ _ HI5.out b6); have HR6 := Lib.hid q6; clear b6 q6 sk))
            first | go_end0 | refine bodyPost_ret (results_none rfl _ _ _) rfl ?_
            exact ⟨rfl, HI6.out, HR6.out⟩
          · rw [Jr.is_skip hc, if_neg h1, Jr.is_pre] at HO
            rw [decide_eq_false h1, if_neg h1] at sk
            clear h1
            by_cases h2 : Pl.pre [44] (Js.ws r2) = true
            · rw [if_pos h2] at HO
              have wd := fun u q => Jr.word ⟨#[44]⟩ (Js.ws r2) h2 g T u q
              rw [show (⟨#[44]⟩ : ByteArray).size = 1 from rfl] at wd
              have HLL : Hid (((Js.ws r2).drop 1).length < l'.length) := by
                have h3 := HPL.out
                have h4 := Js.ws_len r2
                obtain ⟨t, e⟩ := (Pl.pre_iff _ _).1 h2
                unfold Hid
                rw [e] at h4 ⊢
                simp only [List.cons_append, List.nil_append, List.length_cons, List.drop_succ_cons, List.drop_zero] at h4 ⊢
                omega
              have HO2 : Hid (Jr.rowF P c f s2 ((Js.ws r2).drop 1) = O) := HO
              clear h2 HO
              go_wp2_with fail
              refine pt.mono ?_
              rintro e w4 ⟨rfl, i4, q4⟩
              have HI4 := Lib.hid i4
              replace bl := bl _ q4
              clear i4 q4 pt
              go_wp2_with (first | (go_at_call 50; refine bl.mono ?_; rintro e w5 ⟨rfl, b5, q5⟩; have HI5 := Lib.hid (HIG.out _ _ _ HI4.out b5); replace sk := sk _ q5; clear b5 q5 bl) | (go_at_call 75; refine sk.mono ?_; rintro e w6 ⟨rfl, b6, q6⟩; have HI6 := Lib.hid (HIG.out _ _ _ HI5.out b6); replace wd := wd _ q6; clear b6 q6 sk) | (go_at_call 70; refine wd.mono ?_; rintro e w7 ⟨rfl, b7, q7⟩; have HI7 := Lib.hid (HIG.out _ _ _ HI6.out b7); have HR7 := Lib.hid q7; clear b7 q7 wd))
              go_roundw
              case rel => exact ⟨f, s2, _, HO2, by have h1 := HLL.out; have h2 := HF.out; unfold Hid; omega, by have h1 := HPM.out; have h2 := HSN.out; unfold Hid; omega, HR7, HI7⟩
              case measure => rw [Jr.rem_eq HR7.out, HL.out]; exact HLL.out
            · rw [if_neg h2] at HO
              have e : none = O := HO.out
              subst e
              have wd := fun u q => Jr.word_no ⟨#[44]⟩ (Js.ws r2) (Bool.eq_false_iff.2 h2) g T u q
              clear h2 HO
              go_wp2_with fail
              refine pt.mono ?_
              rintro e w4 ⟨rfl, i4, q4⟩
              have HI4 := Lib.hid i4
              replace bl := bl _ q4
              clear i4 q4 pt
              go_wp2_with (first | (go_at_call 50; refine bl.mono ?_; rintro e w5 ⟨rfl, b5, q5⟩; have HI5 := Lib.hid (HIG.out _ _ _ HI4.out b5); replace sk := sk _ q5; clear b5 q5 bl) | (go_at_call 75; refine sk.mono ?_; rintro e w6 ⟨rfl, b6, q6⟩; have HI6 := Lib.hid (HIG.out _ _ _ HI5.out b6); replace wd := wd _ q6; clear b6 q6 sk) | (go_at_call 70; refine wd.mono ?_; rintro e w7 ⟨rfl, b7⟩; have HK7 := Lib.hid (Jr.grown_trans (HIK.out _ _ HI6.out) b7); clear b7 wd))
              exact ⟨rfl, rfl, HK7.out⟩
end Go.Proofs.YtboalkfagfgnpaaGreatDoor

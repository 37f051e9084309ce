/-
  THE REFERENCE's reader: list at every depth, and all of it.
-/
import Derived.Test.YtboalkfagfgnpaaGreatDoorCJPn
import Derived.Test.YtboalkfagfgnpaaGreatDoorCJBacktoJEscR
import Derived.Deep.CutRange
import Derived.Lib.OthersKept
import Derived.Test.YtboalkfagfgnpaaGreatDoorCVCounttoJPk
import Derived.Test.YtboalkfagfgnpaaGreatDoorCReRef2
namespace Go.Proofs.YtboalkfagfgnpaaGreatDoor
open Go.RowKit
theorem Jp.lstOf (d : Nat) (hd : d ≤ 8) (g : Nat) (T : ByteArray) (hv : ∀ (l : List UInt8) (u : World), Jp.Rd u g T l false → Calls Tryz.prog 23 #[.pointer (some ⟨g, 0, none⟩), .int .i64 (d : Int)] u (Jp.VOut (Js.value d l) u g T)) : Jp.Lst d g T := by
  intro l u kd en hR hke
  cases hi : Js.is en l with
  | some r =>
    have := Jp.listEmpty l r kd en ((d : Int) + 1) g T hi u hR
    unfold Js.list
    rw [hi]
    exact this
  | none =>
    rw [Jp.list_hd (Js.value_len d) kd hi]
    exact Jp.listW d hd l kd en hke g T hi hv u hR
theorem Jp.lst (g : Nat) (T : ByteArray) : ∀ d, d ≤ 7 → Jp.Lst d g T := by
  intro d
  induction d with
  | zero => intro _; exact Jp.lstOf 0 (by decide) g T fun l u q => Jp.valDeep l g T u q
  | succ d ih => intro hd; exact Jp.lstOf (d + 1) (by omega) g T fun l u q => Jp.valueW d (by omega) l g T (ih (by omega)) u q
theorem Jp.read (s : ByteArray) (w : World) :
    Calls Tryz.prog 9 #[.string s] w fun e w' => ∃ v, e = .returned (.tuple #[v, .int .i64 (Js.gerr s.data.toList)]) ∧ (Js.got s.data.toList).Lies w' (fun g => w.heap.size ≤ g ∧ g < w'.heap.size) v ∧ Below w.heap.size w w' :=
  Jp.get s w fun g T l u q => Jp.valueW 7 (by decide) l g T (Jp.lst g T 7 (Nat.le_refl _)) u q
end Go.Proofs.YtboalkfagfgnpaaGreatDoor
/-
  THE WALK of stoleref1.Escape.
-/
namespace Go.Proofs.YtboalkfagfgnpaaGreatDoor
open Go.RowKit
theorem Jx.three {a b c : Bool} (h : false = (a || b || c)) : a = false ∧ b = false ∧ c = false := by
  cases a <;> cases b <;> cases c <;> simp at h ⊢
theorem Rb.call {ops : Array Oper} {o : Oper} {a : Act} {w : World} {K : Act → World → Prop} {E : Prop} {Z : Exit → Act → World → Prop} (hgd : o.guard = none) (f : FuncId) (args : Array Value) (hrun : (execOp a.eval o).run Tryz.prog w = .ok (.enter f args) w) (v : Value) (hc : Calls Tryz.prog f args w fun e w' => e = .returned v ∧ w' = w) (h : K (a.put o.dst v) w) : if Region.wanted o (yielded ops a.tmps) = true then Oper.wp Tryz.prog o a w K Z else E := by
  rw [if_pos (by simp [Region.wanted, hgd])]
  unfold Oper.wp
  rw [hrun, Oper.upon_enter]
  refine hc.mono fun e w' hh => ?_
  obtain ⟨rfl, rfl⟩ := hh
  exact h
set_option maxRecDepth 100000 in
set_option maxHeartbeats 4000000 in
theorem Jx.escape (s : ByteArray) (w : World) (hs : s.size ≤ 1099511627776) :
    Calls Tryz.prog 67 #[.string s] w fun e w' => e = .returned (.string ⟨(Js.esc s.data.toList).toArray⟩) ∧ Below w.heap.size w w' := by
  have nm := Sz.norm s w (by omega)
  have HNL : Hid ((Pl.normL s.data.toList).length ≤ 3298534883328) := by
    have := Pl.norm_short s.data.toList
    rw [Wk.len_data] at this
    unfold Hid
    omega
  unfold Js.esc
  generalize Pl.normL s.data.toList = L at *
  obtain ⟨T, hT⟩ : ∃ T : ByteArray, T = ⟨L.toArray⟩ := ⟨_, rfl⟩
  have hTL : T.data.toList = L := by rw [hT]
  rw [← hT] at nm
  rw [← hTL] at HNL ⊢
  rw [Wk.len_data] at HNL
  have hT63 : T.size ≤ 9223372036854775000 := by have := HNL.out; omega
  clear hT hTL hs
  obtain ⟨RR, hRR⟩ : ∃ RR, Js.escS T.data.toList = RR := ⟨_, rfl⟩
  rw [hRR]
  have HRR := Lib.hid hRR
  have HRL : Hid (RR.length ≤ 19791209299968) := by
    have h1 := Js.escK_len 0 T.data.toList
    rw [Wk.len_data] at h1
    have h2 := HNL.out
    unfold Hid
    rw [← hRR]
    show (Js.escK 0 T.data.toList).length ≤ _
    omega
  clear hRR
  have let1 := fun c u => Rt.letter c u
  have dig1 := fun c u => Rt.digit c u
  have in1 := fun c u => Qr.in c ⟨#[32, 33, 35, 36, 37, 40, 41, 42, 43, 44, 45, 46, 47, 58, 59, 61, 63, 64, 91, 93, 94, 95, 123, 124, 125, 126]⟩ u (by decide)
  go_enter Tryz.func67, Tryz.ntmps67
  go_wp2_with (go_at_call 30; refine nm.mono ?_; rintro e w1 ⟨rfl, b1⟩; have HB1 := Lib.hid b1; clear b1 nm)
  go_loopw [4, 5] (fun ov ix wr => ∃ (i : Nat) (acc : List UInt8), i ≤ T.size ∧ ix = .int .i64 (i : Int) ∧ Hid (acc ++ Js.escS (T.data.toList.drop i) = RR) ∧ Hid (wr.ownsRow w.heap.size 5 1 ov acc.length (Lib.byteCells acc)) ∧ Hid (Below w.heap.size w wr)) (fun _ ix _ => T.size - (intOf ix).toNat)
  case atStart => exact ⟨0, [], Nat.zero_le _, rfl, HRR, World.ownsRow_nil _ _ _ _, HB1⟩
  case round =>
    clear HB1
    obtain ⟨i, acc, hi, rfl, HA, HO, HB⟩ := hrel
    obtain ⟨oa, od, rfl⟩ := Rb.form HO.out
    have HAL : Hid (acc.length ≤ 19791209299968) := by
      have h1 := HRL.out
      rw [← HA.out, List.length_append] at h1
      unfold Hid
      omega
    have HN1 : Hid (acc.length + 1 ≤ 140737488355328) := by have := HAL.out; unfold Hid; omega
    have hws := HB.out.size
    by_cases hlt : i < T.size
    · have d1 : decide ((i : Int) < (T.size : Int)) = true := decide_eq_true (by omega)
      have HD := Lib.hid (Jx.drop hlt)
      have let1 := let1 T[i]
      have dig1 := dig1 T[i]
      have in1 : ∀ u, Calls Tryz.prog 97 #[.int .u8 (T[i].toNat : Int), .string ⟨#[32, 33, 35, 36, 37, 40, 41, 42, 43, 44, 45, 46, 47, 58, 59, 61, 63, 64, 91, 93, 94, 95, 123, 124, 125, 126]⟩] u fun e w' => e = .returned (.bool (Js.signs.contains T[i])) ∧ w' = u := in1 T[i]
      have HST : Hid (Js.stays T[i] = (Pl.letter T[i] || Pl.digit T[i] || Js.signs.contains T[i])) := rfl
      have hlow := Js.stays_low T[i]
      generalize Pl.letter T[i] = bl at *
      generalize Pl.digit T[i] = bd at *
      generalize Js.signs.contains T[i] = bi at *
      by_cases hst : Js.stays T[i] = true
      · have HA2 : Hid ((acc ++ [T[i]]) ++ Js.escS (T.data.toList.drop (i + 1)) = RR) := by
          unfold Hid
          rw [← HA.out, HD.out, Js.escS_byte (Js.line_not (fun q => by have := (hlow hst).2.2.2.2; rw [q] at this; exact absurd this (by decide)) _), show Js.byte T[i] = [T[i]] from if_pos (.inl hst), List.append_assoc]
        rw [HST.out] at hst
        clear HST HD hlow HA
        have hc : bl = true ∨ (bl = false ∧ bd = true) ∨ (bl = false ∧ bd = false ∧ bi = true) := by cases bl <;> cases bd <;> cases bi <;> simp_all
        clear hst
        rcases hc with rfl | ⟨rfl, rfl⟩ | ⟨rfl, rfl, rfl⟩
        all_goals
          go_wp2_with (first | (go_at_call 96; refine (let1 _).mono ?_; rintro e w' ⟨rfl, hw⟩; have hw := hw.symm; subst hw) | (go_at_call 78; refine (dig1 _).mono ?_; rintro e w' ⟨rfl, hw⟩; have hw := hw.symm; subst hw) | (go_at_call 97; refine (in1 _).mono ?_; rintro e w' ⟨rfl, hw⟩; have hw := hw.symm; subst hw) | (at_builtin; refine Rb.push rfl _ _ rfl _ rfl (HO.out.alloc _) wr.heap.size [T[i]] 1 rfl rfl (Rb.new wr #[.int .u8 (T[i].toNat : Int)] 5 _ rfl) HN1.out (by have := HB.out.size; simp; omega) ?_; intro v5 w5 R5 hg5; have HB5 : Hid (Below w.heap.size w w5) := (HB.out.alloc HB.out.size _).grown hg5 (by have := HB.out.size; simp; omega) (fun k hk => (HO.out.lt k hk).1); have HR5 := Lib.hid R5; clear R5 hg5))
          go_roundw
          case rel => exact ⟨i + 1, _, by omega, by go_num, HA2, HR5, HB5⟩
          case measure => simp [intOf]; omega
      · have hst := Bool.eq_false_iff.2 hst
        obtain ⟨rfl, rfl, rfl⟩ := Jx.three (hst.symm.trans HST.out)
        clear HST hlow
        by_cases h128 : T[i].toNat < 128
        · have d2 : decide ((T[i].toNat : Int) < 128) = true := decide_eq_true (by omega)
          obtain ⟨A, hA⟩ : ∃ A : Nat, A = T[i].toNat / 16 := ⟨_, rfl⟩
          obtain ⟨B, hB⟩ : ∃ B : Nat, B = T[i].toNat % 16 := ⟨_, rfl⟩
          obtain ⟨acc4, hacc4⟩ : ∃ l, l = acc ++ [92, 117, 48, 48] := ⟨_, rfl⟩
          have HC4 := Lib.hid hacc4
          have HA2 : Hid ((acc4 ++ [Js.hex A, Js.hex B]) ++ Js.escS (T.data.toList.drop (i + 1)) = RR) := by
            unfold Hid
            rw [hacc4, ← HA.out, HD.out, Js.escS_byte (Js.line_not (fun q => by rw [q] at h128; exact absurd h128 (by decide)) _), show Js.byte T[i] = [92, 117, 48, 48, Js.hex (T[i].toNat / 16), Js.hex (T[i].toNat % 16)] from if_neg (fun o => o.elim (fun q => by rw [hst] at q; cases q) (fun q => by omega)), ← hA, ← hB]
            simp
          have hA16 : A < 16 := by omega
          have hB16 : B < 16 := by omega
          have e15 := Jx.and15 T[i]
          have eA : (T[i].toNat : Int) / 16 = (A : Int) := by omega
          have eB : (T[i].toNat : Int) % 16 = (B : Int) := by omega
          rw [eB] at e15
          have xA : ∀ h : A < 16, (⟨#[48, 49, 50, 51, 52, 53, 54, 55, 56, 57, 65, 66, 67, 68, 69, 70]⟩ : ByteArray)[A]'h = Jx.up A := fun h => Jx.dig A hA16 h
          have xB : ∀ h : B < 16, (⟨#[48, 49, 50, 51, 52, 53, 54, 55, 56, 57, 65, 66, 67, 68, 69, 70]⟩ : ByteArray)[B]'h = Jx.up B := fun h => Jx.dig B hB16 h
          have oA := Jx.or32 A hA16
          have lw := fun u => Sz.low (Jx.up B) u
          rw [Jx.small B hB16] at lw
          have HN4 : Hid (acc.length + 4 ≤ 140737488355328) := by have := HAL.out; unfold Hid; omega
          have HN6 : Hid (acc4.length + 2 ≤ 140737488355328) := by have := HAL.out; unfold Hid; rw [hacc4]; simp; omega
          have hAi : (A : Int) < 16 := by omega
          have hBi : (B : Int) < 16 := by omega
          clear HA HD hA hB eB hst hacc4
          go_upto_region 12 with (first | (go_at_call 96; refine (let1 _).mono ?_; rintro e w' ⟨rfl, hw⟩; have hw := hw.symm; subst hw) | (go_at_call 78; refine (dig1 _).mono ?_; rintro e w' ⟨rfl, hw⟩; have hw := hw.symm; subst hw) | (go_at_call 97; refine (in1 _).mono ?_; rintro e w' ⟨rfl, hw⟩; have hw := hw.symm; subst hw) | (at_builtin; refine Jx.pushS rfl _ _ rfl _ rfl HO.out ⟨#[92, 117, 48, 48]⟩ rfl HN4.out hws ?_; intro v4 w4 R4 hg4; replace R4 : w4.ownsRow w.heap.size 5 1 v4 acc4.length (Lib.byteCells acc4) := (by rw [HC4.out]; exact R4); obtain ⟨oa4, od4, rfl⟩ := Rb.form R4; have HB4 : Hid (Below w.heap.size w w4) := HB.out.grown hg4 hws (fun k hk => (HO.out.lt k hk).1); have HR4 := Lib.hid R4; clear R4 hg4))
          have hw4 := HB4.out.size
          go_region_law (first | (refine Rb.call rfl 79 #[.int .u8 ((Jx.up B).toNat : Int)] ?hr _ (lw _) ?_; case hr => go_simp) | (refine Rb.step rfl (.tmp 42) (.tmp 51) rfl (.slice oa4 acc4.length od4) (by rfl) (HR4.out.alloc _) w4.heap.size [Js.hex A, Js.hex B] 2 rfl (by rfl) (Rb.new w4.drew #[.int .u8 ((Js.hex A).toNat : Int), .int .u8 ((Js.hex B).toNat : Int)] 5 _ rfl) HN6.out (by first | omega | (simp; omega)) ?_; intro v5 w5 R5 hg5; have HB5 : Hid (Below w.heap.size w w5) := (HB4.out.drew.alloc hw4 _).grown hg5 (by simp; omega) (fun k hk => (HR4.out.lt k hk).1); have HR5 := Lib.hid R5; clear R5 hg5) | fail)
          all_goals
            go_wp2
            go_roundw
            case rel => exact ⟨i + 1, _, by omega, by go_num, HA2, HR5, HB5⟩
            case measure => simp [intOf]; omega
        · have d2 : decide ((T[i].toNat : Int) < 128) = false := decide_eq_false (by omega)
          have f226 : ((T[i].toNat : Int) == 226) = decide (T[i] = 226) := Jx.eq_dec _ 226
          by_cases hl : Js.line T[i] (T.data.toList.drop (i + 1)) = true
          · obtain ⟨h226, g1, g2, h1, h2⟩ := (Jx.line hlt).1 hl
            have HL := Lib.hid hl
            rw [decide_eq_true h226] at f226
            have f128 : ((T[i + 1].toNat : Int) == 128) = true := (Jx.eq_dec _ 128).trans (decide_eq_true h1)
            have d3 : decide ((i : Int) + 2 < (T.size : Int)) = true := decide_eq_true (by omega)
            obtain ⟨acc4, hacc4⟩ : ∃ l, l = acc ++ [92, 117, 50, 48, 50] := ⟨_, rfl⟩
            have HC4 := Lib.hid hacc4
            have HC5 := HC4
            have HN5 : Hid (acc.length + 5 ≤ 140737488355328) := by have := HAL.out; unfold Hid; omega
            have HN6 : Hid (acc4.length + 1 ≤ 140737488355328) := by have := HAL.out; unfold Hid; rw [hacc4]; simp; omega
            clear h226 hl h1 hacc4 hst h128
            rcases h2 with hx | hx
            · have e2 : (T[i + 2].toNat : Int) = 168 := by rw [hx]; rfl
              have HA2 : Hid ((acc4 ++ [56]) ++ Js.escS (T.data.toList.drop (i + 3)) = RR) := by
                unfold Hid
                rw [HC4.out, ← HA.out, HD.out, Js.escS_line HL.out, List.drop_drop]
                rw [show (T.data.toList.drop (i + 1)).getD 1 0 = 168 from by rw [List.getD_eq_getElem?_getD, List.getElem?_drop, Jx.at g2, hx]; rfl]
                simp
              clear HA HD HL hx HC5
              go_wp2_with (first | (go_at_call 96; refine (let1 _).mono ?_; rintro e w' ⟨rfl, hw⟩; have hw := hw.symm; subst hw) | (go_at_call 78; refine (dig1 _).mono ?_; rintro e w' ⟨rfl, hw⟩; have hw := hw.symm; subst hw) | (go_at_call 97; refine (in1 _).mono ?_; rintro e w' ⟨rfl, hw⟩; have hw := hw.symm; subst hw) | (at_builtin; refine Jx.pushS rfl _ _ rfl _ rfl HO.out ⟨#[92, 117, 50, 48, 50]⟩ rfl HN5.out hws ?_; intro v4 w4 R4 hg4; replace R4 : w4.ownsRow w.heap.size 5 1 v4 acc4.length (Lib.byteCells acc4) := (by rw [HC4.out]; exact R4); obtain ⟨oa4, od4, rfl⟩ := Rb.form R4; have HB4 : Hid (Below w.heap.size w w4) := HB.out.grown hg4 hws (fun k hk => (HO.out.lt k hk).1); have HR4 := Lib.hid R4; clear R4 hg4) | (at_builtin; refine Rb.push rfl _ _ rfl _ rfl (HR4.out.alloc _) w4.heap.size [56] 1 rfl rfl (Rb.new w4 #[.int .u8 56] 5 _ rfl) HN6.out (by have := HB4.out.size; simp; omega) ?_; intro v5 w5 R5 hg5; have HB5 : Hid (Below w.heap.size w w5) := (HB4.out.alloc HB4.out.size _).grown hg5 (by have := HB4.out.size; simp; omega) (fun k hk => (HR4.out.lt k hk).1); have HR5 := Lib.hid R5; clear R5 hg5))
              go_roundw
              case rel => exact ⟨i + 3, _, by omega, by go_num, HA2, HR5, HB5⟩
              case measure => simp [intOf]; omega
            · have e2 : (T[i + 2].toNat : Int) = 169 := by rw [hx]; rfl
              have HA2 : Hid ((acc4 ++ [57]) ++ Js.escS (T.data.toList.drop (i + 3)) = RR) := by
                unfold Hid
                rw [HC4.out, ← HA.out, HD.out, Js.escS_line HL.out, List.drop_drop]
                rw [show (T.data.toList.drop (i + 1)).getD 1 0 = 169 from by rw [List.getD_eq_getElem?_getD, List.getElem?_drop, Jx.at g2, hx]; rfl]
                simp
              clear HA HD HL hx HC5
              go_wp2_with (first | (go_at_call 96; refine (let1 _).mono ?_; rintro e w' ⟨rfl, hw⟩; have hw := hw.symm; subst hw) | (go_at_call 78; refine (dig1 _).mono ?_; rintro e w' ⟨rfl, hw⟩; have hw := hw.symm; subst hw) | (go_at_call 97; refine (in1 _).mono ?_; rintro e w' ⟨rfl, hw⟩; have hw := hw.symm; subst hw) | (at_builtin; refine Jx.pushS rfl _ _ rfl _ rfl HO.out ⟨#[92, 117, 50, 48, 50]⟩ rfl HN5.out hws ?_; intro v4 w4 R4 hg4; replace R4 : w4.ownsRow w.heap.size 5 1 v4 acc4.length (Lib.byteCells acc4) := (by rw [HC4.out]; exact R4); obtain ⟨oa4, od4, rfl⟩ := Rb.form R4; have HB4 : Hid (Below w.heap.size w w4) := HB.out.grown hg4 hws (fun k hk => (HO.out.lt k hk).1); have HR4 := Lib.hid R4; clear R4 hg4) | (at_builtin; refine Rb.push rfl _ _ rfl _ rfl (HR4.out.alloc _) w4.heap.size [57] 1 rfl rfl (Rb.new w4 #[.int .u8 57] 5 _ rfl) HN6.out (by have := HB4.out.size; simp; omega) ?_; intro v5 w5 R5 hg5; have HB5 : Hid (Below w.heap.size w w5) := (HB4.out.alloc HB4.out.size _).grown hg5 (by have := HB4.out.size; simp; omega) (fun k hk => (HR4.out.lt k hk).1); have HR5 := Lib.hid R5; clear R5 hg5))
              go_roundw
              case rel => exact ⟨i + 3, _, by omega, by go_num, HA2, HR5, HB5⟩
              case measure => simp [intOf]; omega
          · have hl := Bool.eq_false_iff.2 hl
            have HA2 : Hid ((acc ++ [T[i]]) ++ Js.escS (T.data.toList.drop (i + 1)) = RR) := by
              unfold Hid
              rw [← HA.out, HD.out, Js.escS_byte hl, Js.byte_high (by omega), List.append_assoc]
            have hno : T[i] ≠ 226 ∨ (T[i] = 226 ∧ ¬ i + 2 < T.size) ∨ (T[i] = 226 ∧ ∃ (g1 : i + 1 < T.size) (g2 : i + 2 < T.size), T[i + 1] ≠ 128 ∨ (T[i + 1] = 128 ∧ T[i + 2] ≠ 168 ∧ T[i + 2] ≠ 169)) := by
              by_cases h226 : T[i] = 226
              · by_cases g2 : i + 2 < T.size
                · refine .inr (.inr ⟨h226, by omega, g2, ?_⟩)
                  by_cases h1 : T[i + 1] = 128
                  · refine .inr ⟨h1, fun q => ?_, fun q => ?_⟩
                    · rw [(Jx.line hlt).2 ⟨h226, by omega, g2, h1, .inl q⟩] at hl
                      cases hl
                    · rw [(Jx.line hlt).2 ⟨h226, by omega, g2, h1, .inr q⟩] at hl
                      cases hl
                  · exact .inl h1
                · exact .inr (.inl ⟨h226, g2⟩)
              · exact .inl h226
            clear HA HD hl hst h128
            rcases hno with h | ⟨h, g2⟩ | ⟨h, g1, g2, h1 | ⟨h1, h2, h3⟩⟩
            · rw [decide_eq_false h] at f226
              clear h
              go_wp2_with (first | (go_at_call 96; refine (let1 _).mono ?_; rintro e w' ⟨rfl, hw⟩; have hw := hw.symm; subst hw) | (go_at_call 78; refine (dig1 _).mono ?_; rintro e w' ⟨rfl, hw⟩; have hw := hw.symm; subst hw) | (go_at_call 97; refine (in1 _).mono ?_; rintro e w' ⟨rfl, hw⟩; have hw := hw.symm; subst hw) | (at_builtin; refine Rb.push rfl _ _ rfl _ rfl (HO.out.alloc _) wr.heap.size [T[i]] 1 rfl rfl (Rb.new wr #[.int .u8 (T[i].toNat : Int)] 5 _ rfl) HN1.out (by have := HB.out.size; simp; omega) ?_; intro v5 w5 R5 hg5; have HB5 : Hid (Below w.heap.size w w5) := (HB.out.alloc HB.out.size _).grown hg5 (by have := HB.out.size; simp; omega) (fun k hk => (HO.out.lt k hk).1); have HR5 := Lib.hid R5; clear R5 hg5))
              go_roundw
              case rel => exact ⟨i + 1, _, by omega, by go_num, HA2, HR5, HB5⟩
              case measure => simp [intOf]; omega
            · rw [decide_eq_true h] at f226
              have d3 : decide ((i : Int) + 2 < (T.size : Int)) = false := decide_eq_false (by omega)
              clear h
              go_wp2_with (first | (go_at_call 96; refine (let1 _).mono ?_; rintro e w' ⟨rfl, hw⟩; have hw := hw.symm; subst hw) | (go_at_call 78; refine (dig1 _).mono ?_; rintro e w' ⟨rfl, hw⟩; have hw := hw.symm; subst hw) | (go_at_call 97; refine (in1 _).mono ?_; rintro e w' ⟨rfl, hw⟩; have hw := hw.symm; subst hw) | (at_builtin; refine Rb.push rfl _ _ rfl _ rfl (HO.out.alloc _) wr.heap.size [T[i]] 1 rfl rfl (Rb.new wr #[.int .u8 (T[i].toNat : Int)] 5 _ rfl) HN1.out (by have := HB.out.size; simp; omega) ?_; intro v5 w5 R5 hg5; have HB5 : Hid (Below w.heap.size w w5) := (HB.out.alloc HB.out.size _).grown hg5 (by have := HB.out.size; simp; omega) (fun k hk => (HO.out.lt k hk).1); have HR5 := Lib.hid R5; clear R5 hg5))
              go_roundw
              case rel => exact ⟨i + 1, _, by omega, by go_num, HA2, HR5, HB5⟩
              case measure => simp [intOf]; omega
            · rw [decide_eq_true h] at f226
              have d3 : decide ((i : Int) + 2 < (T.size : Int)) = true := decide_eq_true (by omega)
              have f128 : ((T[i + 1].toNat : Int) == 128) = false := (Jx.eq_dec _ 128).trans (decide_eq_false h1)
              clear h h1
              go_wp2_with (first | (go_at_call 96; refine (let1 _).mono ?_; rintro e w' ⟨rfl, hw⟩; have hw := hw.symm; subst hw) | (go_at_call 78; refine (dig1 _).mono ?_; rintro e w' ⟨rfl, hw⟩; have hw := hw.symm; subst hw) | (go_at_call 97; refine (in1 _).mono ?_; rintro e w' ⟨rfl, hw⟩; have hw := hw.symm; subst hw) | (at_builtin; refine Rb.push rfl _ _ rfl _ rfl (HO.out.alloc _) wr.heap.size [T[i]] 1 rfl rfl (Rb.new wr #[.int .u8 (T[i].toNat : Int)] 5 _ rfl) HN1.out (by have := HB.out.size; simp; omega) ?_; intro v5 w5 R5 hg5; have HB5 : Hid (Below w.heap.size w w5) := (HB.out.alloc HB.out.size _).grown hg5 (by have := HB.out.size; simp; omega) (fun k hk => (HO.out.lt k hk).1); have HR5 := Lib.hid R5; clear R5 hg5))
              go_roundw
              case rel => exact ⟨i + 1, _, by omega, by go_num, HA2, HR5, HB5⟩
              case measure => simp [intOf]; omega
            · rw [decide_eq_true h] at f226
              have d3 : decide ((i : Int) + 2 < (T.size : Int)) = true := decide_eq_true (by omega)
              have f128 : ((T[i + 1].toNat : Int) == 128) = true := (Jx.eq_dec _ 128).trans (decide_eq_true h1)
              have f168 : ((T[i + 2].toNat : Int) == 168) = false := (Jx.eq_dec _ 168).trans (decide_eq_false h2)
              have f169 : ((T[i + 2].toNat : Int) == 169) = false := (Jx.eq_dec _ 169).trans (decide_eq_false h3)
              clear h h1 h2 h3
              go_wp2_with (first | (go_at_call 96; refine (let1 _).mono ?_; rintro e w' ⟨rfl, hw⟩; have hw := hw.symm; subst hw) | (go_at_call 78; refine (dig1 _).mono ?_; rintro e w' ⟨rfl, hw⟩; have hw := hw.symm; subst hw) | (go_at_call 97; refine (in1 _).mono ?_; rintro e w' ⟨rfl, hw⟩; have hw := hw.symm; subst hw) | (at_builtin; refine Rb.push rfl _ _ rfl _ rfl (HO.out.alloc _) wr.heap.size [T[i]] 1 rfl rfl (Rb.new wr #[.int .u8 (T[i].toNat : Int)] 5 _ rfl) HN1.out (by have := HB.out.size; simp; omega) ?_; intro v5 w5 R5 hg5; have HB5 : Hid (Below w.heap.size w w5) := (HB.out.alloc HB.out.size _).grown hg5 (by have := HB.out.size; simp; omega) (fun k hk => (HO.out.lt k hk).1); have HR5 := Lib.hid R5; clear R5 hg5))
              go_roundw
              case rel => exact ⟨i + 1, _, by omega, by go_num, HA2, HR5, HB5⟩
              case measure => simp [intOf]; omega
    · have d1 : decide ((i : Int) < (T.size : Int)) = false := decide_eq_false (by omega)
      have hcv := Rn.conv HO.out
      have q : acc = RR := by
        rw [← HA.out, List.drop_of_length_le (by rw [Wk.len_data]; omega), Js.escS_nil, List.append_nil]
      subst q
      clear let1 dig1 in1 HA HRR
      go_wp2
      go_ret
      exact ⟨rfl, HB.out⟩
end Go.Proofs.YtboalkfagfgnpaaGreatDoor
/-
  THE WALK of stoleref1.quoted.
-/
namespace Go.Proofs.YtboalkfagfgnpaaGreatDoor
open Go.RowKit
/-- what a call leaves: all below the base, and all blocks that are no row of bytes -/
structure Jx.Kept (base : Nat) (w w' : World) : Prop where
  back : Below base w w'
  rest : Lib.OthersKept 5 none w w'
theorem Jx.Kept.refl (base : Nat) (w : World) : Jx.Kept base w w := ⟨Below.refl _ _, Lib.OthersKept.refl _ _ _⟩
theorem Jx.Kept.trans {base : Nat} {a b c : World} (h : Jx.Kept base a b) (k : Jx.Kept base b c) : Jx.Kept base a c := ⟨h.back.trans k.back, h.rest.trans k.rest⟩
theorem Jx.Kept.drew {base : Nat} {a b : World} (h : Jx.Kept base a b) : Jx.Kept base a b.drew := ⟨h.back.drew, h.rest.drew⟩
theorem Jx.Kept.alloc {base : Nat} {a b : World} (h : Jx.Kept base a b) (hb : base ≤ b.heap.size) (o : Obj) : Jx.Kept base a (b.alloc o) := ⟨h.back.alloc hb o, h.rest.alloc o⟩
theorem Jx.Kept.more {base : Nat} {a b c : World} (h : Jx.Kept base a b) (hb : base ≤ b.heap.size) (k : Below b.heap.size b c) : Jx.Kept base a c :=
  ⟨h.back.trans (k.mono hb), h.rest.trans fun i _ hi _ _ => (k.block i (Array.getElem?_eq_some_iff.1 hi).1).trans hi⟩
theorem Jx.Kept.grown {base : Nat} {a b c : World} (h : Jx.Kept base a b) {v : Value} {n : Nat} {xs : List Value} (ho : b.ownsRow base 5 1 v n xs) (hb : base ≤ b.heap.size) (k : b.grownBy c v.ownBlock) : Jx.Kept base a c :=
  ⟨h.back.grown k hb (fun g hg => (ho.lt g hg).1), h.rest.grown k fun g hg => by
    rcases ho.2 with ⟨rfl, _⟩ | ⟨g', cap, cur, rfl, _, hgg, _⟩
    · simp [Value.ownBlock] at hg
    · simp [Value.ownBlock] at hg
      subst hg
      exact ⟨cur, _, hgg⟩⟩
theorem Jx.on {w w' : World} {base n : Nat} {v : Value} {xs : List Value} (h : w.ownsRow base 5 1 v n xs) (hb : Below w.heap.size w w') : w'.ownsRow base 5 1 v n xs :=
  h.kept (row := none) ⟨hb.os, hb.tape, hb.output, hb.size, fun k hk _ => hb.block k hk⟩ (Classical.em _)
set_option maxRecDepth 100000 in
set_option maxHeartbeats 4000000 in
theorem Jx.quoted (s : ByteArray) (base : Nat) (acc : List UInt8) (v : Value) (w : World) (hs : s.size ≤ 1048576) (hacc : acc.length ≤ 1099511627776) (hb : base ≤ w.heap.size) (hown : w.ownsRow base 5 1 v acc.length (Lib.byteCells acc)) :
    Calls Tryz.prog 45 #[v, .string s] w fun e w' => ∃ v', e = .returned v' ∧ w'.ownsRow base 5 1 v' (acc ++ Js.quoted s.data.toList).length (Lib.byteCells (acc ++ Js.quoted s.data.toList)) ∧ Jx.Kept base w w' := by
  have es := fun u => Jx.escape s u (by omega)
  obtain ⟨E, hE⟩ : ∃ E : ByteArray, E = ⟨(Js.esc s.data.toList).toArray⟩ := ⟨_, rfl⟩
  rw [← hE] at es
  have hEl : E.data.toList = Js.esc s.data.toList := by rw [hE]
  have hEs : E.size ≤ 18874368 := by
    have := Js.esc_len s.data.toList
    rw [← hEl, Wk.len_data, Wk.len_data] at this
    omega
  clear hE
  obtain ⟨oa, od, rfl⟩ := Rb.form hown
  have HO := Lib.hid hown
  have HEL := Lib.hid hEl
  obtain ⟨acc1, hacc1⟩ : ∃ l, l = acc ++ [34] := ⟨_, rfl⟩
  obtain ⟨acc2, hacc2⟩ : ∃ l, l = acc1 ++ E.data.toList := ⟨_, rfl⟩
  have HC1 := Lib.hid hacc1
  have HC2 := Lib.hid hacc2
  have HQ : Hid (acc2 ++ [34] = acc ++ Js.quoted s.data.toList) := by
    unfold Hid Js.quoted
    rw [hacc2, hacc1, hEl]
    simp
  have HN1 : Hid (acc.length + 1 ≤ 140737488355328) := by unfold Hid; omega
  have HN2 : Hid (acc1.length + E.size ≤ 140737488355328) := by unfold Hid; rw [hacc1]; simp; omega
  have HN3 : Hid (acc2.length + 1 ≤ 140737488355328) := by unfold Hid; rw [hacc2, hacc1]; simp; omega
  have HB0 := Lib.hid (Jx.Kept.refl base w)
  clear hown hEl hacc1 hacc2
  go_enter Tryz.func45, Tryz.ntmps45
  go_wp2_with (first | (at_builtin; refine Rb.push rfl _ _ rfl _ rfl (HO.out.alloc _) w.heap.size [34] 1 rfl rfl (Rb.new w #[.int .u8 34] 5 _ rfl) HN1.out (by simp; omega) ?_; intro v1 w1 R1 hg1; have HB1 : Hid (Jx.Kept base w w1) := (HB0.out.alloc hb _).grown (HO.out.alloc _) (by simp; omega) hg1; replace R1 : w1.ownsRow base 5 1 v1 acc1.length (Lib.byteCells acc1) := (by rw [HC1.out]; exact R1); obtain ⟨oa1, od1, rfl⟩ := Rb.form R1; have HR1 := Lib.hid R1; clear R1 hg1; have hb1 := Nat.le_trans hb HB1.out.back.size) | (go_at_call 67; refine (es _).mono ?_; rintro e w2 ⟨rfl, b2⟩; have HR2 := Lib.hid (Jx.on HR1.out b2); have HB2 := Lib.hid (HB1.out.more hb1 b2); have hb2 := Nat.le_trans hb1 b2.size; clear b2) | (at_builtin; refine Jx.pushS rfl _ _ rfl _ rfl HR2.out E rfl HN2.out hb2 ?_; intro v3 w3 R3 hg3; replace R3 : w3.ownsRow base 5 1 v3 acc2.length (Lib.byteCells acc2) := (by rw [HC2.out]; exact R3); obtain ⟨oa3, od3, rfl⟩ := Rb.form R3; have HB3 : Hid (Jx.Kept base w w3) := HB2.out.grown HR2.out hb2 hg3; have HR3 := Lib.hid R3; have hb3 := Nat.le_trans hb HB3.out.back.size; clear R3 hg3) | (at_builtin; refine Rb.push rfl _ _ rfl _ rfl (HR3.out.alloc _) w3.heap.size [34] 1 rfl rfl (Rb.new w3 #[.int .u8 34] 5 _ rfl) HN3.out (by simp; omega) ?_; intro v4 w4 R4 hg4; have HB4 : Hid (Jx.Kept base w w4) := (HB3.out.alloc hb3 _).grown (HR3.out.alloc _) (by simp; omega) hg4; replace R4 : w4.ownsRow base 5 1 v4 (acc ++ Js.quoted s.data.toList).length (Lib.byteCells (acc ++ Js.quoted s.data.toList)) := (by rw [← HQ.out]; exact R4); have HR4 := Lib.hid R4; clear R4 hg4))
  go_ret
  exact ⟨_, rfl, HR4.out, HB4.out⟩
end Go.Proofs.YtboalkfagfgnpaaGreatDoor
/-
  THE WALKS of the reference's text and Text.
-/
namespace Go.Proofs.YtboalkfagfgnpaaGreatDoor
open Go.RowKit

set_option maxRecDepth 100000 in
set_option maxHeartbeats 4000000 in
theorem Rv.tell (k x : Int) (b : Nat) (s : ByteArray) (n : Nat) (it : Nat → Vt) (m : Nat) (ks : Nat → ByteArray) (v : Value) (w : World) (h : (Vt.mk k x b s n it m ks).Lies w (· < w.heap.size) v) (hm : (Vt.mk k x b s n it m ks).may = true) :
    Calls Tryz.prog 46 #[v] w fun e w' => e = .returned (.tuple #[.string (Vt.mk k x b s n it m ks).told.1, .bool ((Vt.mk k x b s n it m ks).told.2 == 0)]) ∧ Below w.heap.size w w' := by
  have HF := Vt.formed_of hm
  have HT : Hid ((Vt.mk k x b s n it m ks).told = (if k = 0 then (⟨#[]⟩, 0) else if k = 1 then (if x = 1 then ⟨#[116, 114, 117, 101]⟩ else ⟨#[102, 97, 108, 115, 101]⟩, 0) else if k = 2 then (⟨(Lib.itoa x).toArray⟩, 0) else if k = 3 then (⟨(Re.text b).toArray⟩, 0) else if k = 4 then (s, 0) else (⟨#[]⟩, 402))) := by
    unfold Hid
    rw [Vt.told, hm, if_pos rfl]
  obtain ⟨ai, c, ak, d, rfl, hb, hn, hc, _, _⟩ := h
  generalize hz : (Vt.mk k x b s n it m ks).told = Z at *
  clear hz hm
  have hA := fun o => (Below.refl w.heap.size w).alloc (Nat.le_refl _) o
  by_cases k0 : k = 0
  · subst k0
    go_enter Tryz.func46, Tryz.ntmps46
    go_wp2
    go_ret2
    rw [HT.out]
    exact ⟨rfl, hA _⟩
  by_cases k1 : k = 1
  · subst k1
    by_cases hx : x = 1
    · subst hx
      go_enter Tryz.func46, Tryz.ntmps46
      go_wp2
      go_ret2
      rw [HT.out]
      exact ⟨rfl, hA _⟩
    · have d1 : (x == 1) = false := beq_eq_false_iff_ne.2 hx
      have HX := Lib.hid hx
      clear hx
      go_enter Tryz.func46, Tryz.ntmps46
      go_wp2
      go_ret2
      rw [HT.out, if_neg HX.out]
      exact ⟨rfl, hA _⟩
  by_cases k2 : k = 2
  · subst k2
    have hr : -9007199254740991 ≤ x ∧ x ≤ 9007199254740991 := by
      simp [Vt.formed] at HF
      exact ⟨HF.1.1.1.1.1, HF.1.1.1.1.2⟩
    clear HF
    go_enter Tryz.func46, Tryz.ntmps46
    go_wp2_with fail
    refine (Rs.number x (by omega) (by omega) _).mono ?_
    rintro e w2 ⟨rfl, hb2⟩
    have hb3 := Vm.behind hb2
    clear hb2
    go_wp2
    go_ret2
    rw [HT.out]
    exact ⟨rfl, hb3⟩
  by_cases k3 : k = 3
  · subst k3
    clear HF
    go_enter Tryz.func46, Tryz.ntmps46
    go_wp2_with fail
    refine (Rs.text b hb _).mono ?_
    rintro e w2 ⟨rfl, hb2⟩
    have hb3 := Vm.behind hb2
    clear hb2
    go_wp2
    go_ret2
    rw [HT.out]
    exact ⟨rfl, hb3⟩
  by_cases k4 : k = 4
  · subst k4
    clear HF
    go_enter Tryz.func46, Tryz.ntmps46
    go_wp2
    go_ret2
    rw [HT.out]
    exact ⟨rfl, hA _⟩
  have d0 : (k == 0) = false := beq_eq_false_iff_ne.2 k0
  have d1 : (k == 1) = false := beq_eq_false_iff_ne.2 k1
  have d2 : (k == 2) = false := beq_eq_false_iff_ne.2 k2
  have d3 : (k == 3) = false := beq_eq_false_iff_ne.2 k3
  have d4 : (k == 4) = false := beq_eq_false_iff_ne.2 k4
  have HE : Hid (Z = (⟨#[]⟩, 402)) := by
    have := HT.out
    rw [if_neg k0, if_neg k1, if_neg k2, if_neg k3, if_neg k4] at this
    exact this
  clear HT HF
  go_enter Tryz.func46, Tryz.ntmps46
  go_wp2
  go_ret2
  rw [HE.out]
  exact ⟨rfl, hA _⟩
end Go.Proofs.YtboalkfagfgnpaaGreatDoor

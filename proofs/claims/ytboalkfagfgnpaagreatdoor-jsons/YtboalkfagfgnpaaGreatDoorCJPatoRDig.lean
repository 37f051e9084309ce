/-
  THE REFERENCE's READER in memory; the walks of blanks, is, word.
-/
import Derived.Test.YtboalkfagfgnpaaGreatDoorCJRgtoJRj
import Derived.Test.YtboalkfagfgnpaaGreatDoorCRToktoQPlain
import Derived.Test.YtboalkfagfgnpaaGreatDoorProg
import Derived.WalkKit
import Derived.BigCall
import Derived.Laws.Runes
namespace Go.Proofs.YtboalkfagfgnpaaGreatDoor
open Go.RowKit
/-- the reader's three cells: its text, the place behind which l stands, and whether it is bad -/
def Jp.Rd (w : World) (g : Nat) (T : ByteArray) (l : List UInt8) (bad : Bool) : Prop :=
  ∃ i : Nat, i ≤ T.size ∧ T.data.toList.drop i = l ∧ T.size ≤ 65536 ∧ Bs.Box w g #[.string T, .int .i64 (i : Int), .bool bad] 54
theorem Jp.Rd.lt {w : World} {g : Nat} {T : ByteArray} {l : List UInt8} {bad : Bool} (h : Jp.Rd w g T l bad) : g < w.heap.size := by
  obtain ⟨i, _, _, _, hB⟩ := h
  exact hB.lt
theorem Jp.Rd.on {w w' : World} {g : Nat} {T : ByteArray} {l : List UInt8} {bad : Bool} (h : Jp.Rd w g T l bad) (hb : w.grownBy w' none) : Jp.Rd w' g T l bad := by
  obtain ⟨i, h1, h2, h3, hB⟩ := h
  exact ⟨i, h1, h2, h3, (hb.block g hB.lt (by simp)).trans hB⟩
theorem Jp.Rd.below {w w' : World} {g B : Nat} {T : ByteArray} {l : List UInt8} {bad : Bool} (h : Jp.Rd w g T l bad) (hb : Below B w w') (hg : g < B) : Jp.Rd w' g T l bad := by
  obtain ⟨i, h1, h2, h3, hB⟩ := h
  exact ⟨i, h1, h2, h3, (hb.block g hg).trans hB⟩
theorem Jp.Rd.len {u : World} {g : Nat} {T : ByteArray} {l : List UInt8} {bad : Bool} (hR : Jp.Rd u g T l bad) : l.length ≤ 65536 := by
  obtain ⟨i, h1, h2, h3, hB⟩ := hR
  rw [← h2, List.length_drop, Wk.len_data]
  omega
theorem Jp.rem_eq {u : World} {g : Nat} {T : ByteArray} {l : List UInt8} {bad : Bool} (hR : Jp.Rd u g T l bad) : Jr.rem g T u = l.length := by
  obtain ⟨i, h1, h2, h3, hB⟩ := hR
  have c1 : u.cell? ⟨g, 1, none⟩ = some (.int .i64 (i : Int)) := hB.cell 1 rfl
  unfold Jr.rem
  rw [← h2, List.length_drop, Wk.len_data]
  simp only [c1]
  simp [intOf]
/-- n bytes on -/
theorem Jp.Rd.step {w w' : World} {g : Nat} {T : ByteArray} {i : Nat} {bad : Bool} (h3 : T.size ≤ 65536) (hB : Bs.Box w g #[.string T, .int .i64 (i : Int), .bool bad] 54) (hb : w.grownBy w' none) (n : Nat) (hn : i + n ≤ T.size) {r' : List UInt8} (hr : r' = T.data.toList.drop (i + n)) : Jp.Rd (w'.setCell ⟨g, 1, none⟩ (.int .i64 ((i : Int) + n))) g T r' bad := by
  have hB2 : Bs.Box w' g #[.string T, .int .i64 (i : Int), .bool bad] 54 := (hb.block g hB.lt (by simp)).trans hB
  refine ⟨i + n, hn, hr.symm, h3, ?_⟩
  have := hB2.set 1 (.int .i64 ((i : Int) + n))
  exact this
theorem Jp.Rd.step1 {w w' : World} {g : Nat} {T : ByteArray} {i : Nat} {bad : Bool} (h3 : T.size ≤ 65536) (hB : Bs.Box w g #[.string T, .int .i64 (i : Int), .bool bad] 54) (hb : w.grownBy w' none) (hn : i < T.size) {r' : List UInt8} (hr : r' = T.data.toList.drop (i + 1)) : Jp.Rd (w'.setCell ⟨g, 1, none⟩ (.int .i64 ((i : Int) + 1))) g T r' bad := Jp.Rd.step h3 hB hb 1 hn hr
/-- it is bad -/
theorem Jp.Rd.spoil {w : World} {g : Nat} {T : ByteArray} {l : List UInt8} {bad : Bool} (h : Jp.Rd w g T l bad) : Jp.Rd (w.setCell ⟨g, 2, none⟩ (.bool true)) g T l true := by
  obtain ⟨i, h1, h2, h3, hB⟩ := h
  exact ⟨i, h1, h2, h3, hB.set 2 (.bool true)⟩
set_option maxRecDepth 100000 in
set_option maxHeartbeats 4000000 in
theorem Jp.blanks (l : List UInt8) (bad : Bool) (g : Nat) (T : ByteArray) (w : World) (h : Jp.Rd w g T l bad) :
    Calls Tryz.prog 24 #[.pointer (some ⟨g, 0, none⟩)] w fun e w' => e = .returned (.tuple #[]) ∧ w.grownBy w' (some g) ∧ Jp.Rd w' g T (Js.ws l) bad := by
  obtain ⟨W, hW⟩ : ∃ W, Js.ws l = W := ⟨_, rfl⟩
  rw [hW]
  have HW := Lib.hid hW
  have HR := Lib.hid h
  clear hW h
  go_enter Tryz.func24, Tryz.ntmps24
  go_wp2_with fail
  go_loopw [] (fun wr => ∃ l' : List UInt8, Hid (Js.ws l' = W) ∧ Hid (Jp.Rd wr g T l' bad) ∧ Hid (w.grownBy wr (some g))) (fun wr => Jr.rem g T wr)
  case atStart => exact ⟨l, HW, HR, World.grownBy.refl _ _⟩
  case round =>
    clear HW HR
    obtain ⟨l', HW, HR, HG⟩ := hrel
    have HL := Lib.hid (Jp.rem_eq HR.out)
    obtain ⟨i, h1, h2, h3, hB⟩ := HR.out
    have c0 : wr.cell? ⟨g, 0, none⟩ = some (.string T) := hB.cell 0 rfl
    have c1 : wr.cell? ⟨g, 1, none⟩ = some (.int .i64 (i : Int)) := hB.cell 1 rfl
    have f1 := hB.frozen 1
    have HB := Lib.hid hB
    clear hB
    cases l' with
    | nil =>
      have e := Jr.at_end h1 h2
      have d1 : decide ((i : Int) < (T.size : Int)) = false := decide_eq_false (by omega)
      have d1n : decide (i < T.size) = false := decide_eq_false (by omega)
      clear h1 h2 e
      go_wp2_with fail
      go_quiet (fail)
      go_wp2
      go_end0
      refine ⟨rfl, Jr.grown_trans HG.out (Jr.grown_some (Jr.grown_drewN _ _) _), ?_⟩
      rw [← HW.out]
      exact HR.out.on (Jr.grown_drewN _ _)
    | cons c r =>
      obtain ⟨hlt, he, hr⟩ := Jr.at_byte h2
      have d1 : decide ((i : Int) < (T.size : Int)) = true := decide_eq_true (by omega)
      have d1n : decide (i < T.size) = true := decide_eq_true (by omega)
      have e32 : ((T[i].toNat : Int) == 32) = decide (c = 32) := by rw [he]; exact Jr.eq_dec c 32
      have e9 : ((T[i].toNat : Int) == 9) = decide (c = 9) := by rw [he]; exact Jr.eq_dec c 9
      have e10 : ((T[i].toNat : Int) == 10) = decide (c = 10) := by rw [he]; exact Jr.eq_dec c 10
      have e13 : ((T[i].toNat : Int) == 13) = decide (c = 13) := by rw [he]; exact Jr.eq_dec c 13
      have HRR := Lib.hid hr
      clear h1 h2 hr he
      by_cases hbl : Js.blank c = true
      · have HS : Hid (Js.ws r = W) := by
          have := HW.out
          unfold Js.ws at this ⊢
          rw [List.dropWhile_cons, if_pos hbl] at this
          exact this
        have hq : c = 32 ∨ (c ≠ 32 ∧ c = 9) ∨ (c ≠ 32 ∧ c ≠ 9 ∧ c = 10) ∨ (c ≠ 32 ∧ c ≠ 9 ∧ c ≠ 10 ∧ c = 13) := by
          unfold Js.blank at hbl
          simp only [Bool.or_eq_true, decide_eq_true_eq] at hbl
          by_cases q1 : c = 32
          · exact .inl q1
          · by_cases q2 : c = 9
            · exact .inr (.inl ⟨q1, q2⟩)
            · by_cases q3 : c = 10
              · exact .inr (.inr (.inl ⟨q1, q2, q3⟩))
              · exact .inr (.inr (.inr ⟨q1, q2, q3, by simpa [q1, q2, q3] using hbl⟩))
        clear hbl
        rcases hq with q1 | ⟨q1, q2⟩ | ⟨q1, q2, q3⟩ | ⟨q1, q2, q3, q4⟩
        · rw [decide_eq_true q1] at e32
          clear q1 e9 e10 e13
          go_wp2_with fail
          go_quiet (fail)
          go_wp2
          go_roundw
          case rel => exact ⟨r, HS, Jp.Rd.step1 h3 HB.out (Jr.grown_drewN _ _) hlt HRR.out.symm, Jr.grown_trans HG.out (Jr.grown_trans (Jr.grown_some (Jr.grown_drewN _ _) _) (Jr.grown_set _ _ _ _))⟩
          case measure => rw [Jp.rem_eq (Jp.Rd.step1 h3 HB.out (Jr.grown_drewN wr nq) hlt HRR.out.symm), HL.out]; exact Nat.lt_succ_self _
        · rw [decide_eq_false q1] at e32
          rw [decide_eq_true q2] at e9
          clear q1 q2 e10 e13
          go_wp2_with fail
          go_quiet (fail)
          go_wp2
          go_roundw
          case rel => exact ⟨r, HS, Jp.Rd.step1 h3 HB.out (Jr.grown_drewN _ _) hlt HRR.out.symm, Jr.grown_trans HG.out (Jr.grown_trans (Jr.grown_some (Jr.grown_drewN _ _) _) (Jr.grown_set _ _ _ _))⟩
          case measure => rw [Jp.rem_eq (Jp.Rd.step1 h3 HB.out (Jr.grown_drewN wr nq) hlt HRR.out.symm), HL.out]; exact Nat.lt_succ_self _
        · rw [decide_eq_false q1] at e32
          rw [decide_eq_false q2] at e9
          rw [decide_eq_true q3] at e10
          clear q1 q2 q3 e13
          go_wp2_with fail
          go_quiet (fail)
          go_wp2
          go_roundw
          case rel => exact ⟨r, HS, Jp.Rd.step1 h3 HB.out (Jr.grown_drewN _ _) hlt HRR.out.symm, Jr.grown_trans HG.out (Jr.grown_trans (Jr.grown_some (Jr.grown_drewN _ _) _) (Jr.grown_set _ _ _ _))⟩
          case measure => rw [Jp.rem_eq (Jp.Rd.step1 h3 HB.out (Jr.grown_drewN wr nq) hlt HRR.out.symm), HL.out]; exact Nat.lt_succ_self _
        · rw [decide_eq_false q1] at e32
          rw [decide_eq_false q2] at e9
          rw [decide_eq_false q3] at e10
          rw [decide_eq_true q4] at e13
          clear q1 q2 q3 q4
          go_wp2_with fail
          go_quiet (fail)
          go_wp2
          go_roundw
          case rel => exact ⟨r, HS, Jp.Rd.step1 h3 HB.out (Jr.grown_drewN _ _) hlt HRR.out.symm, Jr.grown_trans HG.out (Jr.grown_trans (Jr.grown_some (Jr.grown_drewN _ _) _) (Jr.grown_set _ _ _ _))⟩
          case measure => rw [Jp.rem_eq (Jp.Rd.step1 h3 HB.out (Jr.grown_drewN wr nq) hlt HRR.out.symm), HL.out]; exact Nat.lt_succ_self _
      · have HS : Hid (c :: r = W) := by
          have := HW.out
          unfold Js.ws at this
          rw [List.dropWhile_cons, if_neg hbl] at this
          exact this
        have hq : c ≠ 32 ∧ c ≠ 9 ∧ c ≠ 10 ∧ c ≠ 13 := by
          unfold Js.blank at hbl
          refine ⟨?_, ?_, ?_, ?_⟩ <;> (rintro rfl; exact hbl (by decide))
        obtain ⟨q1, q2, q3, q4⟩ := hq
        rw [decide_eq_false q1] at e32
        rw [decide_eq_false q2] at e9
        rw [decide_eq_false q3] at e10
        rw [decide_eq_false q4] at e13
        clear q1 q2 q3 q4 hbl
        go_wp2_with fail
        go_quiet (fail)
        go_wp2
        go_end0
        refine ⟨rfl, Jr.grown_trans HG.out (Jr.grown_some (Jr.grown_drewN _ _) _), ?_⟩
        rw [← HS.out]
        exact HR.out.on (Jr.grown_drewN _ _)
set_option maxRecDepth 100000 in
set_option maxHeartbeats 2000000 in
theorem Jp.is (c : UInt8) (l : List UInt8) (bad : Bool) (g : Nat) (T : ByteArray) (w : World) (h : Jp.Rd w g T l bad) :
    Calls Tryz.prog 77 #[.pointer (some ⟨g, 0, none⟩), .int .u8 (c.toNat : Int)] w fun e w' => e = .returned (.bool (Js.is c l).isSome) ∧ w.grownBy w' (some g) ∧ Jp.Rd w' g T ((Js.is c l).getD (Js.ws l)) bad := by
  have bl := Jp.blanks l bad g T w h
  clear h
  cases hW : Js.ws l with
  | nil =>
    have hI : Js.is c l = none := by unfold Js.is; rw [hW]
    rw [hI]
    rw [hW] at bl
    clear hW hI
    go_enter Tryz.func77, Tryz.ntmps77
    go_wp2_with (go_at_call 24; refine bl.mono ?_; rintro e w1 ⟨rfl, b1, q1⟩; have HB1 := Lib.hid b1; have HR1 := Lib.hid q1; obtain ⟨i, h1, h2, h3, hB⟩ := q1; clear b1 bl)
    have c0 : w1.cell? ⟨g, 0, none⟩ = some (.string T) := hB.cell 0 rfl
    have c1 : w1.cell? ⟨g, 1, none⟩ = some (.int .i64 (i : Int)) := hB.cell 1 rfl
    have f1 := hB.frozen 1
    have HB := Lib.hid hB
    clear hB
    have e := Jr.at_end h1 h2
    have d1 : decide ((i : Int) < (T.size : Int)) = false := decide_eq_false (by omega)
    have d1n : decide (i < T.size) = false := decide_eq_false (by omega)
    clear h1 h2 e
    go_quiet (fail)
    go_wp2
    go_ret
    exact ⟨rfl, Jr.grown_trans HB1.out (Jr.grown_some (Jr.grown_drewN _ _) _), HR1.out.on (Jr.grown_drewN _ _)⟩
  | cons d r =>
    have hI : Js.is c l = if d = c then some r else none := by unfold Js.is; rw [hW]
    rw [hI]
    rw [hW] at bl
    clear hW hI
    have eq0 := Jr.eq_dec d c
    by_cases hd : d = c
    · rw [decide_eq_true hd] at eq0
      rw [if_pos hd]
      clear hd
      generalize (c.toNat : Int) = C at *
      go_enter Tryz.func77, Tryz.ntmps77
      go_wp2_with (go_at_call 24; refine bl.mono ?_; rintro e w1 ⟨rfl, b1, q1⟩; have HB1 := Lib.hid b1; have HR1 := Lib.hid q1; obtain ⟨i, h1, h2, h3, hB⟩ := q1; clear b1 bl)
      have c0 : w1.cell? ⟨g, 0, none⟩ = some (.string T) := hB.cell 0 rfl
      have c1 : w1.cell? ⟨g, 1, none⟩ = some (.int .i64 (i : Int)) := hB.cell 1 rfl
      have f1 := hB.frozen 1
      have HB := Lib.hid hB
      clear hB
      obtain ⟨hlt, he, hr⟩ := Jr.at_byte h2
      have d1 : decide ((i : Int) < (T.size : Int)) = true := decide_eq_true (by omega)
      have d1n : decide (i < T.size) = true := decide_eq_true (by omega)
      have HRR := Lib.hid hr
      rw [← he] at eq0
      clear h1 h2 hr he
      go_quiet (fail)
      go_wp2
      go_ret
      exact ⟨rfl, Jr.grown_trans HB1.out (Jr.grown_trans (Jr.grown_some (Jr.grown_drewN _ _) _) (Jr.grown_set _ _ _ _)), Jp.Rd.step1 h3 HB.out (Jr.grown_drewN _ _) hlt HRR.out.symm⟩
    · rw [decide_eq_false hd] at eq0
      rw [if_neg hd]
      clear hd
      generalize (c.toNat : Int) = C at *
      go_enter Tryz.func77, Tryz.ntmps77
      go_wp2_with (go_at_call 24; refine bl.mono ?_; rintro e w1 ⟨rfl, b1, q1⟩; have HB1 := Lib.hid b1; have HR1 := Lib.hid q1; obtain ⟨i, h1, h2, h3, hB⟩ := q1; clear b1 bl)
      have c0 : w1.cell? ⟨g, 0, none⟩ = some (.string T) := hB.cell 0 rfl
      have c1 : w1.cell? ⟨g, 1, none⟩ = some (.int .i64 (i : Int)) := hB.cell 1 rfl
      have f1 := hB.frozen 1
      have HB := Lib.hid hB
      clear hB
      obtain ⟨hlt, he, hr⟩ := Jr.at_byte h2
      have d1 : decide ((i : Int) < (T.size : Int)) = true := decide_eq_true (by omega)
      have d1n : decide (i < T.size) = true := decide_eq_true (by omega)
      have HRR := Lib.hid hr
      rw [← he] at eq0
      clear h1 h2 hr he
      go_quiet (fail)
      go_wp2
      go_ret
      exact ⟨rfl, Jr.grown_trans HB1.out (Jr.grown_some (Jr.grown_drewN _ _) _), HR1.out.on (Jr.grown_drewN _ _)⟩
theorem Jp.pre_take (p l : List UInt8) : Pl.pre p l = (l.take p.length == p) := by
  by_cases h : Pl.pre p l = true
  · rw [h]
    obtain ⟨r, e⟩ := (Pl.pre_iff _ _).1 h
    rw [e, List.take_left]
    simp
  · rw [Bool.eq_false_iff.2 h]
    symm
    rw [beq_eq_false_iff_ne]
    intro q
    exact h ((Pl.pre_iff _ _).2 ⟨l.drop p.length, by conv => lhs; rw [← List.take_append_drop p.length l, q]⟩)
set_option maxRecDepth 100000 in
set_option maxHeartbeats 2000000 in
theorem Jp.word (p : ByteArray) (hp0 : p.size ≤ 16) (l : List UInt8) (bad : Bool) (g : Nat) (T : ByteArray) (w : World) (h : Jp.Rd w g T l bad) :
    Calls Tryz.prog 51 #[.pointer (some ⟨g, 0, none⟩), .string p] w fun e w' => e = .returned (.bool (Pl.pre p.data.toList l)) ∧ w.grownBy w' (some g) ∧ Jp.Rd w' g T (if Pl.pre p.data.toList l = true then l.drop p.size else l) bad := by
  have HR := Lib.hid h
  obtain ⟨i, h1, h2, h3, hB⟩ := h
  have c0 : w.cell? ⟨g, 0, none⟩ = some (.string T) := hB.cell 0 rfl
  have c1 : w.cell? ⟨g, 1, none⟩ = some (.int .i64 (i : Int)) := hB.cell 1 rfl
  have f1 := hB.frozen 1
  have HB := Lib.hid hB
  have hlen : l.length = T.size - i := by rw [← h2, List.length_drop, Wk.len_data]
  have hpl : p.data.toList.length = p.size := Wk.len_data p
  clear hB
  by_cases hlt : i + p.size ≤ T.size
  · have d1 : decide ((p.size : Int) ≤ (T.size : Int) - (i : Int)) = true := decide_eq_true (by omega)
    have hcut := fun u => Wk.run_cut u T (i : Int) ((i : Int) + (p.size : Int)) (by omega) (by omega) (by omega)
    have ei : ((i : Int)).toNat = i := by omega
    have ej : ((i : Int) + (p.size : Int)).toNat = i + p.size := by omega
    rw [ei, ej] at hcut
    have hX := Wk.part_data T i p.size
    rw [h2] at hX
    have hpre := Jp.pre_take p.data.toList l
    rw [hpl, ← hX] at hpre
    have HST : Hid (l.drop p.size = T.data.toList.drop (i + p.size)) := by unfold Hid; rw [← h2, List.drop_drop]
    generalize T.extract i (i + p.size) = X at *
    have hx : (X.toList == p.toList) = Pl.pre p.data.toList l := by rw [hpre, ByteArray.toList_eq, ByteArray.toList_eq]
    generalize Pl.pre p.data.toList l = b at *
    clear h1 h2 hX hpre hpl hlen ei ej
    cases b with
    | true =>
      go_enter Tryz.func51, Tryz.ntmps51
      go_wp2_with fail
      go_quiet (fail)
      go_wp2
      go_ret
      exact ⟨rfl, Jr.grown_trans (Jr.grown_some (Jr.grown_drewN _ _) _) (Jr.grown_set _ _ _ _), Jp.Rd.step h3 HB.out (Jr.grown_drewN _ _) p.size hlt HST.out⟩
    | false =>
      go_enter Tryz.func51, Tryz.ntmps51
      go_wp2_with fail
      go_quiet (fail)
      go_wp2
      go_ret
      exact ⟨rfl, Jr.grown_some (Jr.grown_drewN _ _) _, HR.out.on (Jr.grown_drewN _ _)⟩
  · have d1 : decide ((p.size : Int) ≤ (T.size : Int) - (i : Int)) = false := decide_eq_false (by omega)
    have hpre : Pl.pre p.data.toList l = false := by
      rw [Jp.pre_take, beq_eq_false_iff_ne]
      intro q
      have := congrArg List.length q
      rw [List.length_take, hpl] at this
      omega
    rw [hpre]
    clear h2 hpre hpl hlen
    go_enter Tryz.func51, Tryz.ntmps51
    go_wp2_with fail
    go_quiet (fail)
    go_wp2
    go_ret
    exact ⟨rfl, Jr.grown_some (Jr.grown_drewN _ _) _, HR.out.on (Jr.grown_drewN _ _)⟩
end Go.Proofs.YtboalkfagfgnpaaGreatDoor
/-
  THE WALK of stoleref1.hex.
-/
namespace Go.Proofs.YtboalkfagfgnpaaGreatDoor
open Go.RowKit
/-- a digit of sixteen; -1: none -/
def Pl.hexI (c : UInt8) : Int := if Pl.dig c = 16 then -1 else Pl.dig c
theorem Pl.hexI_low (c : UInt8) : Pl.hexI c = if 48 ≤ (Pl.lowB c).toNat ∧ (Pl.lowB c).toNat ≤ 57 then ((Pl.lowB c).toNat : Int) - 48 else if 97 ≤ (Pl.lowB c).toNat ∧ (Pl.lowB c).toNat ≤ 102 then ((Pl.lowB c).toNat : Int) - 87 else -1 := by
  rw [Pl.hexI, Pl.lowB_toNat]
  unfold Pl.dig
  repeat' split
  all_goals omega

set_option maxHeartbeats 1000000 in
theorem Rt.hex (c : UInt8) (w : World) :
    Calls Tryz.prog 121 #[.int .u8 c.toNat] w fun e w' => e = .returned (.int .i64 (Pl.hexI c)) ∧ w' = w := by
  have cl := Sz.low c w
  have cd := Rt.digit (Pl.lowB c) w
  have hv := Pl.hexI_low c
  have hlt := (Pl.lowB c).toNat_lt
  have HD : Hid (Pl.digit (Pl.lowB c) = (decide (48 ≤ (Pl.lowB c).toNat) && decide ((Pl.lowB c).toNat ≤ 57))) := rfl
  generalize Pl.digit (Pl.lowB c) = b at *
  generalize (Pl.lowB c).toNat = m at *
  generalize Pl.hexI c = v at *
  by_cases h1 : 48 ≤ m ∧ m ≤ 57
  · have hb : b = true := by rw [HD.out]; simp [h1]
    subst hb
    rw [if_pos h1] at hv
    obtain ⟨h1a, h1b⟩ := h1
    have HV : Hid (v = (m : Int) - 48) := hv
    clear HD hv
    go_enter Tryz.func121, Tryz.ntmps121
    go_wp2_with (first | (go_at_call 79; refine cl.mono ?_; rintro e w1 ⟨rfl, rfl⟩) | (go_at_call 78; refine cd.mono ?_; rintro e w1 ⟨rfl, rfl⟩))
    go_ret
    refine ⟨?_, rfl⟩
    rw [HV.out]
    simp
    try omega
  · have hb : b = false := by
      rw [HD.out, Bool.and_eq_false_iff]
      simp
      omega
    subst hb
    rw [if_neg h1] at hv
    by_cases h2 : 97 ≤ m ∧ m ≤ 102
    · rw [if_pos h2] at hv
      obtain ⟨h2a, h2b⟩ := h2
      have HV : Hid (v = (m : Int) - 87) := hv
      clear HD hv h1
      go_enter Tryz.func121, Tryz.ntmps121
      go_wp2_with (first | (go_at_call 79; refine cl.mono ?_; rintro e w1 ⟨rfl, rfl⟩) | (go_at_call 78; refine cd.mono ?_; rintro e w1 ⟨rfl, rfl⟩))
      go_ret
      refine ⟨?_, rfl⟩
      rw [HV.out]
      simp
      try omega
    · rw [if_neg h2] at hv
      subst hv
      by_cases h3 : 97 ≤ m
      · have h4 : ¬ m ≤ 102 := fun h => h2 ⟨h3, h⟩
        clear HD h1 h2
        go_enter Tryz.func121, Tryz.ntmps121
        go_wp2_with (first | (go_at_call 79; refine cl.mono ?_; rintro e w1 ⟨rfl, rfl⟩) | (go_at_call 78; refine cd.mono ?_; rintro e w1 ⟨rfl, rfl⟩))
        go_ret
        exact ⟨rfl, rfl⟩
      · clear HD h1 h2
        go_enter Tryz.func121, Tryz.ntmps121
        go_wp2_with (first | (go_at_call 79; refine cl.mono ?_; rintro e w1 ⟨rfl, rfl⟩) | (go_at_call 78; refine cd.mono ?_; rintro e w1 ⟨rfl, rfl⟩))
        go_ret
        exact ⟨rfl, rfl⟩
end Go.Proofs.YtboalkfagfgnpaaGreatDoor
/-
  THE WALKS of the reference's reader: four.
-/
namespace Go.Proofs.YtboalkfagfgnpaaGreatDoor
open Go.RowKit
theorem Jr.dig_le (c : UInt8) : Pl.dig c ≤ 16 :=
  of_decide_eq_true (Ug.all (p := fun c => decide (Pl.dig c ≤ 16)) (by decide +kernel) c)
/-- what a reading function of the reference does: it gives what it read and stands behind it, or is bad -/
def Jp.Out {α : Type} (o : Option (α × List UInt8)) (f : α → Value) (z : Value) (bad : Bool) (w : World) (g : Nat) (T : ByteArray) (e : Ending) (w' : World) : Prop :=
  w.grownBy w' (some g) ∧ match o with
  | none => e = .returned z ∧ ∃ r, Jp.Rd w' g T r true
  | some (a, r) => e = .returned (f a) ∧ Jp.Rd w' g T r bad
theorem Jp.box_on {w w' : World} {g : Nat} {cs : Array Value} {ty : TypeId} (h : Bs.Box w g cs ty) (hb : w.grownBy w' none) : Bs.Box w' g cs ty := (hb.block g h.lt (by simp)).trans h
set_option maxRecDepth 100000 in
set_option maxHeartbeats 4000000 in
theorem Jp.four (l : List UInt8) (bad : Bool) (g : Nat) (T : ByteArray) (w : World) (h : Jp.Rd w g T l bad) :
    Calls Tryz.prog 106 #[.pointer (some ⟨g, 0, none⟩)] w (Jp.Out (Js.four l) (fun x => .int .i64 (x : Int)) (.int .i64 0) bad w g T) := by
  have HR := Lib.hid h
  obtain ⟨i, h1, h2, h3, hB⟩ := h
  have c0 : w.cell? ⟨g, 0, none⟩ = some (.string T) := hB.cell 0 rfl
  have c1 : w.cell? ⟨g, 1, none⟩ = some (.int .i64 (i : Int)) := hB.cell 1 rfl
  have f1 := hB.frozen 1
  have f2 := hB.frozen 2
  have c2 : w.cell? ⟨g, 2, none⟩ = some (.bool bad) := hB.cell 2 rfl
  have HB := Lib.hid hB
  have hlen : l.length = T.size - i := by rw [← h2, List.length_drop, Wk.len_data]
  clear hB
  by_cases h4 : T.size - i < 4
  · have d1 : decide ((T.size : Int) - (i : Int) < 4) = true := decide_eq_true (by omega)
    have hn : Js.four l = none := by
      match l, hlen with
      | [], _ => rfl
      | [a], _ => rfl
      | [a, b], _ => rfl
      | [a, b, c], _ => rfl
      | a :: b :: c :: d :: r, q => simp at q; omega
    rw [hn]
    clear h2 hlen hn
    go_enter Tryz.func106, Tryz.ntmps106
    go_wp2_with fail
    go_quiet (fail)
    go_wp2
    go_ret
    exact ⟨Jr.grown_trans (Jr.grown_some (Jr.grown_drewN _ _) _) (Jr.grown_set _ _ _ _), rfl, _, (HR.out.on (Jr.grown_drewN _ _)).spoil⟩
  · have d1 : decide ((T.size : Int) - (i : Int) < 4) = false := decide_eq_false (by omega)
    obtain ⟨O, hO⟩ : ∃ O, Js.four l = O := ⟨_, rfl⟩
    rw [hO]
    rw [← Jr.four_unit] at hO
    have HO := Lib.hid hO
    have HL : Hid (T.data.toList.drop i = l) := h2
    clear h2 hlen hO
    have hx := fun c u => Rt.hex c u
    go_enter Tryz.func106, Tryz.ntmps106
    go_wp2_with fail
    go_quiet (fail)
    go_wp2
    go_loopw [3, 4] (fun nv kv wr => ∃ (k n : Nat), k ≤ 4 ∧ nv = .int .i64 (n : Int) ∧ kv = .int .i64 (k : Int) ∧ Hid (n + 1 ≤ 16 ^ k) ∧ Hid (Jr.unitF (4 - k) n (T.data.toList.drop (i + k)) = O) ∧ Hid (w.grownBy wr none)) (fun _ kv _ => 4 - (intOf kv).toNat)
    case atStart => exact ⟨0, 0, by omega, rfl, rfl, by unfold Hid; omega, by unfold Hid; rw [Nat.add_zero, HL.out]; exact HO.out, Jr.grown_drewN _ _⟩
    case round =>
      clear c0 c1 f1 f2 c2
      obtain ⟨k, n, hk, rfl, rfl, HN, HO, HG⟩ := hrel
      have hB := Jp.box_on HB.out HG.out
      have c0 : wr.cell? ⟨g, 0, none⟩ = some (.string T) := hB.cell 0 rfl
      have c1 : wr.cell? ⟨g, 1, none⟩ = some (.int .i64 (i : Int)) := hB.cell 1 rfl
      have c2 : wr.cell? ⟨g, 2, none⟩ = some (.bool bad) := hB.cell 2 rfl
      have f1 := hB.frozen 1
      have f2 := hB.frozen 2
      clear hB
      by_cases hlt : k < 4
      · have d2 : decide ((k : Int) < 4) = true := decide_eq_true (by omega)
        have d2n : decide (k < 4) = true := decide_eq_true hlt
        have hn : n < 4096 := by
          have h1 := HN.out
          have h2 : 16 ^ k ≤ 16 ^ 3 := Nat.pow_le_pow_right (by omega) (by omega)
          omega
        have hik : i + k < T.size := by omega
        have hdr : T.data.toList.drop (i + k) = T[i + k] :: T.data.toList.drop (i + (k + 1)) := by
          rw [List.drop_eq_getElem_cons (by rw [Wk.len_data]; exact hik)]
          rfl
        rw [show 4 - k = (4 - (k + 1)) + 1 by omega, hdr, Jr.unitF] at HO
        have i0 : (0 : Int) ≤ (i : Int) + (k : Int) := by omega
        have i1 : (i : Int) + (k : Int) < (T.size : Int) := by omega
        have hxc := hx T[i + k]
        clear hdr
        have hlo := Jr.dig_le T[i + k]
        by_cases hd : Pl.dig T[i + k] < 16
        · rw [if_pos hd] at HO
          have hv : Pl.hexI T[i + k] = (Pl.dig T[i + k] : Int) := by unfold Pl.hexI; rw [if_neg (by omega)]
          rw [hv] at hxc
          generalize Pl.dig T[i + k] = D at *
          have d3 : decide ((D : Int) < 0) = false := decide_eq_false (by omega)
          have HN2 : Hid ((n * 16 + D) + 1 ≤ 16 ^ (k + 1)) := by
            have := HN.out
            unfold Hid
            rw [Nat.pow_succ]
            omega
          have EN : Hid ((n : Int) * 16 + (D : Int) = ((n * 16 + D : Nat) : Int)) := by unfold Hid; omega
          clear hv
          go_wp2_with fail
          go_quiet ((go_at_call 121; exact Calls.quiet_of_same (hxc _)))
          go_wp2
          go_roundw
          case rel => exact ⟨k + 1, n * 16 + D, by omega, by rw [EN.out], by go_num, HN2, HO, Jr.grown_trans HG.out (Jr.grown_drewN _ _)⟩
          case measure => simp [intOf]; omega
        · rw [if_neg hd] at HO
          have e : none = O := HO.out
          subst e
          have hv : Pl.hexI T[i + k] = -1 := by unfold Pl.hexI; rw [if_pos (by omega)]
          rw [hv] at hxc
          clear HO hv hd
          go_wp2_with fail
          go_quiet ((go_at_call 121; exact Calls.quiet_of_same (hxc _)))
          go_wp2
          go_ret
          exact ⟨Jr.grown_trans (Jr.grown_some (Jr.grown_trans HG.out (Jr.grown_drewN _ _)) _) (Jr.grown_set _ _ _ _), rfl, _, ((HR.out.on HG.out).on (Jr.grown_drewN _ _)).spoil⟩
      · have d2 : decide ((k : Int) < 4) = false := decide_eq_false (by omega)
        have d2n : decide (k < 4) = false := decide_eq_false hlt
        have e4 : k = 4 := by omega
        have e : some (n, T.data.toList.drop (i + 4)) = O := by
          have := HO.out
          rw [e4] at this
          exact this
        subst e
        clear HO e4
        go_wp2
        go_ret
        exact ⟨Jr.grown_trans (Jr.grown_some HG.out _) (Jr.grown_set _ _ _ _), rfl, Jp.Rd.step h3 HB.out HG.out 4 (by omega) rfl⟩
end Go.Proofs.YtboalkfagfgnpaaGreatDoor
/-
  THE WALKS of refs.digit, refs.signOf and refs.numbered: each call returns what the plain function of the bytes gives, and turns nothing.
-/
namespace Go.Proofs.YtboalkfagfgnpaaGreatDoor
open Go.RowKit

theorem Rd.pow (b x j d : Nat) (h : x < b ^ j) (hd : d < b) : x * b + d < b ^ (j + 1) := by
  have : (x + 1) * b ≤ b ^ j * b := Nat.mul_le_mul_right b h
  rw [Nat.pow_succ]
  rw [Nat.add_mul] at this
  omega
end Go.Proofs.YtboalkfagfgnpaaGreatDoor

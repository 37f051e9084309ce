/-
  THE WALKS of the landed reader: unit, numbered, escaped.
-/
import Derived.Test.YtiajclmhimkpnaaDoorBJRatoJRc
import Derived.Test.YtiajclmhimkpnaaDoorBQPlaintoNorm
namespace Go.Proofs.YtiajclmhimkpnaaDoor
open Go.RowKit
def Jr.unitF : Nat → Nat → List UInt8 → Option (Nat × List UInt8)
  | 0, n, l => some (n, l)
  | _ + 1, _, [] => none
  | m + 1, n, c :: r => if Pl.dig c < 16 then Jr.unitF m (n * 16 + Pl.dig c) r else none
theorem Jr.four_unit (l : List UInt8) : Jr.unitF 4 0 l = Js.four l := by
  match l with
  | [] => rfl
  | [a] => simp [Jr.unitF, Js.four]
  | [a, b] => simp [Jr.unitF, Js.four]
  | [a, b, c] => simp [Jr.unitF, Js.four]
  | a :: b :: c :: d :: r =>
    simp only [Jr.unitF, Js.four]
    by_cases h1 : Pl.dig a < 16
    · by_cases h2 : Pl.dig b < 16
      · by_cases h3 : Pl.dig c < 16
        · by_cases h4 : Pl.dig d < 16
          · simp [h1, h2, h3, h4]
          · simp [h1, h2, h3, h4]
        · simp [h1, h2, h3]
      · simp [h1, h2]
    · simp [h1]
theorem Jr.or4 (n d : Nat) (hn : n < 4096) (hd : d < 16) : bits .or .i32 ((n : Int) * 16) (d : Int) = ((n * 16 + d : Nat) : Int) := by
  have h1 : (BitVec.ofInt 32 ((n * 16 : Nat) : Int)).toNat = n * 16 := by
    rw [BitVec.ofInt_natCast, BitVec.toNat_ofNat]; exact Nat.mod_eq_of_lt (by omega)
  have h2 : (BitVec.ofInt 32 (d : Int)).toNat = d := by
    rw [BitVec.ofInt_natCast, BitVec.toNat_ofNat]; exact Nat.mod_eq_of_lt (by omega)
  have e := Nat.two_pow_add_eq_or_of_lt (i := 4) (b := d) (by omega) n
  have e3 : (n : Int) * 16 = ((n * 16 : Nat) : Int) := by omega
  rw [e3]
  show IntKind.i32.wrap ((BitVec.ofInt 32 ((n * 16 : Nat) : Int) ||| BitVec.ofInt 32 (d : Int)).toNat : Int) = _
  rw [BitVec.toNat_or, h1, h2, show n * 16 = 2 ^ 4 * n by omega, ← e, IntKind.wrap_i32]
  omega
set_option maxRecDepth 100000 in
set_option maxHeartbeats 2000000 in
theorem Jr.unit (l : List UInt8) (g : Nat) (T : ByteArray) (w : World) (h : Jr.Rd w g T l) :
    Calls Tryd.prog 62 #[.pointer (some ⟨g, 0, none⟩)] w (Jr.Out (Js.four l) (fun x => .int .i32 (x : Int)) w g T) := by
  rw [← Jr.four_unit]
  obtain ⟨O, hO⟩ : ∃ O, Jr.unitF 4 0 l = O := ⟨_, rfl⟩
  rw [hO]
  have HO := Lib.hid hO
  have HR := Lib.hid h
  clear hO h
  go_enter Tryd.func62, Tryd.ntmps62
  go_wp2_with fail
  go_loopw [3, 4] (fun nv kv wr => ∃ (k n : Nat) (l' : List UInt8), k ≤ 4 ∧ nv = .int .i32 (n : Int) ∧ kv = .int .i64 (k : Int) ∧ Hid (n + 1 ≤ 16 ^ k) ∧ Hid (Jr.unitF (4 - k) n l' = O) ∧ Hid (Jr.Rd wr g T l') ∧ Hid (w.grownBy wr (some g))) (fun _ kv _ => 4 - (intOf kv).toNat)
  case atStart => exact ⟨0, 0, l, by omega, rfl, rfl, by unfold Hid; omega, HO, HR, World.grownBy.refl _ _⟩
  case round =>
    clear HO HR
    obtain ⟨k, n, l', hk, rfl, rfl, HN, HO, HR, HG⟩ := hrel
    by_cases hlt : k < 4
    · have d1 : decide ((k : Int) < 4) = true := decide_eq_true (by omega)
      have d1n : decide (k < 4) = true := decide_eq_true hlt
      have hn : n < 4096 := by
        have h1 := HN.out
        have h2 : 16 ^ k ≤ 16 ^ 3 := Nat.pow_le_pow_right (by omega) (by omega)
        omega
      have e4 : 4 - k = (4 - (k + 1)) + 1 := by omega
      rw [e4] at HO
      cases l' with
      | nil =>
        have tk := Jr.take_end g T wr HR.out
        have e : none = O := HO.out
        subst e
        clear HO e4 HN
        go_wp2_with (go_at_call 52; refine tk.mono ?_; rintro e w1 ⟨rfl, b1⟩)
        exact ⟨rfl, rfl, Jr.grown_trans HG.out b1⟩
      | cons c r =>
        have tk := Jr.take c r g T wr HR.out
        by_cases hd : Pl.dig c < 16
        · have sx := Jr.sixteen c hd
          have HO2 : Hid (Jr.unitF (4 - (k + 1)) (n * 16 + Pl.dig c) r = O) := by
            have := HO.out
            rw [Jr.unitF, if_pos hd] at this
            exact this
          have or1 := Jr.or4 n (Pl.dig c) hn hd
          have HN2 : Hid (n * 16 + Pl.dig c + 1 ≤ 16 ^ (k + 1)) := by
            have := HN.out
            unfold Hid
            rw [Nat.pow_succ]
            omega
          generalize Pl.dig c = D at *
          generalize (c.toNat : Int) = C at *
          obtain ⟨M, hM⟩ : ∃ M : Nat, M = n * 16 + D := ⟨_, rfl⟩
          rw [← hM] at or1 HO2 HN2
          clear HO e4 HN hd hM
          go_wp2_with (first | (go_at_call 52; refine tk.mono ?_; rintro e w1 ⟨rfl, b1, r1⟩; have HG1 := Lib.hid (Jr.grown_trans HG.out b1); have HR1 := Lib.hid r1; clear b1 r1 tk) | (go_at_call 63; refine (sx _).mono ?_; rintro e w' ⟨rfl, hw⟩; have hw := hw.symm; subst hw))
          go_roundw
          case rel => exact ⟨k + 1, M, r, by omega, rfl, by go_num, HN2, HO2, HR1, HG1⟩
          case measure => simp [intOf]; omega
        · have sx := Jr.sixteen_no c hd
          have e : none = O := by
            have := HO.out
            rw [Jr.unitF, if_neg hd] at this
            exact this
          subst e
          clear HO e4 HN hd
          go_wp2_with (first | (go_at_call 52; refine tk.mono ?_; rintro e w1 ⟨rfl, b1, r1⟩; have HG1 := Lib.hid (Jr.grown_trans HG.out b1); clear b1 r1 tk) | (go_at_call 63; refine (sx _).mono ?_; rintro e w' ⟨rfl, hw⟩; have hw := hw.symm; subst hw))
          exact ⟨rfl, rfl, HG1.out⟩
    · have e : k = 4 := by omega
      subst e
      have e : some (n, l') = O := HO.out
      subst e
      clear HO HN hlt
      go_wp2
      go_ret
      exact ⟨rfl, HG.out, HR.out⟩
theorem Jr.out_none {α : Type} {f : α → Value} {w : World} {g : Nat} {T : ByteArray} {e : Ending} {w' : World} (h : Jr.Out none f w g T e w') : e = .panicked Jr.fault ∧ w.grownBy w' (some g) := h
theorem Jr.out_some {α : Type} {a : α} {r : List UInt8} {f : α → Value} {w : World} {g : Nat} {T : ByteArray} {e : Ending} {w' : World} (h : Jr.Out (some (a, r)) f w g T e w') : e = .returned (f a) ∧ w.grownBy w' (some g) ∧ Jr.Rd w' g T r := h
set_option maxRecDepth 100000 in
set_option maxHeartbeats 2000000 in
theorem Jr.numbered (l : List UInt8) (g : Nat) (T : ByteArray) (w : World) (h : Jr.Rd w g T l) :
    Calls Tryd.prog 60 #[.pointer (some ⟨g, 0, none⟩)] w (Jr.Out (Jr.uni l) (fun x => .int .i32 (x : Int)) w g T) := by
  have u1 := Jr.unit l g T w h
  unfold Jr.uni
  cases h4 : Js.four l with
  | none =>
    rw [h4] at u1
    go_enter Tryd.func60, Tryd.ntmps60
    go_wp2_with (go_at_call 62; refine u1.mono ?_; rintro e w1 ⟨rfl, b1⟩)
    exact ⟨rfl, rfl, b1⟩
  | some p =>
    obtain ⟨x, r1⟩ := p
    have hx := (Js.four_len h4).2.1
    rw [h4] at u1
    clear h4 h
    simp only
    by_cases h1 : x < 55296 ∨ 57344 ≤ x
    · rw [if_pos h1]
      by_cases h2 : x < 55296
      · have d1 : decide ((x : Int) < 55296) = true := decide_eq_true (by omega)
        clear h1
        go_enter Tryd.func60, Tryd.ntmps60
        go_wp2_with (go_at_call 62; refine u1.mono ?_; rintro e w1 ⟨rfl, b1, q1⟩)
        go_ret
        exact ⟨rfl, b1, q1⟩
      · have d1 : decide ((x : Int) < 55296) = false := decide_eq_false (by omega)
        have d2 : decide ((57344 : Int) ≤ (x : Int)) = true := decide_eq_true (by omega)
        clear h1
        go_enter Tryd.func60, Tryd.ntmps60
        go_wp2_with (go_at_call 62; refine u1.mono ?_; rintro e w1 ⟨rfl, b1, q1⟩)
        go_ret
        exact ⟨rfl, b1, q1⟩
    · rw [if_neg h1]
      have d1 : decide ((x : Int) < 55296) = false := decide_eq_false (by omega)
      have d2 : decide ((57344 : Int) ≤ (x : Int)) = false := decide_eq_false (by omega)
      have hlo : 55296 ≤ x := by omega
      clear h1
      by_cases h3 : 56320 ≤ x
      · rw [if_pos h3]
        have d3 : decide ((56320 : Int) ≤ (x : Int)) = true := decide_eq_true (by omega)
        go_enter Tryd.func60, Tryd.ntmps60
        go_wp2_with (go_at_call 62; refine u1.mono ?_; rintro e w1 ⟨rfl, b1, q1⟩)
        exact ⟨rfl, rfl, b1⟩
      · rw [if_neg h3]
        have d3 : decide ((56320 : Int) ≤ (x : Int)) = false := decide_eq_false (by omega)
        by_cases h5 : Pl.pre [92, 117] r1 = true
        · rw [if_pos h5]
          have wd := fun u q => Jr.word ⟨#[92, 117]⟩ r1 h5 g T u q
          rw [show (⟨#[92, 117]⟩ : ByteArray).size = 2 from rfl] at wd
          have u2 := fun u q => Jr.unit (r1.drop 2) g T u q
          clear h5
          cases h6 : Js.four (r1.drop 2) with
          | none =>
            rw [h6] at u2
            clear h6
            go_enter Tryd.func60, Tryd.ntmps60
            go_wp2_with (first | (go_at_call 62; refine u1.mono ?_; rintro e w1 ⟨rfl, b1, q1⟩; have HB1 := Lib.hid b1; replace wd := wd _ q1; clear b1 q1 u1) | (go_at_call 40; refine wd.mono ?_; rintro e w2 ⟨rfl, b2, q2⟩; have HB2 := Lib.hid (Jr.grown_trans HB1.out b2); replace u2 := u2 _ q2; clear b2 q2 wd) | (go_at_call 62; refine u2.mono ?_; rintro e w3 ⟨rfl, b3⟩; have HB3 := Lib.hid (Jr.grown_trans HB2.out b3); clear b3))
            exact ⟨rfl, rfl, HB3.out⟩
          | some p =>
            obtain ⟨y, r3⟩ := p
            have hy := (Js.four_len h6).2.1
            rw [h6] at u2
            clear h6
            simp only
            by_cases h7 : y < 56320 ∨ 57344 ≤ y
            · rw [if_pos h7]
              by_cases h8 : y < 56320
              · have d4 : decide ((y : Int) < 56320) = true := decide_eq_true (by omega)
                clear h7
                go_enter Tryd.func60, Tryd.ntmps60
                go_wp2_with (first | (go_at_call 62; refine u1.mono ?_; rintro e w1 ⟨rfl, b1, q1⟩; have HB1 := Lib.hid b1; replace wd := wd _ q1; clear b1 q1 u1) | (go_at_call 40; refine wd.mono ?_; rintro e w2 ⟨rfl, b2, q2⟩; have HB2 := Lib.hid (Jr.grown_trans HB1.out b2); replace u2 := u2 _ q2; clear b2 q2 wd) | (go_at_call 62; refine u2.mono ?_; rintro e w3 ⟨rfl, b3, q3⟩; have HB3 := Lib.hid (Jr.grown_trans HB2.out b3); clear b3 q3))
                exact ⟨rfl, rfl, HB3.out⟩
              · have d4 : decide ((y : Int) < 56320) = false := decide_eq_false (by omega)
                have d5 : decide ((57344 : Int) ≤ (y : Int)) = true := decide_eq_true (by omega)
                clear h7
                go_enter Tryd.func60, Tryd.ntmps60
                go_wp2_with (first | (go_at_call 62; refine u1.mono ?_; rintro e w1 ⟨rfl, b1, q1⟩; have HB1 := Lib.hid b1; replace wd := wd _ q1; clear b1 q1 u1) | (go_at_call 40; refine wd.mono ?_; rintro e w2 ⟨rfl, b2, q2⟩; have HB2 := Lib.hid (Jr.grown_trans HB1.out b2); replace u2 := u2 _ q2; clear b2 q2 wd) | (go_at_call 62; refine u2.mono ?_; rintro e w3 ⟨rfl, b3, q3⟩; have HB3 := Lib.hid (Jr.grown_trans HB2.out b3); clear b3 q3))
                exact ⟨rfl, rfl, HB3.out⟩
            · rw [if_neg h7]
              have d4 : decide ((y : Int) < 56320) = false := decide_eq_false (by omega)
              have d5 : decide ((57344 : Int) ≤ (y : Int)) = false := decide_eq_false (by omega)
              have hyl : 56320 ≤ y := by omega
              have hyh : y < 57344 := by omega
              have hxh : x < 56320 := by omega
              have eN : ((65536 + (x - 55296) * 1024 + (y - 56320) : Nat) : Int) = 65536 + ((x : Int) - 55296) * 1024 + ((y : Int) - 56320) := by omega
              clear h7
              go_enter Tryd.func60, Tryd.ntmps60
              go_wp2_with (first | (go_at_call 62; refine u1.mono ?_; rintro e w1 ⟨rfl, b1, q1⟩; have HB1 := Lib.hid b1; replace wd := wd _ q1; clear b1 q1 u1) | (go_at_call 40; refine wd.mono ?_; rintro e w2 ⟨rfl, b2, q2⟩; have HB2 := Lib.hid (Jr.grown_trans HB1.out b2); replace u2 := u2 _ q2; clear b2 q2 wd) | (go_at_call 62; refine u2.mono ?_; rintro e w3 ⟨rfl, b3, q3⟩; have HB3 := Lib.hid (Jr.grown_trans HB2.out b3); have HR3 := Lib.hid q3; clear b3 q3))
              go_ret
              exact ⟨congrArg (fun z => Ending.returned (.int .i32 z)) eN.symm, HB3.out, HR3.out⟩
        · rw [if_neg h5]
          have wd := fun u q => Jr.word_no ⟨#[92, 117]⟩ r1 (Bool.eq_false_iff.2 h5) g T u q
          clear h5
          go_enter Tryd.func60, Tryd.ntmps60
          go_wp2_with (first | (go_at_call 62; refine u1.mono ?_; rintro e w1 ⟨rfl, b1, q1⟩; have HB1 := Lib.hid b1; replace wd := wd _ q1; clear b1 q1 u1) | (go_at_call 40; refine wd.mono ?_; rintro e w2 ⟨rfl, b2⟩; have HB2 := Lib.hid (Jr.grown_trans HB1.out b2); clear b2 wd))
          exact ⟨rfl, rfl, HB2.out⟩
theorem Jr.wrap_byte (c : UInt8) : wrap32 (c.toNat : Int) = (c.toNat : Int) := by
  have := c.toNat_lt
  unfold wrap32
  omega
theorem Jr.eq_dec (c d : UInt8) : ((c.toNat : Int) == (d.toNat : Int)) = decide (c = d) := by
  by_cases h : c = d
  · rw [h]; simp
  · rw [decide_eq_false h, beq_eq_false_iff_ne]
    exact fun q => h (UInt8.toNat_inj.1 (by omega))
set_option maxRecDepth 100000 in
set_option maxHeartbeats 2000000 in
theorem Jr.escape (l : List UInt8) (g : Nat) (T : ByteArray) (w : World) (h : Jr.Rd w g T l) :
    Calls Tryd.prog 53 #[.pointer (some ⟨g, 0, none⟩)] w (Jr.Out (Jr.escaped l) (fun x => .int .i32 (x : Int)) w g T) := by
  cases l with
  | nil =>
    have tk := Jr.take_end g T w h
    go_enter Tryd.func53, Tryd.ntmps53
    go_wp2_with (go_at_call 52; refine tk.mono ?_; rintro e w1 ⟨rfl, b1⟩)
    exact ⟨rfl, rfl, b1⟩
  | cons c r =>
    have tk := Jr.take c r g T w h
    have nu := fun u q => Jr.numbered r g T u q
    rw [Jr.escaped]
    clear h
    have e34 : ((c.toNat : Int) == 34) = decide (c = 34) := Jr.eq_dec c 34
    have e92 : ((c.toNat : Int) == 92) = decide (c = 92) := Jr.eq_dec c 92
    have e47 : ((c.toNat : Int) == 47) = decide (c = 47) := Jr.eq_dec c 47
    have e98 : ((c.toNat : Int) == 98) = decide (c = 98) := Jr.eq_dec c 98
    have e102 : ((c.toNat : Int) == 102) = decide (c = 102) := Jr.eq_dec c 102
    have e110 : ((c.toNat : Int) == 110) = decide (c = 110) := Jr.eq_dec c 110
    have e114 : ((c.toNat : Int) == 114) = decide (c = 114) := Jr.eq_dec c 114
    have e116 : ((c.toNat : Int) == 116) = decide (c = 116) := Jr.eq_dec c 116
    have e117 : ((c.toNat : Int) == 117) = decide (c = 117) := Jr.eq_dec c 117
    by_cases h34 : c = 34
    · rw [decide_eq_true h34] at e34
      rw [if_pos (by simp [h34])]
      clear e92 e47 e98 e102 e110 e114 e116 e117 h34
      clear nu
      go_enter Tryd.func53, Tryd.ntmps53
      go_wp2_with (go_at_call 52; refine tk.mono ?_; rintro e w1 ⟨rfl, b1, q1⟩; have HB1 := Lib.hid b1; have HR1 := Lib.hid q1; clear b1 q1 tk)
      go_ret
      exact ⟨congrArg (fun z => Ending.returned (.int .i32 z)) (Jr.wrap_byte c), HB1.out, HR1.out⟩
    · rw [decide_eq_false h34] at e34
      by_cases h92 : c = 92
      · rw [decide_eq_true h92] at e92
        rw [if_pos (by simp [h92])]
        clear e47 e98 e102 e110 e114 e116 e117 h34 h92
        clear nu
        go_enter Tryd.func53, Tryd.ntmps53
        go_wp2_with (go_at_call 52; refine tk.mono ?_; rintro e w1 ⟨rfl, b1, q1⟩; have HB1 := Lib.hid b1; have HR1 := Lib.hid q1; clear b1 q1 tk)
        go_ret
        exact ⟨congrArg (fun z => Ending.returned (.int .i32 z)) (Jr.wrap_byte c), HB1.out, HR1.out⟩
      · rw [decide_eq_false h92] at e92
        by_cases h47 : c = 47
        · rw [decide_eq_true h47] at e47
          rw [if_pos (by simp [h47])]
          clear e98 e102 e110 e114 e116 e117 h34 h92 h47
          clear nu
          go_enter Tryd.func53, Tryd.ntmps53
          go_wp2_with (go_at_call 52; refine tk.mono ?_; rintro e w1 ⟨rfl, b1, q1⟩; have HB1 := Lib.hid b1; have HR1 := Lib.hid q1; clear b1 q1 tk)
          go_ret
          exact ⟨congrArg (fun z => Ending.returned (.int .i32 z)) (Jr.wrap_byte c), HB1.out, HR1.out⟩
        · rw [decide_eq_false h47] at e47
          by_cases h98 : c = 98
          · rw [decide_eq_true h98] at e98
            rw [if_neg (by simp [h34, h92, h47]), if_pos h98]
            clear e102 e110 e114 e116 e117 h34 h92 h47 h98
            clear nu
            go_enter Tryd.func53, Tryd.ntmps53
            go_wp2_with (go_at_call 52; refine tk.mono ?_; rintro e w1 ⟨rfl, b1, q1⟩; have HB1 := Lib.hid b1; have HR1 := Lib.hid q1; clear b1 q1 tk)
            go_ret
            exact ⟨rfl, HB1.out, HR1.out⟩
          · rw [decide_eq_false h98] at e98
            by_cases h102 : c = 102
            · rw [decide_eq_true h102] at e102
              rw [if_neg (by simp [h34, h92, h47]), if_neg h98, if_pos h102]
              clear e110 e114 e116 e117 h34 h92 h47 h98 h102
              clear nu
              go_enter Tryd.func53, Tryd.ntmps53
              go_wp2_with (go_at_call 52; refine tk.mono ?_; rintro e w1 ⟨rfl, b1, q1⟩; have HB1 := Lib.hid b1; have HR1 := Lib.hid q1; clear b1 q1 tk)
              go_ret
              exact ⟨rfl, HB1.out, HR1.out⟩
            · rw [decide_eq_false h102] at e102
              by_cases h110 : c = 110
              · rw [decide_eq_true h110] at e110
                rw [if_neg (by simp [h34, h92, h47]), if_neg h98, if_neg h102, if_pos h110]
                clear e114 e116 e117 h34 h92 h47 h98 h102 h110
                clear nu
                go_enter Tryd.func53, Tryd.ntmps53
                go_wp2_with (go_at_call 52; refine tk.mono ?_; rintro e w1 ⟨rfl, b1, q1⟩; have HB1 := Lib.hid b1; have HR1 := Lib.hid q1; clear b1 q1 tk)
                go_ret
                exact ⟨rfl, HB1.out, HR1.out⟩
              · rw [decide_eq_false h110] at e110
                by_cases h114 : c = 114
                · rw [decide_eq_true h114] at e114
                  rw [if_neg (by simp [h34, h92, h47]), if_neg h98, if_neg h102, if_neg h110, if_pos h114]
                  clear e116 e117 h34 h92 h47 h98 h102 h110 h114
                  clear nu
                  go_enter Tryd.func53, Tryd.ntmps53
                  go_wp2_with (go_at_call 52; refine tk.mono ?_; rintro e w1 ⟨rfl, b1, q1⟩; have HB1 := Lib.hid b1; have HR1 := Lib.hid q1; clear b1 q1 tk)
                  go_ret
                  exact ⟨rfl, HB1.out, HR1.out⟩
                · rw [decide_eq_false h114] at e114
                  by_cases h116 : c = 116
                  · rw [decide_eq_true h116] at e116
                    rw [if_neg (by simp [h34, h92, h47]), if_neg h98, if_neg h102, if_neg h110, if_neg h114, if_pos h116]
                    clear e117 h34 h92 h47 h98 h102 h110 h114 h116
                    clear nu
                    go_enter Tryd.func53, Tryd.ntmps53
                    go_wp2_with (go_at_call 52; refine tk.mono ?_; rintro e w1 ⟨rfl, b1, q1⟩; have HB1 := Lib.hid b1; have HR1 := Lib.hid q1; clear b1 q1 tk)
                    go_ret
                    exact ⟨rfl, HB1.out, HR1.out⟩
                  · rw [decide_eq_false h116] at e116
                    by_cases h117 : c = 117
                    · rw [decide_eq_true h117] at e117
                      rw [if_neg (by simp [h34, h92, h47]), if_neg h98, if_neg h102, if_neg h110, if_neg h114, if_neg h116, if_pos h117]
                      clear h34 h92 h47 h98 h102 h110 h114 h116 h117
                      cases hu : Jr.uni r with
                      | none =>
                        rw [hu] at nu
                        clear hu
                        go_enter Tryd.func53, Tryd.ntmps53
                        go_wp2_with (first | (go_at_call 52; refine tk.mono ?_; rintro e w1 ⟨rfl, b1, q1⟩; have HB1 := Lib.hid b1; replace nu := nu _ q1; clear b1 q1 tk) | (go_at_call 60; refine nu.mono ?_; rintro e w2 ⟨rfl, b2⟩; have HB2 := Lib.hid (Jr.grown_trans HB1.out b2); clear b2))
                        exact ⟨rfl, rfl, HB2.out⟩
                      | some p =>
                        obtain ⟨x, r1⟩ := p
                        rw [hu] at nu
                        clear hu
                        go_enter Tryd.func53, Tryd.ntmps53
                        go_wp2_with (first | (go_at_call 52; refine tk.mono ?_; rintro e w1 ⟨rfl, b1, q1⟩; have HB1 := Lib.hid b1; replace nu := nu _ q1; clear b1 q1 tk) | (go_at_call 60; refine nu.mono ?_; rintro e w2 ⟨rfl, b2, q2⟩; have HB2 := Lib.hid (Jr.grown_trans HB1.out b2); have HR2 := Lib.hid q2; clear b2 q2))
                        go_ret
                        exact ⟨rfl, HB2.out, HR2.out⟩
                    · rw [decide_eq_false h117] at e117
                      rw [if_neg (by simp [h34, h92, h47]), if_neg h98, if_neg h102, if_neg h110, if_neg h114, if_neg h116, if_neg h117]
                      clear nu h34 h92 h47 h98 h102 h110 h114 h116 h117
                      go_enter Tryd.func53, Tryd.ntmps53
                      go_wp2_with (go_at_call 52; refine tk.mono ?_; rintro e w1 ⟨rfl, b1, q1⟩; have HB1 := Lib.hid b1; clear b1 q1 tk)
                      exact ⟨rfl, rfl, HB1.out⟩
end Go.Proofs.YtiajclmhimkpnaaDoor
/-
  THE WALK of the landed reader: quoted.
-/
namespace Go.Proofs.YtiajclmhimkpnaaDoor
open Go.RowKit
def Jr.quo (l : List UInt8) : Option (List UInt8 × List UInt8) := if Pl.pre [34] l = true then Jr.text (l.drop 1) else none
/-- how many bytes are left -/
def Jr.rem (g : Nat) (T : ByteArray) (u : World) : Nat := T.size - (match u.cell? ⟨g, 1, none⟩ with | some v => (intOf v).toNat | none => 0)
theorem Jr.rem_eq {u : World} {g : Nat} {T : ByteArray} {l : List UInt8} (hR : Jr.Rd u g T l) : Jr.rem g T u = l.length := by
  obtain ⟨i, h1, h2, h3, hB⟩ := hR
  have c1 : u.cell? ⟨g, 1, none⟩ = some (.int .i64 (i : Int)) := hB.cell 1 rfl
  unfold Jr.rem
  rw [← h2, List.length_drop, Wk.len_data]
  simp only [c1]
  simp [intOf]
theorem Jr.Rd.len {u : World} {g : Nat} {T : ByteArray} {l : List UInt8} (hR : Jr.Rd u g T l) : l.length ≤ 65536 := by
  obtain ⟨i, h1, h2, h3, hB⟩ := hR
  rw [← h2, List.length_drop, Wk.len_data]
  omega
theorem Jr.isF_grown {T e : TypeId} {B b g : Nat} {bs : List Value} {W W' : World} (h : Lib.IsBuilderF T e B b bs W) (hb : W.grownBy W' (some g)) (hg : g < B) : Lib.IsBuilderF T e B b bs W' := by
  have key : ∀ p, Lib.BuilderAtF T e B b p bs W → Lib.BuilderAtF T e B b p bs W' := fun p h => by
    have hlt := h.lt
    obtain ⟨hB, v, hv, hown, hne⟩ := h
    refine ⟨hB, v, (hb.block b hlt (fun q => by injection q with q; omega)).trans hv, hown.kept hb ?_, hne⟩
    cases hv : v.ownBlock with
    | none => exact .inl rfl
    | some k =>
      refine .inr fun q => ?_
      injection q with q
      subst q
      have := (hown.lt k hv).1
      omega
  exact h.elim (fun x => .inl (key _ x)) (fun x => .inr (key _ x))
/-- a writer's turn, seen from the reader's own entry -/
theorem Jr.grown_more {a b c : World} {g B : Nat} (h : a.grownBy b (some g)) (k : Below B b c) (hB : a.heap.size ≤ B) : a.grownBy c (some g) :=
  ⟨k.os.trans h.os, k.tape.trans h.tape, k.output.trans h.output, Nat.le_trans h.size k.size, fun i hi hne => (k.block i (by omega)).trans (h.block i hi hne)⟩
theorem Jr.Rd.below {w w' : World} {g B : Nat} {T : ByteArray} {l : List UInt8} (h : Jr.Rd w g T l) (hb : Below B w w') (hg : g < B) : Jr.Rd w' g T l := by
  obtain ⟨i, h1, h2, h3, hB⟩ := h
  exact ⟨i, h1, h2, h3, (hb.block g hg).trans hB⟩
set_option maxRecDepth 100000 in
set_option maxHeartbeats 4000000 in
theorem Jr.quoted (l : List UInt8) (g : Nat) (T : ByteArray) (w : World) (h : Jr.Rd w g T l) :
    Calls Tryd.prog 41 #[.pointer (some ⟨g, 0, none⟩)] w (Jr.Out (Jr.quo l) (fun b => .string ⟨b.toArray⟩) w g T) := by
  unfold Jr.quo
  have hgw := h.lt
  by_cases hp : Pl.pre [34] l = true
  · rw [if_pos hp]
    have wd := Jr.word ⟨#[34]⟩ l hp g T w h
    rw [show (⟨#[34]⟩ : ByteArray).size = 1 from rfl] at wd
    obtain ⟨O, hO⟩ : ∃ O, Jr.text (l.drop 1) = O := ⟨_, rfl⟩
    rw [hO]
    have HO := Lib.hid hO
    clear hO h hp
    generalize l.drop 1 = l1 at *
    go_enter Tryd.func41, Tryd.ntmps41
    go_wp2_with (go_at_call 40; refine wd.mono ?_; rintro e w1 ⟨rfl, b1, q1⟩; have HB1 := Lib.hid b1; have HR1 := Lib.hid q1; clear b1 q1 wd)
    have hw1 : w.heap.size ≤ w1.heap.size := HB1.out.size
    have HI1 : Hid (Lib.IsBuilderF 48 5 w1.heap.size w1.heap.size (Lib.byteCells []) (w1.alloc (.cells #[.pointer none, .slice none 0 0] 48))) := .of (Lib.fresh_isBuilder 48 5 w1)
    have HB2 := Lib.hid (Jr.grown_more HB1.out ((Below.refl w1.heap.size w1).alloc (Nat.le_refl _) (.cells #[.pointer none, .slice none 0 0] 48)) hw1)
    have HR2 := Lib.hid (HR1.out.below ((Below.refl w1.heap.size w1).alloc (Nat.le_refl _) (.cells #[.pointer none, .slice none 0 0] 48)) (by omega))
    have HW : Hid (w1.heap.size + 1 ≤ (w1.alloc (.cells #[.pointer none, .slice none 0 0] 48)).heap.size) := by unfold Hid; simp
    generalize w1.alloc (.cells #[.pointer none, .slice none 0 0] 48) = w2 at *
    generalize w1.heap.size = B at *
    clear HB1 HR1
    have hgB : g < B := by omega
    go_loopw [] (fun wr => ∃ (acc l' : List UInt8), Hid ((Jr.text l').map (fun p => (acc ++ p.1, p.2)) = O) ∧ Hid (acc.length + 4 * l'.length ≤ 262144) ∧ Hid (Jr.Rd wr g T l') ∧ Hid (Lib.IsBuilderF 48 5 B B (Lib.byteCells acc) wr) ∧ Hid (w.grownBy wr (some g)) ∧ Hid (B + 1 ≤ wr.heap.size)) (fun wr => Jr.rem g T wr)
    case atStart => exact ⟨[], l1, by unfold Hid; rw [← HO.out]; cases Jr.text l1 <;> rfl, by have := HR2.out.len; unfold Hid; simp; omega, HR2, HI1, HB2, HW⟩
    case round =>
      clear HB2 HR2 HI1 HW HO
      obtain ⟨acc, l', HO, HN, HR, HI, HG, HW⟩ := hrel
      have HL := Lib.hid (Jr.rem_eq HR.out)
      cases l' with
      | nil =>
        have tk := Jr.take_end g T wr HR.out
        have e : none = O := HO.out
        subst e
        clear HO
        go_wp2_with (go_at_call 52; refine tk.mono ?_; rintro e w3 ⟨rfl, b3⟩)
        exact ⟨rfl, rfl, Jr.grown_trans HG.out b3⟩
      | cons c r =>
        have tk := Jr.take c r g T wr HR.out
        have e34 : ((c.toNat : Int) == 34) = decide (c = 34) := Jr.eq_dec c 34
        have e92 : ((c.toNat : Int) == 92) = decide (c = 92) := Jr.eq_dec c 92
        by_cases h34 : c = 34
        · rw [decide_eq_true h34] at e34
          have HO2 : Hid (some (acc, r) = O) := by
            have := HO.out
            rw [h34, Jr.text_end, Option.map_some, List.append_nil] at this
            exact this
          clear h34 HO e92
          have e := HO2.out
          subst e
          clear HO2
          go_wp2_with (first | (go_at_call 52; refine tk.mono ?_; rintro e w3 ⟨rfl, b3, q3⟩; have HB3 := Lib.hid (Jr.grown_trans HG.out b3); have HR3 := Lib.hid q3; have HI3 := Lib.hid (Jr.isF_grown HI.out b3 hgB); have HW3 := Lib.hid (Nat.le_trans HW.out b3.size); clear b3 q3 tk) | (go_at_call 28; refine (Sh.Builder_String_any_k B B acc _ HI3.out (by have := HW3.out; omega)).mono ?_; rintro e w4 ⟨rfl, _, b4, _⟩; have HB4 := Lib.hid (Jr.grown_more HB3.out b4 hw1); have HR4 := Lib.hid (HR3.out.below b4 hgB); clear b4))
          go_ret
          exact ⟨rfl, HB4.out, HR4.out⟩
        · rw [decide_eq_false h34] at e34
          by_cases h92 : c = 92
          · rw [decide_eq_true h92] at e92
            have es := fun u q => Jr.escape r g T u q
            rw [h92, Jr.text_esc] at HO
            have hlt : (c.toNat : Int) = 92 := by rw [h92]; rfl
            clear h34 h92
            cases he : Jr.escaped r with
            | none =>
              rw [he] at es
              have e : none = O := by have := HO.out; rw [he] at this; exact this
              subst e
              clear HO he
              go_wp2_with (first | (go_at_call 52; refine tk.mono ?_; rintro e w3 ⟨rfl, b3, q3⟩; have HB3 := Lib.hid (Jr.grown_trans HG.out b3); replace es := es _ q3; clear b3 q3 tk) | (go_at_call 53; refine es.mono ?_; rintro e w4 ⟨rfl, b4⟩; have HB4 := Lib.hid (Jr.grown_trans HB3.out b4); clear b4))
              exact ⟨rfl, rfl, HB4.out⟩
            | some p =>
              obtain ⟨x, r1⟩ := p
              rw [he] at es
              obtain ⟨hx, -, hlen⟩ := Jr.escaped_lt he
              have HO2 : Hid ((Jr.text r1).map (fun p => ((acc ++ Lib.encodeRune (x : Int)) ++ p.1, p.2)) = O) := by
                have := HO.out
                rw [he] at this
                unfold Hid
                rw [← this]
                simp only
                cases Jr.text r1 <;> simp
              have hxl : (x : Int) ≤ 1114111 := by omega
              have hrl : (Lib.encodeRune (x : Int)).length ≤ 4 := by
                rw [Jr.rune x hx]
                split
                · simp
                · exact Pl.runeL_len _
              have HN2 : Hid ((acc ++ Lib.encodeRune (x : Int)).length + 4 * r1.length ≤ 262144) := by
                have := HN.out
                unfold Hid
                rw [List.length_append]
                simp only [List.length_cons] at this
                omega
              have HM : Hid (r1.length < Jr.rem g T wr) := by
                unfold Hid
                rw [HL.out, List.length_cons]
                omega
              have hcells : Lib.byteCells acc ++ Lib.runeCells (x : Int) = Lib.byteCells (acc ++ Lib.encodeRune (x : Int)) := by rw [Lib.byteCells_append, Lib.byteCells_encodeRune]
              clear HO he hx hlen hrl
              go_wp2_with (first | (go_at_call 52; refine tk.mono ?_; rintro e w3 ⟨rfl, b3, q3⟩; have HB3 := Lib.hid (Jr.grown_trans HG.out b3); have HI3 := Lib.hid (Jr.isF_grown HI.out b3 hgB); have HW3 := Lib.hid (Nat.le_trans HW.out b3.size); replace es := es _ q3; clear b3 q3 tk) | (go_at_call 53; refine es.mono ?_; rintro e w4 ⟨rfl, b4, q4⟩; have HB4 := Lib.hid (Jr.grown_trans HB3.out b4); have HI4 := Lib.hid (Jr.isF_grown HI3.out b4 hgB); have HW4 := Lib.hid (Nat.le_trans HW3.out b4.size); have HR4 := Lib.hid q4; clear b4 q4 es) | (go_at_call 27; refine (Sh.Builder_WriteRune_k B B (Lib.byteCells acc) (x : Int) (by omega) (by omega) _ HI4.out (by rw [Lib.byteCells_length]; have := HN.out; omega) (by have := HW4.out; omega)).mono ?_; rintro e w5 ⟨rfl, i5, b5, _⟩; rw [hcells] at i5; have HI5 : Hid (Lib.IsBuilderF 48 5 B B (Lib.byteCells (acc ++ Lib.encodeRune (x : Int))) w5) := .inr i5; have HB5 := Lib.hid (Jr.grown_more HB4.out b5 hw1); have HR5 := Lib.hid (HR4.out.below b5 hgB); have HW5 := Lib.hid (Nat.le_trans HW4.out b5.size); clear i5 b5))
              go_roundw
              case rel => exact ⟨_, r1, HO2, HN2, HR5, HI5, HB5, HW5⟩
              case measure => rw [Jr.rem_eq HR5.out]; exact HM.out
          · rw [decide_eq_false h92] at e92
            by_cases h32 : c.toNat < 32
            · have d32 : decide ((c.toNat : Int) < 32) = true := decide_eq_true (by omega)
              have e : none = O := by
                have := HO.out
                rw [Jr.text_low r h32] at this
                exact this
              subst e
              clear HO h34 h92 h32
              generalize (c.toNat : Int) = C at *
              go_wp2_with (go_at_call 52; refine tk.mono ?_; rintro e w3 ⟨rfl, b3, q3⟩; have HB3 := Lib.hid (Jr.grown_trans HG.out b3); clear b3 q3 tk)
              exact ⟨rfl, rfl, HB3.out⟩
            · have d32 : decide ((c.toNat : Int) < 32) = false := decide_eq_false (by omega)
              have HO2 : Hid ((Jr.text r).map (fun p => ((acc ++ [c]) ++ p.1, p.2)) = O) := by
                have := HO.out
                rw [Jr.text_byte r h34 h92 h32] at this
                unfold Hid
                rw [← this]
                cases Jr.text r <;> simp
              have HN2 : Hid ((acc ++ [c]).length + 4 * r.length ≤ 262144) := by
                have := HN.out
                unfold Hid
                rw [List.length_append]
                simp only [List.length_cons, List.length_nil] at this ⊢
                omega
              have HM : Hid (r.length < Jr.rem g T wr) := by
                unfold Hid
                rw [HL.out, List.length_cons]
                omega
              have hcells : Lib.byteCells acc ++ [.int .u8 (c.toNat : Int)] = Lib.byteCells (acc ++ [c]) := by rw [Lib.byteCells_append]; rfl
              clear HO h34 h92 h32 HL
              generalize (acc ++ [c]) = acc2 at *
              generalize (c.toNat : Int) = C at *
              go_wp2_with (first | (go_at_call 52; refine tk.mono ?_; rintro e w3 ⟨rfl, b3, q3⟩; have HB3 := Lib.hid (Jr.grown_trans HG.out b3); have HR3 := Lib.hid q3; have HI3 := Lib.hid (Jr.isF_grown HI.out b3 hgB); have HW3 := Lib.hid (Nat.le_trans HW.out b3.size); clear b3 q3 tk) | (go_at_call 36; refine (Sh.Builder_WriteByte_k B B (Lib.byteCells acc) C _ HI3.out (by rw [Lib.byteCells_length]; have := HN.out; omega) (by have := HW3.out; omega)).mono ?_; rintro e w4 ⟨rfl, i4, b4, _⟩; rw [hcells] at i4; have HI4 : Hid (Lib.IsBuilderF 48 5 B B (Lib.byteCells acc2) w4) := .inr i4; have HB4 := Lib.hid (Jr.grown_more HB3.out b4 hw1); have HR4 := Lib.hid (HR3.out.below b4 hgB); have HW4 := Lib.hid (Nat.le_trans HW3.out b4.size); clear i4 b4))
              go_roundw
              case rel => exact ⟨acc2, r, HO2, HN2, HR4, HI4, HB4, HW4⟩
              case measure => rw [Jr.rem_eq HR4.out]; exact HM.out
  · rw [if_neg hp]
    have wd := Jr.word_no ⟨#[34]⟩ l (Bool.eq_false_iff.2 hp) g T w h
    clear hp h
    go_enter Tryd.func41, Tryd.ntmps41
    go_wp2_with (go_at_call 40; refine wd.mono ?_; rintro e w1 ⟨rfl, b1⟩)
    exact ⟨rfl, rfl, b1⟩
end Go.Proofs.YtiajclmhimkpnaaDoor

/-
  THE WALKS of the landed reader: unit, numbered, escaped.
-/
import Derived.Test.YtboalkfagfgnpaaGreatDoorBShelf10toJRc
import Derived.Test.YtboalkfagfgnpaaGreatDoorBSigntoRePlain
namespace Go.Proofs.YtboalkfagfgnpaaGreatDoor
open Go.RowKit
def Jr.unitF : Nat → Nat → List UInt8 → Option (Nat × List UInt8)
  | 0, n, l => some (n, l)
  | _ + 1, _, [] => none
  | m + 1, n, c :: r => if Pl.dig c < 16 then Jr.unitF m (n * 16 + Pl.dig c) r else none
theorem Jr.four_unit (l : List UInt8) : Jr.unitF 4 0 l = Js.four l := by
  match l with
  | [] => rfl
  | [a] => simp [Jr.unitF, Js.four]
  | [a, b] => simp [Jr.unitF, Js.four]
  | [a, b, c] => simp [Jr.unitF, Js.four]
  | a :: b :: c :: d :: r =>
    simp only [Jr.unitF, Js.four]
    by_cases h1 : Pl.dig a < 16
    · by_cases h2 : Pl.dig b < 16
      · by_cases h3 : Pl.dig c < 16
        · by_cases h4 : Pl.dig d < 16
          · simp [h1, h2, h3, h4]
          · simp [h1, h2, h3, h4]
        · simp [h1, h2, h3]
      · simp [h1, h2]
    · simp [h1]
theorem Jr.or4 (n d : Nat) (hn : n < 4096) (hd : d < 16) : bits .or .i32 ((n : Int) * 16) (d : Int) = ((n * 16 + d : Nat) : Int) := by
  have h1 : (BitVec.ofInt 32 ((n * 16 : Nat) : Int)).toNat = n * 16 := by
    rw [BitVec.ofInt_natCast, BitVec.toNat_ofNat]; exact Nat.mod_eq_of_lt (by omega)
  have h2 : (BitVec.ofInt 32 (d : Int)).toNat = d := by
    rw [BitVec.ofInt_natCast, BitVec.toNat_ofNat]; exact Nat.mod_eq_of_lt (by omega)
  have e := Nat.two_pow_add_eq_or_of_lt (i := 4) (b := d) (by omega) n
  have e3 : (n : Int) * 16 = ((n * 16 : Nat) : Int) := by omega
  rw [e3]
  show IntKind.i32.wrap ((BitVec.ofInt 32 ((n * 16 : Nat) : Int) ||| BitVec.ofInt 32 (d : Int)).toNat : Int) = _
  rw [BitVec.toNat_or, h1, h2, show n * 16 = 2 ^ 4 * n by omega, ← e, IntKind.wrap_i32]
  omega
set_option maxRecDepth 100000 in
set_option maxHeartbeats 2000000 in
theorem Jr.unit (l : List UInt8) (g : Nat) (T : ByteArray) (w : World) (h : Jr.Rd w g T l) :
    Calls Tryz.prog 130 #[.pointer (some ⟨g, 0, none⟩)] w (Jr.Out (Js.four l) (fun x => .int .i32 (x : Int)) w g T) := by
  rw [← Jr.four_unit]
  obtain ⟨O, hO⟩ : ∃ O, Jr.unitF 4 0 l = O := ⟨_, rfl⟩
  rw [hO]
  have HO := Lib.hid hO
  have HR := Lib.hid h
  clear hO h
  go_enter Tryz.func130, Tryz.ntmps130
  go_wp2_with fail
  go_loopw [3, 4] (fun nv kv wr => ∃ (k n : Nat) (l' : List UInt8), k ≤ 4 ∧ nv = .int .i32 (n : Int) ∧ kv = .int .i64 (k : Int) ∧ Hid (n + 1 ≤ 16 ^ k) ∧ Hid (Jr.unitF (4 - k) n l' = O) ∧ Hid (Jr.Rd wr g T l') ∧ Hid (w.grownBy wr (some g))) (fun _ kv _ => 4 - (intOf kv).toNat)
  case atStart => exact ⟨0, 0, l, by omega, rfl, rfl, by unfold Hid; omega, HO, HR, World.grownBy.refl _ _⟩
  case round =>
    clear HO HR
    obtain ⟨k, n, l', hk, rfl, rfl, HN, HO, HR, HG⟩ := hrel
    by_cases hlt : k < 4
    · have d1 : decide ((k : Int) < 4) = true := decide_eq_true (by omega)
      have d1n : decide (k < 4) = true := decide_eq_true hlt
      have hn : n < 4096 := by
        have h1 := HN.out
        have h2 : 16 ^ k ≤ 16 ^ 3 := Nat.pow_le_pow_right (by omega) (by omega)
        omega
      have e4 : 4 - k = (4 - (k + 1)) + 1 := by omega
      rw [e4] at HO
      cases l' with
      | nil =>
        have tk := Jr.take_end g T wr HR.out
        have e : none = O := HO.out
        subst e
        clear HO e4 HN
        go_wp2_with (go_at_call 100; refine tk.mono ?_; rintro e w1 ⟨rfl, b1⟩)
        exact ⟨rfl, rfl, Jr.grown_trans HG.out b1⟩
      | cons c r =>
        have tk := Jr.take c r g T wr HR.out
        by_cases hd : Pl.dig c < 16
        · have sx := Jr.sixteen c hd
          have HO2 : Hid (Jr.unitF (4 - (k + 1)) (n * 16 + Pl.dig c) r = O) := by
            have := HO.out
            rw [Jr.unitF, if_pos hd] at this
            exact this
          have or1 := Jr.or4 n (Pl.dig c) hn hd
          have HN2 : Hid (n * 16 + Pl.dig c + 1 ≤ 16 ^ (k + 1)) := by
            have := HN.out
            unfold Hid
            rw [Nat.pow_succ]
            omega
          generalize Pl.dig c = D at *
          generalize (c.toNat : Int) = C at *
          obtain ⟨M, hM⟩ : ∃ M : Nat, M = n * 16 + D := ⟨_, rfl⟩
          rw [← hM] at or1 HO2 HN2
          clear HO e4 HN hd hM
          go_wp2_with (first | (go_at_call 100; refine tk.mono ?_; rintro e w1 ⟨rfl, b1, r1⟩; have HG1 := Lib.hid (Jr.grown_trans HG.out b1); have HR1 := Lib.hid r1; clear b1 r1 tk) | (go_at_call 132; refine (sx _).mono ?_; rintro e w' ⟨rfl, hw⟩; have hw := hw.symm; subst hw))
          go_roundw
          case rel => exact ⟨k + 1, M, r, by omega, rfl, by go_num, HN2, HO2, HR1, HG1⟩
          case measure => simp [intOf]; omega
        · have sx := Jr.sixteen_no c hd
          have e : none = O := by
            have := HO.out
            rw [Jr.unitF, if_neg hd] at this
            exact this
          subst e
          clear HO e4 HN hd
          go_wp2_with (first | (go_at_call 100; refine tk.mono ?_; rintro e w1 ⟨rfl, b1, r1⟩; have HG1 := Lib.hid (Jr.grown_trans HG.out b1); clear b1 r1 tk) | (go_at_call 132; refine (sx _).mono ?_; rintro e w' ⟨rfl, hw⟩; have hw := hw.symm; subst hw))
          exact ⟨rfl, rfl, HG1.out⟩
    · have e : k = 4 := by omega
      subst e
      have e : some (n, l') = O := HO.out
      subst e
      clear HO HN hlt
      go_wp2
      go_ret
      exact ⟨rfl, HG.out, HR.out⟩
theorem Jr.out_none {α : Type} {f : α → Value} {w : World} {g : Nat} {T : ByteArray} {e : Ending} {w' : World} (h : Jr.Out none f w g T e w') : e = .panicked Jr.fault ∧ w.grownBy w' (some g) := h
theorem Jr.out_some {α : Type} {a : α} {r : List UInt8} {f : α → Value} {w : World} {g : Nat} {T : ByteArray} {e : Ending} {w' : World} (h : Jr.Out (some (a, r)) f w g T e w') : e = .returned (f a) ∧ w.grownBy w' (some g) ∧ Jr.Rd w' g T r := h
set_option maxRecDepth 100000 in
set_option maxHeartbeats 2000000 in
theorem Jr.numbered (l : List UInt8) (g : Nat) (T : ByteArray) (w : World) (h : Jr.Rd w g T l) :
    Calls Tryz.prog 119 #[.pointer (some ⟨g, 0, none⟩)] w (Jr.Out (Jr.uni l) (fun x => .int .i32 (x : Int)) w g T) := by
  have u1 := Jr.unit l g T w h
  unfold Jr.uni
  cases h4 : Js.four l with
  | none =>
    rw [h4] at u1
    go_enter Tryz.func119, Tryz.ntmps119
    go_wp2_with (go_at_call 130; refine u1.mono ?_; rintro e w1 ⟨rfl, b1⟩)
    exact ⟨rfl, rfl, b1⟩
  | some p =>
    obtain ⟨x, r1⟩ := p
    have hx := (Js.four_len h4).2.1
    rw [h4] at u1
    clear h4 h
    simp only
    by_cases h1 : x < 55296 ∨ 57344 ≤ x
    · rw [if_pos h1]
      by_cases h2 : x < 55296
      · have d1 : decide ((x : Int) < 55296) = true := decide_eq_true (by omega)
        clear h1
        go_enter Tryz.func119, Tryz.ntmps119
        go_wp2_with (go_at_call 130; refine u1.mono ?_; rintro e w1 ⟨rfl, b1, q1⟩)
        go_ret
        exact ⟨rfl, b1, q1⟩
      · have d1 : decide ((x : Int) < 55296) = false := decide_eq_false (by omega)
        have d2 : decide ((57344 : Int) ≤ (x : Int)) = true := decide_eq_true (by omega)
        clear h1
        go_enter Tryz.func119, Tryz.ntmps119
        go_wp2_with (go_at_call 130; refine u1.mono ?_; rintro e w1 ⟨rfl, b1, q1⟩)
        go_ret
        exact ⟨rfl, b1, q1⟩
    · rw [if_neg h1]
      have d1 : decide ((x : Int) < 55296) = false := decide_eq_false (by omega)
      have d2 : decide ((57344 : Int) ≤ (x : Int)) = false := decide_eq_false (by omega)
      have hlo : 55296 ≤ x := by omega
      clear h1
      by_cases h3 : 56320 ≤ x
      · rw [if_pos h3]
        have d3 : decide ((56320 : Int) ≤ (x : Int)) = true := decide_eq_true (by omega)
        go_enter Tryz.func119, Tryz.ntmps119
        go_wp2_with (go_at_call 130; refine u1.mono ?_; rintro e w1 ⟨rfl, b1, q1⟩)
        exact ⟨rfl, rfl, b1⟩
      · rw [if_neg h3]
        have d3 : decide ((56320 : Int) ≤ (x : Int)) = false := decide_eq_false (by omega)
        by_cases h5 : Pl.pre [92, 117] r1 = true
        · rw [if_pos h5]
          have wd := fun u q => Jr.word ⟨#[92, 117]⟩ r1 h5 g T u q
          rw [show (⟨#[92, 117]⟩ : ByteArray).size = 2 from rfl] at wd
          have u2 := fun u q => Jr.unit (r1.drop 2) g T u q
          clear h5
          cases h6 : Js.four (r1.drop 2) with
          | none =>
            rw [h6] at u2
            clear h6
            go_enter Tryz.func119, Tryz.ntmps119
            go_wp2_with (first | (go_at_call 130; refine u1.mono ?_; rintro e w1 ⟨rfl, b1, q1⟩; have HB1 := Lib.hid b1; replace wd := wd _ q1; clear b1 q1 u1) | (go_at_call 70; refine wd.mono ?_; rintro e w2 ⟨rfl, b2, q2⟩; have HB2 := Lib.hid (Jr.grown_trans HB1.out b2); replace u2 := u2 _ q2; clear b2 q2 wd) | (go_at_call 130; refine u2.mono ?_; rintro e w3 ⟨rfl, b3⟩; have HB3 := Lib.hid (Jr.grown_trans HB2.out b3); clear b3))
            exact ⟨rfl, rfl, HB3.out⟩
          | some p =>
            obtain ⟨y, r3⟩ := p
            have hy := (Js.four_len h6).2.1
            rw [h6] at u2
            clear h6
            simp only
            by_cases h7 : y < 56320 ∨ 57344 ≤ y
            · rw [if_pos h7]
              by_cases h8 : y < 56320
              · have d4 : decide ((y : Int) < 56320) = true := decide_eq_true (by omega)
                clear h7
                go_enter Tryz.func119, Tryz.ntmps119
                go_wp2_with (first | (go_at_call 130; refine u1.mono ?_; rintro e w1 ⟨rfl, b1, q1⟩; have HB1 := Lib.hid b1; replace wd := wd _ q1; clear b1 q1 u1) | (go_at_call 70; refine wd.mono ?_; rintro e w2 ⟨rfl, b2, q2⟩; have HB2 := Lib.hid (Jr.grown_trans HB1.out b2); replace u2 := u2 _ q2; clear b2 q2 wd) | (go_at_call 130; refine u2.mono ?_; rintro e w3 ⟨rfl, b3, q3⟩; have HB3 := Lib.hid (Jr.grown_trans HB2.out b3); clear b3 q3))
                exact ⟨rfl, rfl, HB3.out⟩
              · have d4 : decide ((y : Int) < 56320) = false := decide_eq_false (by omega)
                have d5 : decide ((57344 : Int) ≤ (y : Int)) = true := decide_eq_true (by omega)
                clear h7
                go_enter Tryz.func119, Tryz.ntmps119
                go_wp2_with (first | (go_at_call 130; refine u1.mono ?_; rintro e w1 ⟨rfl, b1, q1⟩; have HB1 := Lib.hid b1; replace wd := wd _ q1; clear b1 q1 u1) | (go_at_call 70; refine wd.mono ?_; rintro e w2 ⟨rfl, b2, q2⟩; have HB2 := Lib.hid (Jr.grown_trans HB1.out b2); replace u2 := u2 _ q2; clear b2 q2 wd) | (go_at_call 130; refine u2.mono ?_; rintro e w3 ⟨rfl, b3, q3⟩; have HB3 := Lib.hid (Jr.grown_trans HB2.out b3); clear b3 q3))
                exact ⟨rfl, rfl, HB3.out⟩
            · rw [if_neg h7]
              have d4 : decide ((y : Int) < 56320) = false := decide_eq_false (by omega)
              have d5 : decide ((57344 : Int) ≤ (y : Int)) = false := decide_eq_false (by omega)
              have hyl : 56320 ≤ y := by omega
              have hyh : y < 57344 := by omega
              have hxh : x < 56320 := by omega
              have eN : ((65536 + (x - 55296) * 1024 + (y - 56320) : Nat) : Int) = 65536 + ((x : Int) - 55296) * 1024 + ((y : Int) - 56320) := by omega
              clear h7
              go_enter Tryz.func119, Tryz.ntmps119
              go_wp2_with (first | (go_at_call 130; refine u1.mono ?_; rintro e w1 ⟨rfl, b1, q1⟩; have HB1 := Lib.hid b1; replace wd := wd _ q1; clear b1 q1 u1) | (go_at_call 70; refine wd.mono ?_; rintro e w2 ⟨rfl, b2, q2⟩; have HB2 := Lib.hid (Jr.grown_trans HB1.out b2); replace u2 := u2 _ q2; clear b2 q2 wd) | (go_at_call 130; refine u2.mono ?_; rintro e w3 ⟨rfl, b3, q3⟩; have HB3 := Lib.hid (Jr.grown_trans HB2.out b3); have HR3 := Lib.hid q3; clear b3 q3))
              go_ret
              exact ⟨congrArg (fun z => Ending.returned (.int .i32 z)) eN.symm, HB3.out, HR3.out⟩
        · rw [if_neg h5]
          have wd := fun u q => Jr.word_no ⟨#[92, 117]⟩ r1 (Bool.eq_false_iff.2 h5) g T u q
          clear h5
          go_enter Tryz.func119, Tryz.ntmps119
          go_wp2_with (first | (go_at_call 130; refine u1.mono ?_; rintro e w1 ⟨rfl, b1, q1⟩; have HB1 := Lib.hid b1; replace wd := wd _ q1; clear b1 q1 u1) | (go_at_call 70; refine wd.mono ?_; rintro e w2 ⟨rfl, b2⟩; have HB2 := Lib.hid (Jr.grown_trans HB1.out b2); clear b2 wd))
          exact ⟨rfl, rfl, HB2.out⟩
theorem Jr.wrap_byte (c : UInt8) : wrap32 (c.toNat : Int) = (c.toNat : Int) := by
  have := c.toNat_lt
  unfold wrap32
  omega
theorem Jr.eq_dec (c d : UInt8) : ((c.toNat : Int) == (d.toNat : Int)) = decide (c = d) := by
  by_cases h : c = d
  · rw [h]; simp
  · rw [decide_eq_false h, beq_eq_false_iff_ne]
    exact fun q => h (UInt8.toNat_inj.1 (by omega))
set_option maxRecDepth 100000 in
set_option maxHeartbeats 2000000 in
theorem Jr.escape (l : List UInt8) (g : Nat) (T : ByteArray) (w : World) (h : Jr.Rd w g T l) :
    Calls Tryz.prog 101 #[.pointer (some ⟨g, 0, none⟩)] w (Jr.Out (Jr.escaped l) (fun x => .int .i32 (x : Int)) w g T) := by
  cases l with
  | nil =>
    have tk := Jr.take_end g T w h
    go_enter Tryz.func101, Tryz.ntmps101
    go_wp2_with (go_at_call 100; refine tk.mono ?_; rintro e w1 ⟨rfl, b1⟩)
    exact ⟨rfl, rfl, b1⟩
  | cons c r =>
    have tk := Jr.take c r g T w h
    have nu := fun u q => Jr.numbered r g T u q
    rw [Jr.escaped]
    clear h
    have e34 : ((c.toNat : Int) == 34) = decide (c = 34) := Jr.eq_dec c 34
    have e92 : ((c.toNat : Int) == 92) = decide (c = 92) := Jr.eq_dec c 92
    have e47 : ((c.toNat : Int) == 47) = decide (c = 47) := Jr.eq_dec c 47
    have e98 : ((c.toNat : Int) == 98) = decide (c = 98) := Jr.eq_dec c 98
    have e102 : ((c.toNat : Int) == 102) = decide (c = 102) := Jr.eq_dec c 102
    have e110 : ((c.toNat : Int) == 110) = decide (c = 110) := Jr.eq_dec c 110
    have e114 : ((c.toNat : Int) == 114) = decide (c = 114) := Jr.eq_dec c 114
    have e116 : ((c.toNat : Int) == 116) = decide (c = 116) := Jr.eq_dec c 116
    have e117 : ((c.toNat : Int) == 117) = decide (c = 117) := Jr.eq_dec c 117
    by_cases h34 : c = 34
    · rw [decide_eq_true h34] at e34
      rw [if_pos (by simp [h34])]
      clear e92 e47 e98 e102 e110 e114 e116 e117 h34
      clear nu
      go_enter Tryz.func101, Tryz.ntmps101
      go_wp2_with (go_at_call 100; refine tk.mono ?_; rintro e w1 ⟨rfl, b1, q1⟩; have HB1 := Lib.hid b1; have HR1 := Lib.hid q1; clear b1 q1 tk)
      go_ret
      exact ⟨congrArg (fun z => Ending.returned (.int .i32 z)) (Jr.wrap_byte c), HB1.out, HR1.out⟩
    · rw [decide_eq_false h34] at e34
      by_cases h92 : c = 92
      · rw [decide_eq_true h92] at e92
        rw [if_pos (by simp [h92])]
        clear e47 e98 e102 e110 e114 e116 e117 h34 h92
        clear nu
        go_enter Tryz.func101, Tryz.ntmps101
        go_wp2_with (go_at_call 100; refine tk.mono ?_; rintro e w1 ⟨rfl, b1, q1⟩; have HB1 := Lib.hid b1; have HR1 := Lib.hid q1; clear b1 q1 tk)
        go_ret
        exact ⟨congrArg (fun z => Ending.returned (.int .i32 z)) (Jr.wrap_byte c), HB1.out, HR1.out⟩
      · rw [decide_eq_false h92] at e92
        by_cases h47 : c = 47
        · rw [decide_eq_true h47] at e47
          rw [if_pos (by simp [h47])]
          clear e98 e102 e110 e114 e116 e117 h34 h92 h47
          clear nu
          go_enter Tryz.func101, Tryz.ntmps101
          go_wp2_with (go_at_call 100; refine tk.mono ?_; rintro e w1 ⟨rfl, b1, q1⟩; have HB1 := Lib.hid b1; have HR1 := Lib.hid q1; clear b1 q1 tk)
          go_ret
          exact ⟨congrArg (fun z => Ending.returned (.int .i32 z)) (Jr.wrap_byte c), HB1.out, HR1.out⟩
        · rw [decide_eq_false h47] at e47
          by_cases h98 : c = 98
          · rw [decide_eq_true h98] at e98
            rw [if_neg (by simp [h34, h92, h47]), if_pos h98]
            clear e102 e110 e114 e116 e117 h34 h92 h47 h98
            clear nu
            go_enter Tryz.func101, Tryz.ntmps101
            go_wp2_with (go_at_call 100; refine tk.mono ?_; rintro e w1 ⟨rfl, b1, q1⟩; have HB1 := Lib.hid b1; have HR1 := Lib.hid q1; clear b1 q1 tk)
            go_ret
            exact ⟨rfl, HB1.out, HR1.out⟩
          · rw [decide_eq_false h98] at e98
            by_cases h102 : c = 102
            · rw [decide_eq_true h102] at e102
              rw [if_neg (by simp [h34, h92, h47]), if_neg h98, if_pos h102]
              clear e110 e114 e116 e117 h34 h92 h47 h98 h102
              clear nu
              go_enter Tryz.func101, Tryz.ntmps101
              go_wp2_with (go_at_call 100; refine tk.mono ?_; rintro e w1 ⟨rfl, b1, q1⟩; have HB1 := Lib.hid b1; have HR1 := Lib.hid q1; clear b1 q1 tk)
              go_ret
              exact ⟨rfl, HB1.out, HR1.out⟩
            · rw [decide_eq_false h102] at e102
              by_cases h110 : c = 110
              · rw [decide_eq_true h110] at e110
                rw [if_neg (by simp [h34, h92, h47]), if_neg h98, if_neg h102, if_pos h110]
                clear e114 e116 e117 h34 h92 h47 h98 h102 h110
                clear nu
                go_enter Tryz.func101, Tryz.ntmps101
                go_wp2_with (go_at_call 100; refine tk.mono ?_; rintro e w1 ⟨rfl, b1, q1⟩; have HB1 := Lib.hid b1; have HR1 := Lib.hid q1; clear b1 q1 tk)
                go_ret
                exact ⟨rfl, HB1.out, HR1.out⟩
              · rw [decide_eq_false h110] at e110
                by_cases h114 : c = 114
                · rw [decide_eq_true h114] at e114
                  rw [if_neg (by simp [h34, h92, h47]), if_neg h98, if_neg h102, if_neg h110, if_pos h114]
                  clear e116 e117 h34 h92 h47 h98 h102 h110 h114
                  clear nu
                  go_enter Tryz.func101, Tryz.ntmps101
                  go_wp2_with (go_at_call 100; refine tk.mono ?_; rintro e w1 ⟨rfl, b1, q1⟩; have HB1 := Lib.hid b1; have HR1 := Lib.hid q1; clear b1 q1 tk)
                  go_ret
                  exact ⟨rfl, HB1.out, HR1.out⟩
                · rw [decide_eq_false h114] at e114
                  by_cases h116 : c = 116
                  · rw [decide_eq_true h116] at e116
                    rw [if_neg (by simp [h34, h92, h47]), if_neg h98, if_neg h102, if_neg h110, if_neg h114, if_pos h116]
                    clear e117 h34 h92 h47 h98 h102 h110 h114 h116
                    clear nu
                    go_enter Tryz.func101, Tryz.ntmps101
                    go_wp2_with (go_at_call 100; refine tk.mono ?_; rintro e w1 ⟨rfl, b1, q1⟩; have HB1 := Lib.hid b1; have HR1 := Lib.hid q1; clear b1 q1 tk)
                    go_ret
                    exact ⟨rfl, HB1.out, HR1.out⟩
                  · rw [decide_eq_false h116] at e116
                    by_cases h117 : c = 117
                    · rw [decide_eq_true h117] at e117
                      rw [if_neg (by simp [h34, h92, h47]), if_neg h98, if_neg h102, if_neg h110, if_neg h114, if_neg h116, if_pos h117]
                      clear h34 h92 h47 h98 h102 h110 h114 h116 h117
                      cases hu : Jr.uni r with
                      | none =>
                        rw [hu] at nu
                        clear hu
                        go_enter Tryz.func101, Tryz.ntmps101
                        go_wp2_with (first | (go_at_call 100; refine tk.mono ?_; rintro e w1 ⟨rfl, b1, q1⟩; have HB1 := Lib.hid b1; replace nu := nu _ q1; clear b1 q1 tk) | (go_at_call 119; refine nu.mono ?_; rintro e w2 ⟨rfl, b2⟩; have HB2 := Lib.hid (Jr.grown_trans HB1.out b2); clear b2))
                        exact ⟨rfl, rfl, HB2.out⟩
                      | some p =>
                        obtain ⟨x, r1⟩ := p
                        rw [hu] at nu
                        clear hu
                        go_enter Tryz.func101, Tryz.ntmps101
                        go_wp2_with (first | (go_at_call 100; refine tk.mono ?_; rintro e w1 ⟨rfl, b1, q1⟩; have HB1 := Lib.hid b1; replace nu := nu _ q1; clear b1 q1 tk) | (go_at_call 119; refine nu.mono ?_; rintro e w2 ⟨rfl, b2, q2⟩; have HB2 := Lib.hid (Jr.grown_trans HB1.out b2); have HR2 := Lib.hid q2; clear b2 q2))
                        go_ret
                        exact ⟨rfl, HB2.out, HR2.out⟩
                    · rw [decide_eq_false h117] at e117
                      rw [if_neg (by simp [h34, h92, h47]), if_neg h98, if_neg h102, if_neg h110, if_neg h114, if_neg h116, if_neg h117]
                      clear nu h34 h92 h47 h98 h102 h110 h114 h116 h117
                      go_enter Tryz.func101, Tryz.ntmps101
                      go_wp2_with (go_at_call 100; refine tk.mono ?_; rintro e w1 ⟨rfl, b1, q1⟩; have HB1 := Lib.hid b1; clear b1 q1 tk)
                      exact ⟨rfl, rfl, HB1.out⟩
end Go.Proofs.YtboalkfagfgnpaaGreatDoor
/-
  THE WALK of utf.Norm: it returns what 'Pl.normL' gives of the bytes (texts of up to 2^45 bytes: a Builder's room), and turns nothing that was there.
-/
namespace Go.Proofs.YtboalkfagfgnpaaGreatDoor
open Go.RowKit

theorem Wk.atF_below {T e : TypeId} {B b : Nat} {p : Value} {bs : List Value} {W W' : World} (h : Lib.BuilderAtF T e B b p bs W) (hb : Below W.heap.size W W') : Lib.BuilderAtF T e B b p bs W' := by
  have hlt := h.lt
  obtain ⟨hB, v, hv, hown, hne⟩ := h
  exact ⟨hB, v, (hb.block b hlt).trans hv, hown.kept (row := none) ⟨hb.os, hb.tape, hb.output, hb.size, fun k hk _ => hb.block k hk⟩ (Classical.em _), hne⟩
theorem Wk.isF_below {T e : TypeId} {B b : Nat} {bs : List Value} {W W' : World} (h : Lib.IsBuilderF T e B b bs W) (hb : Below W.heap.size W W') : Lib.IsBuilderF T e B b bs W' :=
  h.elim (fun x => .inl (Wk.atF_below x hb)) (fun x => .inr (Wk.atF_below x hb))
theorem Wk.part_data (s : ByteArray) (k m : Nat) : (s.extract k (k + m)).data.toList = (s.data.toList.drop k).take m := by
  rw [Lib.extract_data, Nat.add_sub_cancel_left]
theorem Wk.part_size (s : ByteArray) (k m : Nat) (h : k + m ≤ s.size) : (s.extract k (k + m)).size = m := by
  rw [← Wk.len_data, Wk.part_data, List.length_take, List.length_drop, Wk.len_data]; omega

/-- a text from one place to another -/
theorem Wk.run_cut (w : World) (s : ByteArray) (l h : Int) (h0 : 0 ≤ l) (h1 : l ≤ h) (h2 : h ≤ s.size) :
    (Instr.slice 9 (.string s) (some (.int .i64 l)) (some (.int .i64 h)) none).run Tryz.prog w = .ok (.string (s.extract l.toNat h.toNat)) w := by
  have eh : (h.toNat : Int) = h := Int.toNat_of_nonneg (by omega)
  simp [Instr.slice, run_underlying Tryz.underlying9, Instr.sliceBounds, run_sliceBound, h0, h1, h2, eh, (by omega : 0 ≤ h)]
theorem Wk.ret_str {a b : List UInt8} (h : a = b) : Ending.returned (.string ⟨a.toArray⟩) = .returned (.string ⟨b.toArray⟩) := by rw [h]

set_option maxHeartbeats 1000000 in
theorem Wk.norm (s : ByteArray) (w : World) (hT : Lib.Utf8Tabs 1 2 w) (hs : s.size ≤ 35184372088832) :
    Calls Tryz.prog 90 #[.string s] w fun e w' => e = .returned (.string ⟨(Pl.normL s.data.toList).toArray⟩) ∧ Below w.heap.size w w' := by
  have c0 := Sh.Builder_Grow_fresh w.heap.size w.heap.size s.size (w.alloc (.cells #[.pointer none, .slice none 0 0] 46)) (Nat.le_refl _) (heap_alloc_new w _) (by simp) (by omega)
  go_enter Tryz.func90, Tryz.ntmps90
  go_wp2_with (go_at_call 92; refine c0.mono ?_; rintro e w0 ⟨rfl, hB0, hb0⟩)
  have hbw0 : Below w.heap.size w w0 := ((Below.refl _ _).alloc (Nat.le_refl _) _).trans hb0
  have hI0 : Lib.IsBuilderF 46 5 w.heap.size w.heap.size (Lib.byteCells []) w0 := .inr (Lib.BuilderAtF.of hB0)
  clear c0 hB0 hb0
  go_loopw [4] (fun i wr => ∃ (k : Nat) (acc : List UInt8), k ≤ s.size ∧ i = .int .i64 k ∧ Lib.IsBuilderF 46 5 w.heap.size w.heap.size (Lib.byteCells acc) wr ∧ Below w.heap.size w wr ∧ Hid (acc ++ Pl.normL (s.data.toList.drop k) = Pl.normL s.data.toList) ∧ acc.length ≤ 3 * k) (fun i _ => s.size - (intOf i).toNat)
  case atStart => exact ⟨0, [], Nat.zero_le _, rfl, hI0, hbw0, rfl, Nat.le_refl _⟩
  case round =>
    clear hI0 hbw0
    obtain ⟨k, acc, hk, rfl, hI, hb, hn, hal⟩ := hrel
    have c := Wk.sign_at s k wr (Utf8Tabs_below hT hb)
    have hsz := hb.size
    by_cases hlt : k < s.size
    · have hle := Pl.sgn_le (s.data.toList.drop k)
      rw [List.length_drop, Wk.len_data] at hle
      obtain ⟨m, hmm⟩ : ∃ m, Pl.sgn (s.data.toList.drop k) = m := ⟨_, rfl⟩
      rw [hmm] at c hle
      have HM : Hid (Pl.sgn (s.data.toList.drop k) = m) := hmm
      clear hmm
      by_cases h0 : m = 0
      · have hz : ((m : Int) == 0) = true := beq_iff_eq.2 (by omega)
        go_wp2_with (go_at_call 47; refine c.mono ?_; rintro e w1 ⟨rfl, hb1⟩)
        refine (Sh.Builder_WriteString_k w.heap.size w.heap.size _ _ w1 (Wk.isF_below hI hb1) (by rw [Lib.byteCells_length]; show acc.length + 3 ≤ _; omega) (by have := hb1.size; omega)).mono ?_
        rintro e w2 ⟨rfl, hI2, hb2, _⟩
        have hb' : Below w.heap.size w w2 := (Wk.below_step hb hb1).trans hb2
        have hI' : Lib.IsBuilderF 46 5 w.heap.size w.heap.size (Lib.byteCells (acc ++ Pl.fffd)) w2 := by
          rw [Lib.byteCells_append]; exact .inr hI2
        have HN : Hid ((acc ++ Pl.fffd) ++ Pl.normL (s.data.toList.drop (k + 1)) = Pl.normL s.data.toList) := by
          have h1 := Pl.normL_bad _ (Wk.drop_ne s k hlt) (HM.out.trans h0)
          rw [List.drop_drop] at h1
          show _ = _
          rw [← hn.out, h1, List.append_assoc]
        clear hI hI2 hb1 hb2 c hn HM
        go_wp2
        go_roundw
        case rel => exact ⟨k + 1, acc ++ Pl.fffd, by omega, by go_num, hI', hb', HN, by simp [Pl.fffd]; omega⟩
        case measure => simp [intOf]; omega
      · have hz : ((m : Int) == 0) = false := beq_eq_false_iff_ne.2 (by omega)
        have hcut : ∀ u : World, (Instr.slice 9 (.string s) (some (.int .i64 (k : Int))) (some (.int .i64 ((k : Int) + (m : Int)))) none).run Tryz.prog u = .ok (.string (s.extract k (k + m))) u := fun u => by
          have h := Wk.run_cut u s (k : Int) ((k : Int) + (m : Int)) (by omega) (by omega) (by omega)
          rwa [show ((k : Int) + (m : Int)).toNat = k + m by omega, Int.toNat_natCast] at h
        have hps := Wk.part_size s k m (by omega)
        have hpd := Wk.part_data s k m
        generalize s.extract k (k + m) = part at hcut hps hpd
        have HPS := hps
        have HPD : Hid (part.data.toList = (s.data.toList.drop k).take m) := hpd
        clear hps hpd
        go_wp2_with (go_at_call 47; refine c.mono ?_; rintro e w1 ⟨rfl, hb1⟩)
        refine (Sh.Builder_WriteString_k w.heap.size w.heap.size _ _ w1 (Wk.isF_below hI hb1) (by rw [Lib.byteCells_length]; omega) (by have := hb1.size; omega)).mono ?_
        rintro e w2 ⟨rfl, hI2, hb2, _⟩
        have hb' : Below w.heap.size w w2 := (Wk.below_step hb hb1).trans hb2
        have hI' : Lib.IsBuilderF 46 5 w.heap.size w.heap.size (Lib.byteCells (acc ++ (s.data.toList.drop k).take m)) w2 := by
          rw [Lib.byteCells_append, ← HPD.out]; exact .inr hI2
        have HN : Hid ((acc ++ (s.data.toList.drop k).take m) ++ Pl.normL (s.data.toList.drop (k + m)) = Pl.normL s.data.toList) := by
          have h1 := Pl.normL_sign (s.data.toList.drop k) (by rw [HM.out]; exact h0)
          rw [HM.out, List.drop_drop] at h1
          show _ = _
          rw [← hn.out, h1, List.append_assoc]
        clear hI hI2 hb1 hb2 c hn HM HPD HPS hcut
        go_wp2
        go_roundw
        case rel => exact ⟨k + m, acc ++ (s.data.toList.drop k).take m, by omega, by go_num, hI', hb', HN, by simp; omega⟩
        case measure => simp [intOf]; omega
    · have hke : k = s.size := by omega
      go_wp2_with (go_at_call 18; refine (Sh.Builder_String_any_k w.heap.size w.heap.size acc _ hI (by omega)).mono ?_; rintro e w1 ⟨rfl, _, hb1, _⟩)
      go_ret
      refine ⟨Wk.ret_str ?_, hb.trans hb1⟩
      have := hn.out
      rwa [hke, List.drop_of_length_le (by rw [Wk.len_data]; exact Nat.le_refl _), Pl.normL_nil, List.append_nil] at this
end Go.Proofs.YtboalkfagfgnpaaGreatDoor

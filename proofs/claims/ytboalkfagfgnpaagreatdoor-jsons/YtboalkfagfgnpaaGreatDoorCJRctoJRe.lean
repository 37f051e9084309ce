/-
  THE WALKS of the landed reader: skipBlanks, unit, numbered, escaped.
-/
import Derived.Test.YtboalkfagfgnpaaGreatDoorCQSettoJRb
import Derived.Deep.RegionWith
import Derived.Lib.Hide
namespace Go.Proofs.YtboalkfagfgnpaaGreatDoor
open Go.RowKit
/-- what a reading function does: it gives what it read and stands behind it, or throws -/
def Jr.Out {α : Type} (o : Option (α × List UInt8)) (f : α → Value) (w : World) (g : Nat) (T : ByteArray) (e : Ending) (w' : World) : Prop :=
  match o with
  | none => e = .panicked Jr.fault ∧ w.grownBy w' (some g)
  | some (a, r) => e = .returned (f a) ∧ w.grownBy w' (some g) ∧ Jr.Rd w' g T r
set_option maxRecDepth 100000 in
set_option maxHeartbeats 1000000 in
theorem Jr.sixteen_no (c : UInt8) (hc : ¬ Pl.dig c < 16) (w : World) : Calls Tryz.prog 132 #[.int .u8 (c.toNat : Int)] w fun e w' => e = .panicked Jr.fault ∧ w' = w := by
  have di := Jr.isDigit c
  have hq : Pl.digit c = false ∧ (c.toNat < 97 ∨ 102 < c.toNat) ∧ (c.toNat < 65 ∨ 70 < c.toNat) := by
    have := Ug.all (p := fun c => decide (Pl.dig c < 16) || decide (Pl.digit c = false ∧ (c.toNat < 97 ∨ 102 < c.toNat) ∧ (c.toNat < 65 ∨ 70 < c.toNat))) (by decide +kernel) c
    rw [decide_eq_false hc] at this
    simpa using this
  clear hc
  obtain ⟨h0, h1, h2⟩ := hq
  rw [h0] at di
  clear h0
  generalize c.toNat = m at *
  by_cases q1 : 97 ≤ m
  · have d1 : decide ((97 : Int) ≤ (m : Int)) = true := decide_eq_true (by omega)
    have d2 : decide ((m : Int) ≤ 102) = false := decide_eq_false (by omega)
    have d3 : decide ((65 : Int) ≤ (m : Int)) = true := decide_eq_true (by omega)
    have d4 : decide ((m : Int) ≤ 70) = false := decide_eq_false (by omega)
    clear h1 h2
    go_enter Tryz.func132, Tryz.ntmps132
    go_wp2_with (go_at_call 120; refine (di _).mono ?_; rintro e w' ⟨rfl, hw⟩; have hw := hw.symm; subst hw)
    exact ⟨rfl, rfl, rfl⟩
  · have d1 : decide ((97 : Int) ≤ (m : Int)) = false := decide_eq_false (by omega)
    by_cases q2 : 65 ≤ m
    · have d3 : decide ((65 : Int) ≤ (m : Int)) = true := decide_eq_true (by omega)
      have d4 : decide ((m : Int) ≤ 70) = false := decide_eq_false (by omega)
      clear h1 h2
      go_enter Tryz.func132, Tryz.ntmps132
      go_wp2_with (go_at_call 120; refine (di _).mono ?_; rintro e w' ⟨rfl, hw⟩; have hw := hw.symm; subst hw)
      exact ⟨rfl, rfl, rfl⟩
    · have d3 : decide ((65 : Int) ≤ (m : Int)) = false := decide_eq_false (by omega)
      clear h1 h2
      go_enter Tryz.func132, Tryz.ntmps132
      go_wp2_with (go_at_call 120; refine (di _).mono ?_; rintro e w' ⟨rfl, hw⟩; have hw := hw.symm; subst hw)
      exact ⟨rfl, rfl, rfl⟩
theorem Jr.skip (c : UInt8) (hc : c ≠ 0) (l : List UInt8) (g : Nat) (T : ByteArray) (w : World) (h : Jr.Rd w g T l) :
    Calls Tryz.prog 75 #[.pointer (some ⟨g, 0, none⟩), .int .u8 (c.toNat : Int)] w fun e w' => e = .returned (.bool (decide (l.headD 0 = c))) ∧ w.grownBy w' (some g) ∧ Jr.Rd w' g T (if l.headD 0 = c then l.tail else l) := by
  by_cases hq : l.headD 0 = c
  · rw [decide_eq_true hq, if_pos hq]
    cases l with
    | nil => exact absurd hq.symm hc
    | cons d r =>
      have hq : d = c := hq
      subst hq
      exact Jr.skip_yes d r g T w h
  · rw [decide_eq_false hq, if_neg hq]
    exact (Jr.skip_no l c hq g T w h).mono fun e w' ⟨h1, h2⟩ => ⟨h1, Jr.grown_some h2 _, h.on h2⟩
theorem Jr.ws_skip {c : UInt8} {l : List UInt8} (h : l.headD 0 = c) (hb : Js.blank c = true) : Js.ws l.tail = Js.ws l ∧ l.tail.length < l.length := by
  cases l with
  | nil => subst h; exact absurd hb (by decide)
  | cons d r =>
    have h : d = c := h
    subst h
    refine ⟨?_, by simp⟩
    unfold Js.ws
    rw [List.dropWhile_cons, if_pos hb]
    rfl
theorem Jr.ws_stop {l : List UInt8} (h : l.headD 0 ≠ 32 ∧ l.headD 0 ≠ 10 ∧ l.headD 0 ≠ 9 ∧ l.headD 0 ≠ 13) : Js.ws l = l := by
  cases l with
  | nil => rfl
  | cons d r =>
    have h : d ≠ 32 ∧ d ≠ 10 ∧ d ≠ 9 ∧ d ≠ 13 := h
    unfold Js.ws
    rw [List.dropWhile_cons, if_neg]
    unfold Js.blank
    simp [h.1, h.2.1, h.2.2.1, h.2.2.2]
set_option maxRecDepth 100000 in
set_option maxHeartbeats 2000000 in
theorem Jr.blanks (l : List UInt8) (g : Nat) (T : ByteArray) (w : World) (h : Jr.Rd w g T l) :
    Calls Tryz.prog 50 #[.pointer (some ⟨g, 0, none⟩)] w fun e w' => e = .returned (.tuple #[]) ∧ w.grownBy w' (some g) ∧ Jr.Rd w' g T (Js.ws l) := by
  have s32 : ∀ l u, Jr.Rd u g T l → Calls Tryz.prog 75 #[.pointer (some ⟨g, 0, none⟩), .int .u8 32] u fun e w' => e = .returned (.bool (decide (l.headD 0 = 32))) ∧ u.grownBy w' (some g) ∧ Jr.Rd w' g T (if l.headD 0 = 32 then l.tail else l) := fun l u h => Jr.skip 32 (by decide) l g T u h
  have s10 : ∀ l u, Jr.Rd u g T l → Calls Tryz.prog 75 #[.pointer (some ⟨g, 0, none⟩), .int .u8 10] u fun e w' => e = .returned (.bool (decide (l.headD 0 = 10))) ∧ u.grownBy w' (some g) ∧ Jr.Rd w' g T (if l.headD 0 = 10 then l.tail else l) := fun l u h => Jr.skip 10 (by decide) l g T u h
  have s9 : ∀ l u, Jr.Rd u g T l → Calls Tryz.prog 75 #[.pointer (some ⟨g, 0, none⟩), .int .u8 9] u fun e w' => e = .returned (.bool (decide (l.headD 0 = 9))) ∧ u.grownBy w' (some g) ∧ Jr.Rd w' g T (if l.headD 0 = 9 then l.tail else l) := fun l u h => Jr.skip 9 (by decide) l g T u h
  have s13 : ∀ l u, Jr.Rd u g T l → Calls Tryz.prog 75 #[.pointer (some ⟨g, 0, none⟩), .int .u8 13] u fun e w' => e = .returned (.bool (decide (l.headD 0 = 13))) ∧ u.grownBy w' (some g) ∧ Jr.Rd w' g T (if l.headD 0 = 13 then l.tail else l) := fun l u h => Jr.skip 13 (by decide) l g T u h
  obtain ⟨W, hW⟩ : ∃ W, Js.ws l = W := ⟨_, rfl⟩
  rw [hW]
  have HW := Lib.hid hW
  have HR := Lib.hid h
  clear hW h
  obtain ⟨rem, hrem⟩ : ∃ rem : World → Nat, rem = fun u => T.size - (match u.cell? ⟨g, 1, none⟩ with | some v => (intOf v).toNat | none => 0) := ⟨_, rfl⟩
  have HM : Hid (∀ (u : World) (l : List UInt8), Jr.Rd u g T l → rem u = l.length) := by
    intro u l hR
    obtain ⟨i, h1, h2, h3, hB⟩ := hR
    have c1 : u.cell? ⟨g, 1, none⟩ = some (.int .i64 (i : Int)) := hB.cell 1 rfl
    rw [hrem, ← h2, List.length_drop, Wk.len_data]
    simp only [c1]
    simp [intOf]
  clear hrem
  go_enter Tryz.func50, Tryz.ntmps50
  go_wp2_with fail
  go_loopw [] (fun wr => ∃ l' : List UInt8, Hid (Js.ws l' = W) ∧ Hid (Jr.Rd wr g T l') ∧ Hid (w.grownBy wr (some g))) (fun wr => rem wr)
  case atStart => exact ⟨l, HW, HR, World.grownBy.refl _ _⟩
  case round =>
    clear HW HR
    obtain ⟨l', HW, HR, HG⟩ := hrel
    have HL := Lib.hid (HM.out _ _ HR.out)
    by_cases h32 : l'.headD 0 = 32
    · have t1 := s32 l' _ HR.out
      rw [decide_eq_true h32, if_pos h32] at t1
      have HS := Lib.hid (Jr.ws_skip h32 (by decide))
      clear h32 s32 s10 s9 s13
      go_wp2_with (go_at_call 75; refine t1.mono ?_; rintro e w1 ⟨rfl, b1, r1⟩; have HB1 := Lib.hid (Jr.grown_trans HG.out b1); have HR1 := Lib.hid r1; clear b1 r1)
      go_roundw
      case rel => exact ⟨l'.tail, HS.out.1.trans HW.out, HR1, HB1⟩
      case measure => rw [HM.out _ _ HR1.out, HL.out]; exact HS.out.2
    · have t1 := s32 l' _ HR.out
      rw [decide_eq_false h32, if_neg h32] at t1
      have t2 := s10 l'
      by_cases h10 : l'.headD 0 = 10
      · rw [decide_eq_true h10, if_pos h10] at t2
        have HS := Lib.hid (Jr.ws_skip h10 (by decide))
        clear h32 h10 s32 s10 s9 s13
        go_wp2_with (first | (go_at_call_of 75 (Value.int .u8 32); refine t1.mono ?_; rintro e w1 ⟨rfl, b1, r1⟩; have HB1 := Lib.hid (Jr.grown_trans HG.out b1); replace t2 := t2 _ r1; clear b1 r1) | (go_at_call_of 75 (Value.int .u8 10); refine t2.mono ?_; rintro e w2 ⟨rfl, b2, r2⟩; have HB2 := Lib.hid (Jr.grown_trans HB1.out b2); have HR2 := Lib.hid r2; clear b2 r2))
        go_roundw
        case rel => exact ⟨l'.tail, HS.out.1.trans HW.out, HR2, HB2⟩
        case measure => rw [HM.out _ _ HR2.out, HL.out]; exact HS.out.2
      · rw [decide_eq_false h10, if_neg h10] at t2
        have t3 := s9 l'
        by_cases h9 : l'.headD 0 = 9
        · rw [decide_eq_true h9, if_pos h9] at t3
          have HS := Lib.hid (Jr.ws_skip h9 (by decide))
          clear h32 h10 h9 s32 s10 s9 s13
          go_wp2_with (first | (go_at_call_of 75 (Value.int .u8 32); refine t1.mono ?_; rintro e w1 ⟨rfl, b1, r1⟩; have HB1 := Lib.hid (Jr.grown_trans HG.out b1); replace t2 := t2 _ r1; clear b1 r1) | (go_at_call_of 75 (Value.int .u8 10); refine t2.mono ?_; rintro e w2 ⟨rfl, b2, r2⟩; have HB2 := Lib.hid (Jr.grown_trans HB1.out b2); replace t3 := t3 _ r2; clear b2 r2) | (go_at_call_of 75 (Value.int .u8 9); refine t3.mono ?_; rintro e w3 ⟨rfl, b3, r3⟩; have HB3 := Lib.hid (Jr.grown_trans HB2.out b3); have HR3 := Lib.hid r3; clear b3 r3))
          go_roundw
          case rel => exact ⟨l'.tail, HS.out.1.trans HW.out, HR3, HB3⟩
          case measure => rw [HM.out _ _ HR3.out, HL.out]; exact HS.out.2
        · rw [decide_eq_false h9, if_neg h9] at t3
          have t4 := s13 l'
          by_cases h13 : l'.headD 0 = 13
          · rw [decide_eq_true h13, if_pos h13] at t4
            have HS := Lib.hid (Jr.ws_skip h13 (by decide))
            clear h32 h10 h9 h13 s32 s10 s9 s13
            go_wp2_with (first | (go_at_call_of 75 (Value.int .u8 32); refine t1.mono ?_; rintro e w1 ⟨rfl, b1, r1⟩; have HB1 := Lib.hid (Jr.grown_trans HG.out b1); replace t2 := t2 _ r1; clear b1 r1) | (go_at_call_of 75 (Value.int .u8 10); refine t2.mono ?_; rintro e w2 ⟨rfl, b2, r2⟩; have HB2 := Lib.hid (Jr.grown_trans HB1.out b2); replace t3 := t3 _ r2; clear b2 r2) | (go_at_call_of 75 (Value.int .u8 9); refine t3.mono ?_; rintro e w3 ⟨rfl, b3, r3⟩; have HB3 := Lib.hid (Jr.grown_trans HB2.out b3); replace t4 := t4 _ r3; clear b3 r3) | (go_at_call_of 75 (Value.int .u8 13); refine t4.mono ?_; rintro e w4 ⟨rfl, b4, r4⟩; have HB4 := Lib.hid (Jr.grown_trans HB3.out b4); have HR4 := Lib.hid r4; clear b4 r4))
            go_roundw
            case rel => exact ⟨l'.tail, HS.out.1.trans HW.out, HR4, HB4⟩
            case measure => rw [HM.out _ _ HR4.out, HL.out]; exact HS.out.2
          · rw [decide_eq_false h13, if_neg h13] at t4
            have HS := Lib.hid (Jr.ws_stop ⟨h32, h10, h9, h13⟩)
            clear h32 h10 h9 h13 s32 s10 s9 s13
            go_wp2_with (first | (go_at_call_of 75 (Value.int .u8 32); refine t1.mono ?_; rintro e w1 ⟨rfl, b1, r1⟩; have HB1 := Lib.hid (Jr.grown_trans HG.out b1); replace t2 := t2 _ r1; clear b1 r1) | (go_at_call_of 75 (Value.int .u8 10); refine t2.mono ?_; rintro e w2 ⟨rfl, b2, r2⟩; have HB2 := Lib.hid (Jr.grown_trans HB1.out b2); replace t3 := t3 _ r2; clear b2 r2) | (go_at_call_of 75 (Value.int .u8 9); refine t3.mono ?_; rintro e w3 ⟨rfl, b3, r3⟩; have HB3 := Lib.hid (Jr.grown_trans HB2.out b3); replace t4 := t4 _ r3; clear b3 r3) | (go_at_call_of 75 (Value.int .u8 13); refine t4.mono ?_; rintro e w4 ⟨rfl, b4, r4⟩; have HB4 := Lib.hid (Jr.grown_trans HB3.out b4); have HR4 := Lib.hid r4; clear b4 r4))
            go_end0
            refine ⟨rfl, HB4.out, ?_⟩
            rw [← HW.out, HS.out]
            exact HR4.out
end Go.Proofs.YtboalkfagfgnpaaGreatDoor
/-
  THE WALKS of the landed reader: unit, numbered, escaped.
-/
namespace Go.Proofs.YtboalkfagfgnpaaGreatDoor
open Go.RowKit
def Jr.unitF : Nat → Nat → List UInt8 → Option (Nat × List UInt8)
  | 0, n, l => some (n, l)
  | _ + 1, _, [] => none
  | m + 1, n, c :: r => if Pl.dig c < 16 then Jr.unitF m (n * 16 + Pl.dig c) r else none
theorem Jr.four_unit (l : List UInt8) : Jr.unitF 4 0 l = Js.four l := by
  match l with
  | [] => rfl
  | [a] => simp [Jr.unitF, Js.four]
  | [a, b] => simp [Jr.unitF, Js.four]
  | [a, b, c] => simp [Jr.unitF, Js.four]
  | a :: b :: c :: d :: r =>
    simp only [Jr.unitF, Js.four]
    by_cases h1 : Pl.dig a < 16
    · by_cases h2 : Pl.dig b < 16
      · by_cases h3 : Pl.dig c < 16
        · by_cases h4 : Pl.dig d < 16
          · simp [h1, h2, h3, h4]
          · simp [h1, h2, h3, h4]
        · simp [h1, h2, h3]
      · simp [h1, h2]
    · simp [h1]
theorem Jr.or4 (n d : Nat) (hn : n < 4096) (hd : d < 16) : bits .or .i32 ((n : Int) * 16) (d : Int) = ((n * 16 + d : Nat) : Int) := by
  have h1 : (BitVec.ofInt 32 ((n * 16 : Nat) : Int)).toNat = n * 16 := by
    rw [BitVec.ofInt_natCast, BitVec.toNat_ofNat]; exact Nat.mod_eq_of_lt (by omega)
  have h2 : (BitVec.ofInt 32 (d : Int)).toNat = d := by
    rw [BitVec.ofInt_natCast, BitVec.toNat_ofNat]; exact Nat.mod_eq_of_lt (by omega)
  have e := Nat.two_pow_add_eq_or_of_lt (i := 4) (b := d) (by omega) n
  have e3 : (n : Int) * 16 = ((n * 16 : Nat) : Int) := by omega
  rw [e3]
  show IntKind.i32.wrap ((BitVec.ofInt 32 ((n * 16 : Nat) : Int) ||| BitVec.ofInt 32 (d : Int)).toNat : Int) = _
  rw [BitVec.toNat_or, h1, h2, show n * 16 = 2 ^ 4 * n by omega, ← e, IntKind.wrap_i32]
  omega
set_option maxRecDepth 100000 in
set_option maxHeartbeats 2000000 in
theorem Jr.unit (l : List UInt8) (g : Nat) (T : ByteArray) (w : World) (h : Jr.Rd w g T l) :
    Calls Tryz.prog 130 #[.pointer (some ⟨g, 0, none⟩)] w (Jr.Out (Js.four l) (fun x => .int .i32 (x : Int)) w g T) := by
  rw [← Jr.four_unit]
  obtain ⟨O, hO⟩ : ∃ O, Jr.unitF 4 0 l = O := ⟨_, rfl⟩
  rw [hO]
  have HO := Lib.hid hO
  have HR := Lib.hid h
  clear hO h
  go_enter Tryz.func130, Tryz.ntmps130
  go_wp2_with fail
  go_loopw [3, 4] (fun nv kv wr => ∃ (k n : Nat) (l' : List UInt8), k ≤ 4 ∧ nv = .int .i32 (n : Int) ∧ kv = .int .i64 (k : Int) ∧ Hid (n + 1 ≤ 16 ^ k) ∧ Hid (Jr.unitF (4 - k) n l' = O) ∧ Hid (Jr.Rd wr g T l') ∧ Hid (w.grownBy wr (some g))) (fun _ kv _ => 4 - (intOf kv).toNat)
  case atStart => exact ⟨0, 0, l, by omega, rfl, rfl, by unfold Hid; omega, HO, HR, World.grownBy.refl _ _⟩
  case round =>
    clear HO HR
    obtain ⟨k, n, l', hk, rfl, rfl, HN, HO, HR, HG⟩ := hrel
    by_cases hlt : k < 4
    · have d1 : decide ((k : Int) < 4) = true := decide_eq_true (by omega)
      have d1n : decide (k < 4) = true := decide_eq_true hlt
      have hn : n < 4096 := by
        have h1 := HN.out
        have h2 : 16 ^ k ≤ 16 ^ 3 := Nat.pow_le_pow_right (by omega) (by omega)
        omega
      have e4 : 4 - k = (4 - (k + 1)) + 1 := by omega
      rw [e4] at HO
      cases l' with
      | nil =>
        have tk := Jr.take_end g T wr HR.out
        have e : none = O := HO.out
        subst e
        clear HO e4 HN
        go_wp2_with (go_at_call 100; refine tk.mono ?_; rintro e w1 ⟨rfl, b1⟩)
        exact ⟨rfl, rfl, Jr.grown_trans HG.out b1⟩
      | cons c r =>
        have tk := Jr.take c r g T wr HR.out
        by_cases hd : Pl.dig c < 16
        · have sx := Jr.sixteen c hd
          have HO2 : Hid (Jr.unitF (4 - (k + 1)) (n * 16 + Pl.dig c) r = O) := by
            have := HO.out
            rw [Jr.unitF, if_pos hd] at this
            exact this
          have or1 := Jr.or4 n (Pl.dig c) hn hd
          have HN2 : Hid (n * 16 + Pl.dig c + 1 ≤ 16 ^ (k + 1)) := by
            have := HN.out
            unfold Hid
            rw [Nat.pow_succ]
            omega
          generalize Pl.dig c = D at *
          generalize (c.toNat : Int) = C at *
          obtain ⟨M, hM⟩ : ∃ M : Nat, M = n * 16 + D := ⟨_, rfl⟩
          rw [← hM] at or1 HO2 HN2
          clear HO e4 HN hd hM
          go_wp2_with (first | (go_at_call 100; refine tk.mono ?_; rintro e w1 ⟨rfl, b1, r1⟩; have HG1 := Lib.hid (Jr.grown_trans HG.out b1); have HR1 := Lib.hid r1; clear b1 r1 tk) | (go_at_call 132; refine (sx _).mono ?_; rintro e w' ⟨rfl, hw⟩; have hw := hw.symm; subst hw))
          go_roundw
          case rel => exact ⟨k + 1, M, r, by omega, rfl, by go_num, HN2, HO2, HR1, HG1⟩
          case measure => simp [intOf]; omega
        · have sx := Jr.sixteen_no c hd
          have e : none = O := by
            have := HO.out
            rw [Jr.unitF, if_neg hd] at this
            exact this
          subst e
          clear HO e4 HN hd
          go_wp2_with (first | (go_at_call 100; refine tk.mono ?_; rintro e w1 ⟨rfl, b1, r1⟩; have HG1 := Lib.hid (Jr.grown_trans HG.out b1); clear b1 r1 tk) | (go_at_call 132; refine (sx _).mono ?_; rintro e w' ⟨rfl, hw⟩; have hw := hw.symm; subst hw))
          exact ⟨rfl, rfl, HG1.out⟩
    · have e : k = 4 := by omega
      subst e
      have e : some (n, l') = O := HO.out
      subst e
      clear HO HN hlt
      go_wp2
      go_ret
      exact ⟨rfl, HG.out, HR.out⟩
set_option maxRecDepth 100000 in
set_option maxHeartbeats 2000000 in
theorem Jr.numbered (l : List UInt8) (g : Nat) (T : ByteArray) (w : World) (h : Jr.Rd w g T l) :
    Calls Tryz.prog 119 #[.pointer (some ⟨g, 0, none⟩)] w (Jr.Out (Jr.uni l) (fun x => .int .i32 (x : Int)) w g T) := by
  have u1 := Jr.unit l g T w h
  unfold Jr.uni
  cases h4 : Js.four l with
  | none =>
    rw [h4] at u1
    go_enter Tryz.func119, Tryz.ntmps119
    go_wp2_with (go_at_call 130; refine u1.mono ?_; rintro e w1 ⟨rfl, b1⟩)
    exact ⟨rfl, rfl, b1⟩
  | some p =>
    obtain ⟨x, r1⟩ := p
    have hx := (Js.four_len h4).2.1
    rw [h4] at u1
    clear h4 h
    simp only
    by_cases h1 : x < 55296 ∨ 57344 ≤ x
    · rw [if_pos h1]
      by_cases h2 : x < 55296
      · have d1 : decide ((x : Int) < 55296) = true := decide_eq_true (by omega)
        clear h1
        go_enter Tryz.func119, Tryz.ntmps119
        go_wp2_with (go_at_call 130; refine u1.mono ?_; rintro e w1 ⟨rfl, b1, q1⟩)
        go_ret
        exact ⟨rfl, b1, q1⟩
      · have d1 : decide ((x : Int) < 55296) = false := decide_eq_false (by omega)
        have d2 : decide ((57344 : Int) ≤ (x : Int)) = true := decide_eq_true (by omega)
        clear h1
        go_enter Tryz.func119, Tryz.ntmps119
        go_wp2_with (go_at_call 130; refine u1.mono ?_; rintro e w1 ⟨rfl, b1, q1⟩)
        go_ret
        exact ⟨rfl, b1, q1⟩
    · rw [if_neg h1]
      have d1 : decide ((x : Int) < 55296) = false := decide_eq_false (by omega)
      have d2 : decide ((57344 : Int) ≤ (x : Int)) = false := decide_eq_false (by omega)
      have hlo : 55296 ≤ x := by omega
      clear h1
      by_cases h3 : 56320 ≤ x
      · rw [if_pos h3]
        have d3 : decide ((56320 : Int) ≤ (x : Int)) = true := decide_eq_true (by omega)
        go_enter Tryz.func119, Tryz.ntmps119
        go_wp2_with (go_at_call 130; refine u1.mono ?_; rintro e w1 ⟨rfl, b1, q1⟩)
        exact ⟨rfl, rfl, b1⟩
      · rw [if_neg h3]
        have d3 : decide ((56320 : Int) ≤ (x : Int)) = false := decide_eq_false (by omega)
        by_cases h5 : Pl.pre [92, 117] r1 = true
        · rw [if_pos h5]
          have wd := fun u q => Jr.word ⟨#[92, 117]⟩ r1 h5 g T u q
          rw [show (⟨#[92, 117]⟩ : ByteArray).size = 2 from rfl] at wd
          have u2 := fun u q => Jr.unit (r1.drop 2) g T u q
          clear h5
          cases h6 : Js.four (r1.drop 2) with
          | none =>
            rw [h6] at u2
            clear h6
            go_enter Tryz.func119, Tryz.ntmps119
            go_wp2_with (first | (go_at_call 130; refine u1.mono ?_; rintro e w1 ⟨rfl, b1, q1⟩; have HB1 := Lib.hid b1; replace wd := wd _ q1; clear b1 q1 u1) | (go_at_call 70; refine wd.mono ?_; rintro e w2 ⟨rfl, b2, q2⟩; have HB2 := Lib.hid (Jr.grown_trans HB1.out b2); replace u2 := u2 _ q2; clear b2 q2 wd) | (go_at_call 130; refine u2.mono ?_; rintro e w3 ⟨rfl, b3⟩; have HB3 := Lib.hid (Jr.grown_trans HB2.out b3); clear b3))
            exact ⟨rfl, rfl, HB3.out⟩
          | some p =>
            obtain ⟨y, r3⟩ := p
            have hy := (Js.four_len h6).2.1
            rw [h6] at u2
            clear h6
            simp only
            by_cases h7 : y < 56320 ∨ 57344 ≤ y
            · rw [if_pos h7]
              by_cases h8 : y < 56320
              · have d4 : decide ((y : Int) < 56320) = true := decide_eq_true (by omega)
                clear h7
                go_enter Tryz.func119, Tryz.ntmps119
                go_wp2_with (first | (go_at_call 130; refine u1.mono ?_; rintro e w1 ⟨rfl, b1, q1⟩; have HB1 := Lib.hid b1; replace wd := wd _ q1; clear b1 q1 u1) | (go_at_call 70; refine wd.mono ?_; rintro e w2 ⟨rfl, b2, q2⟩; have HB2 := Lib.hid (Jr.grown_trans HB1.out b2); replace u2 := u2 _ q2; clear b2 q2 wd) | (go_at_call 130; refine u2.mono ?_; rintro e w3 ⟨rfl, b3, q3⟩; have HB3 := Lib.hid (Jr.grown_trans HB2.out b3); clear b3 q3))
                exact ⟨rfl, rfl, HB3.out⟩
              · have d4 : decide ((y : Int) < 56320) = false := decide_eq_false (by omega)
                have d5 : decide ((57344 : Int) ≤ (y : Int)) = true := decide_eq_true (by omega)
                clear h7
                go_enter Tryz.func119, Tryz.ntmps119
                go_wp2_with (first | (go_at_call 130; refine u1.mono ?_; rintro e w1 ⟨rfl, b1, q1⟩; have HB1 := Lib.hid b1; replace wd := wd _ q1; clear b1 q1 u1) | (go_at_call 70; refine wd.mono ?_; rintro e w2 ⟨rfl, b2, q2⟩; have HB2 := Lib.hid (Jr.grown_trans HB1.out b2); replace u2 := u2 _ q2; clear b2 q2 wd) | (go_at_call 130; refine u2.mono ?_; rintro e w3 ⟨rfl, b3, q3⟩; have HB3 := Lib.hid (Jr.grown_trans HB2.out b3); clear b3 q3))
                exact ⟨rfl, rfl, HB3.out⟩
            · rw [if_neg h7]
              have d4 : decide ((y : Int) < 56320) = false := decide_eq_false (by omega)
              have d5 : decide ((57344 : Int) ≤ (y : Int)) = false := decide_eq_false (by omega)
              have hyl : 56320 ≤ y := by omega
              have hyh : y < 57344 := by omega
              have hxh : x < 56320 := by omega
              have eN : ((65536 + (x - 55296) * 1024 + (y - 56320) : Nat) : Int) = 65536 + ((x : Int) - 55296) * 1024 + ((y : Int) - 56320) := by omega
              clear h7
              go_enter Tryz.func119, Tryz.ntmps119
              go_wp2_with (first | (go_at_call 130; refine u1.mono ?_; rintro e w1 ⟨rfl, b1, q1⟩; have HB1 := Lib.hid b1; replace wd := wd _ q1; clear b1 q1 u1) | (go_at_call 70; refine wd.mono ?_; rintro e w2 ⟨rfl, b2, q2⟩; have HB2 := Lib.hid (Jr.grown_trans HB1.out b2); replace u2 := u2 _ q2; clear b2 q2 wd) | (go_at_call 130; refine u2.mono ?_; rintro e w3 ⟨rfl, b3, q3⟩; have HB3 := Lib.hid (Jr.grown_trans HB2.out b3); have HR3 := Lib.hid q3; clear b3 q3))
              go_ret
              exact ⟨congrArg (fun z => Ending.returned (.int .i32 z)) eN.symm, HB3.out, HR3.out⟩
        · rw [if_neg h5]
          have wd := fun u q => Jr.word_no ⟨#[92, 117]⟩ r1 (Bool.eq_false_iff.2 h5) g T u q
          clear h5
          go_enter Tryz.func119, Tryz.ntmps119
          go_wp2_with (first | (go_at_call 130; refine u1.mono ?_; rintro e w1 ⟨rfl, b1, q1⟩; have HB1 := Lib.hid b1; replace wd := wd _ q1; clear b1 q1 u1) | (go_at_call 70; refine wd.mono ?_; rintro e w2 ⟨rfl, b2⟩; have HB2 := Lib.hid (Jr.grown_trans HB1.out b2); clear b2 wd))
          exact ⟨rfl, rfl, HB2.out⟩
theorem Jr.wrap_byte (c : UInt8) : wrap32 (c.toNat : Int) = (c.toNat : Int) := by
  have := c.toNat_lt
  unfold wrap32
  omega
theorem Jr.eq_dec (c d : UInt8) : ((c.toNat : Int) == (d.toNat : Int)) = decide (c = d) := by
  by_cases h : c = d
  · rw [h]; simp
  · rw [decide_eq_false h, beq_eq_false_iff_ne]
    exact fun q => h (UInt8.toNat_inj.1 (by omega))
set_option maxRecDepth 100000 in
set_option maxHeartbeats 2000000 in
theorem Jr.escape (l : List UInt8) (g : Nat) (T : ByteArray) (w : World) (h : Jr.Rd w g T l) :
    Calls Tryz.prog 101 #[.pointer (some ⟨g, 0, none⟩)] w (Jr.Out (Jr.escaped l) (fun x => .int .i32 (x : Int)) w g T) := by
  cases l with
  | nil =>
    have tk := Jr.take_end g T w h
    go_enter Tryz.func101, Tryz.ntmps101
    go_wp2_with (go_at_call 100; refine tk.mono ?_; rintro e w1 ⟨rfl, b1⟩)
    exact ⟨rfl, rfl, b1⟩
  | cons c r =>
    have tk := Jr.take c r g T w h
    have nu := fun u q => Jr.numbered r g T u q
    rw [Jr.escaped]
    clear h
    have e34 : ((c.toNat : Int) == 34) = decide (c = 34) := Jr.eq_dec c 34
    have e92 : ((c.toNat : Int) == 92) = decide (c = 92) := Jr.eq_dec c 92
    have e47 : ((c.toNat : Int) == 47) = decide (c = 47) := Jr.eq_dec c 47
    have e98 : ((c.toNat : Int) == 98) = decide (c = 98) := Jr.eq_dec c 98
    have e102 : ((c.toNat : Int) == 102) = decide (c = 102) := Jr.eq_dec c 102
    have e110 : ((c.toNat : Int) == 110) = decide (c = 110) := Jr.eq_dec c 110
    have e114 : ((c.toNat : Int) == 114) = decide (c = 114) := Jr.eq_dec c 114
    have e116 : ((c.toNat : Int) == 116) = decide (c = 116) := Jr.eq_dec c 116
    have e117 : ((c.toNat : Int) == 117) = decide (c = 117) := Jr.eq_dec c 117
    by_cases h34 : c = 34
    · rw [decide_eq_true h34] at e34
      rw [if_pos (by simp [h34])]
      clear e92 e47 e98 e102 e110 e114 e116 e117 h34
      clear nu
      go_enter Tryz.func101, Tryz.ntmps101
      go_wp2_with (go_at_call 100; refine tk.mono ?_; rintro e w1 ⟨rfl, b1, q1⟩; have HB1 := Lib.hid b1; have HR1 := Lib.hid q1; clear b1 q1 tk)
      go_ret
      exact ⟨congrArg (fun z => Ending.returned (.int .i32 z)) (Jr.wrap_byte c), HB1.out, HR1.out⟩
    · rw [decide_eq_false h34] at e34
      by_cases h92 : c = 92
      · rw [decide_eq_true h92] at e92
        rw [if_pos (by simp [h92])]
        clear e47 e98 e102 e110 e114 e116 e117 h34 h92
        clear nu
        go_enter Tryz.func101, Tryz.ntmps101
        go_wp2_with (go_at_call 100; refine tk.mono ?_; rintro e w1 ⟨rfl, b1, q1⟩; have HB1 := Lib.hid b1; have HR1 := Lib.hid q1; clear b1 q1 tk)
        go_ret
        exact ⟨congrArg (fun z => Ending.returned (.int .i32 z)) (Jr.wrap_byte c), HB1.out, HR1.out⟩
      · rw [decide_eq_false h92] at e92
        by_cases h47 : c = 47
        · rw [decide_eq_true h47] at e47
          rw [if_pos (by simp [h47])]
          clear e98 e102 e110 e114 e116 e117 h34 h92 h47
          clear nu
          go_enter Tryz.func101, Tryz.ntmps101
          go_wp2_with (go_at_call 100; refine tk.mono ?_; rintro e w1 ⟨rfl, b1, q1⟩; have HB1 := Lib.hid b1; have HR1 := Lib.hid q1; clear b1 q1 tk)
          go_ret
          exact ⟨congrArg (fun z => Ending.returned (.int .i32 z)) (Jr.wrap_byte c), HB1.out, HR1.out⟩
        · rw [decide_eq_false h47] at e47
          by_cases h98 : c = 98
          · rw [decide_eq_true h98] at e98
            rw [if_neg (by simp [h34, h92, h47]), if_pos h98]
            clear e102 e110 e114 e116 e117 h34 h92 h47 h98
            clear nu
            go_enter Tryz.func101, Tryz.ntmps101
            go_wp2_with (go_at_call 100; refine tk.mono ?_; rintro e w1 ⟨rfl, b1, q1⟩; have HB1 := Lib.hid b1; have HR1 := Lib.hid q1; clear b1 q1 tk)
            go_ret
            exact ⟨rfl, HB1.out, HR1.out⟩
          · rw [decide_eq_false h98] at e98
            by_cases h102 : c = 102
            · rw [decide_eq_true h102] at e102
              rw [if_neg (by simp [h34, h92, h47]), if_neg h98, if_pos h102]
              clear e110 e114 e116 e117 h34 h92 h47 h98 h102
              clear nu
              go_enter Tryz.func101, Tryz.ntmps101
              go_wp2_with (go_at_call 100; refine tk.mono ?_; rintro e w1 ⟨rfl, b1, q1⟩; have HB1 := Lib.hid b1; have HR1 := Lib.hid q1; clear b1 q1 tk)
              go_ret
              exact ⟨rfl, HB1.out, HR1.out⟩
            · rw [decide_eq_false h102] at e102
              by_cases h110 : c = 110
              · rw [decide_eq_true h110] at e110
                rw [if_neg (by simp [h34, h92, h47]), if_neg h98, if_neg h102, if_pos h110]
                clear e114 e116 e117 h34 h92 h47 h98 h102 h110
                clear nu
                go_enter Tryz.func101, Tryz.ntmps101
                go_wp2_with (go_at_call 100; refine tk.mono ?_; rintro e w1 ⟨rfl, b1, q1⟩; have HB1 := Lib.hid b1; have HR1 := Lib.hid q1; clear b1 q1 tk)
                go_ret
                exact ⟨rfl, HB1.out, HR1.out⟩
              · rw [decide_eq_false h110] at e110
                by_cases h114 : c = 114
                · rw [decide_eq_true h114] at e114
                  rw [if_neg (by simp [h34, h92, h47]), if_neg h98, if_neg h102, if_neg h110, if_pos h114]
                  clear e116 e117 h34 h92 h47 h98 h102 h110 h114
                  clear nu
                  go_enter Tryz.func101, Tryz.ntmps101
                  go_wp2_with (go_at_call 100; refine tk.mono ?_; rintro e w1 ⟨rfl, b1, q1⟩; have HB1 := Lib.hid b1; have HR1 := Lib.hid q1; clear b1 q1 tk)
                  go_ret
                  exact ⟨rfl, HB1.out, HR1.out⟩
                · rw [decide_eq_false h114] at e114
                  by_cases h116 : c = 116
                  · rw [decide_eq_true h116] at e116
                    rw [if_neg (by simp [h34, h92, h47]), if_neg h98, if_neg h102, if_neg h110, if_neg h114, if_pos h116]
                    clear e117 h34 h92 h47 h98 h102 h110 h114 h116
                    clear nu
                    go_enter Tryz.func101, Tryz.ntmps101
                    go_wp2_with (go_at_call 100; refine tk.mono ?_; rintro e w1 ⟨rfl, b1, q1⟩; have HB1 := Lib.hid b1; have HR1 := Lib.hid q1; clear b1 q1 tk)
                    go_ret
                    exact ⟨rfl, HB1.out, HR1.out⟩
                  · rw [decide_eq_false h116] at e116
                    by_cases h117 : c = 117
                    · rw [decide_eq_true h117] at e117
                      rw [if_neg (by simp [h34, h92, h47]), if_neg h98, if_neg h102, if_neg h110, if_neg h114, if_neg h116, if_pos h117]
                      clear h34 h92 h47 h98 h102 h110 h114 h116 h117
                      cases hu : Jr.uni r with
                      | none =>
                        rw [hu] at nu
                        clear hu
                        go_enter Tryz.func101, Tryz.ntmps101
                        go_wp2_with (first | (go_at_call 100; refine tk.mono ?_; rintro e w1 ⟨rfl, b1, q1⟩; have HB1 := Lib.hid b1; replace nu := nu _ q1; clear b1 q1 tk) | (go_at_call 119; refine nu.mono ?_; rintro e w2 ⟨rfl, b2⟩; have HB2 := Lib.hid (Jr.grown_trans HB1.out b2); clear b2))
                        exact ⟨rfl, rfl, HB2.out⟩
                      | some p =>
                        obtain ⟨x, r1⟩ := p
                        rw [hu] at nu
                        clear hu
                        go_enter Tryz.func101, Tryz.ntmps101
                        go_wp2_with (first | (go_at_call 100; refine tk.mono ?_; rintro e w1 ⟨rfl, b1, q1⟩; have HB1 := Lib.hid b1; replace nu := nu _ q1; clear b1 q1 tk) | (go_at_call 119; refine nu.mono ?_; rintro e w2 ⟨rfl, b2, q2⟩; have HB2 := Lib.hid (Jr.grown_trans HB1.out b2); have HR2 := Lib.hid q2; clear b2 q2))
                        go_ret
                        exact ⟨rfl, HB2.out, HR2.out⟩
                    · rw [decide_eq_false h117] at e117
                      rw [if_neg (by simp [h34, h92, h47]), if_neg h98, if_neg h102, if_neg h110, if_neg h114, if_neg h116, if_neg h117]
                      clear nu h34 h92 h47 h98 h102 h110 h114 h116 h117
                      go_enter Tryz.func101, Tryz.ntmps101
                      go_wp2_with (go_at_call 100; refine tk.mono ?_; rintro e w1 ⟨rfl, b1, q1⟩; have HB1 := Lib.hid b1; clear b1 q1 tk)
                      exact ⟨rfl, rfl, HB1.out⟩
end Go.Proofs.YtboalkfagfgnpaaGreatDoor

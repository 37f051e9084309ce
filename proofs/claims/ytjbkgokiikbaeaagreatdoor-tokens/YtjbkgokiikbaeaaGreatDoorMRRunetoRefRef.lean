/-
  THE WALK of stoleref1.Rune: it returns a new row of bytes, the sign of the number ('Pl.runeL'), and turns nothing that was there.
-/
import Derived.Test.YtjbkgokiikbaeaaGreatDoorMRDigtoTText2
import Derived.Test.YtjbkgokiikbaeaaGreatDoorMTSim3toRKit5
import Derived.Laws.BitsLemmas
namespace Go.Proofs.YtjbkgokiikbaeaaGreatDoor
open Go.RowKit

theorem Bt.and21 (n : Int) : bits .and .i64 n 2097151 = n % 2097152 := by
  have hm : (BitVec.ofInt 64 2097151).toNat = 2 ^ 21 - 1 := by decide
  have key : (BitVec.ofInt 64 n &&& BitVec.ofInt 64 2097151).toNat = (n % ((2 ^ 64 : Nat) : Int)).toNat % 2 ^ 21 := by
    rw [BitVec.toNat_and, BitVec.toNat_ofInt, hm, Nat.and_two_pow_sub_one_eq_mod]
  show IntKind.i64.wrap ((BitVec.ofInt 64 n &&& BitVec.ofInt 64 2097151).toNat : Nat) = n % 2097152
  rw [key, IntKind.wrap_i64]
  omega
theorem Bt.and4 (n : Int) : bits .and .i64 n 15 = n % 16 := by
  have hm : (BitVec.ofInt 64 15).toNat = 2 ^ 4 - 1 := by decide
  have key : (BitVec.ofInt 64 n &&& BitVec.ofInt 64 15).toNat = (n % ((2 ^ 64 : Nat) : Int)).toNat % 2 ^ 4 := by
    rw [BitVec.toNat_and, BitVec.toNat_ofInt, hm, Nat.and_two_pow_sub_one_eq_mod]
  show IntKind.i64.wrap ((BitVec.ofInt 64 n &&& BitVec.ofInt 64 15).toNat : Nat) = n % 16
  rw [key, IntKind.wrap_i64]
  omega
theorem Bt.and6 (n : Int) : bits .and .i64 n 63 = n % 64 := by
  have hm : (BitVec.ofInt 64 63).toNat = 2 ^ 6 - 1 := by decide
  have key : (BitVec.ofInt 64 n &&& BitVec.ofInt 64 63).toNat = (n % ((2 ^ 64 : Nat) : Int)).toNat % 2 ^ 6 := by
    rw [BitVec.toNat_and, BitVec.toNat_ofInt, hm, Nat.and_two_pow_sub_one_eq_mod]
  show IntKind.i64.wrap ((BitVec.ofInt 64 n &&& BitVec.ofInt 64 63).toNat : Nat) = n % 64
  rw [key, IntKind.wrap_i64]
  omega
theorem Bt.wraps62 (n : Int) (h₀ : 0 ≤ n) (h₁ : n < 2 ^ 62) : IntKind.i64.wrap n = n := by rw [IntKind.wrap_i64]; omega
theorem Bt.or (i : Nat) (c y : Int) (hc0 : 0 ≤ c) (hc : c % 2 ^ i = 0) (hc1 : c < 256) (h0 : 0 ≤ y) (h1 : y < 2 ^ i) (h2 : y < 256) : bits .or .i64 c y = c + y := by
  exact bits_join .i64 62 (by decide) Bt.wraps62 i c y hc0 hc (by omega) h0 h1 (by omega)

/-- a number below 256 as a byte -/
theorem Bt.byte (z : Int) (h0 : 0 ≤ z) (h1 : z < 256) : ∃ a : UInt8, (a.toNat : Int) = z ∧ a = UInt8.ofNat z.toNat :=
  ⟨UInt8.ofNat z.toNat, by rw [UInt8.toNat_ofNat']; omega, rfl⟩
theorem Ru.fin (w : World) (cs : Array Value) (l : List UInt8) (n : Nat) (hn : l.length = n) (hs : n ≤ 4) (h : cs.toList = Lib.byteCells l) :
    (w.alloc (.cells cs 5)).ownsRow w.heap.size 5 1 (.slice (some ⟨w.heap.size, 0, none⟩) n n) l.length (Lib.byteCells l) := by
  have hc : cs.size = n := by rw [← Array.length_toList, h, Lib.byteCells_length, hn]
  have := World.ownsRow_lit (e := 5) (size := 1) w cs n (Nat.le_refl _) (by unfold maxLen; omega) (by omega)
  rw [hn, ← h]
  exact this

set_option maxRecDepth 100000 in
/-- what is no sign -/
theorem Ru.bad (x : Nat) (w : World) (h : x = 0 ∨ (55296 ≤ x ∧ x ≤ 57343) ∨ 1114111 < x) :
    Calls Tryz.prog 120 #[.int .i64 (x : Int)] w fun e w' => ∃ v, e = .returned v ∧ w'.ownsRow w.heap.size 5 1 v (Pl.runeL x).length (Lib.byteCells (Pl.runeL x)) ∧ Below w.heap.size w w' := by
  have hr : Pl.runeL x = Pl.fffd := by rw [Pl.runeL, if_pos h]
  rw [hr]
  by_cases h0 : x = 0
  · subst h0
    clear hr h
    go_enter Tryz.func120, Tryz.ntmps120
    go_wp2
    go_ret
    exact ⟨_, rfl, Ru.fin w _ Pl.fffd 3 rfl (by omega) rfl, (Below.refl _ _).alloc (Nat.le_refl _) _⟩
  · have d0 : decide ((x : Int) ≤ 0) = false := decide_eq_false (by omega)
    by_cases h1 : 55296 ≤ x ∧ x ≤ 57343
    · have d1 : decide ((55296 : Int) ≤ (x : Int)) = true := decide_eq_true (by omega)
      have d2 : decide ((x : Int) ≤ 57343) = true := decide_eq_true (by omega)
      clear hr h h1
      go_enter Tryz.func120, Tryz.ntmps120
      go_wp2
      go_ret
      exact ⟨_, rfl, Ru.fin w _ Pl.fffd 3 rfl (by omega) rfl, (Below.refl _ _).alloc (Nat.le_refl _) _⟩
    · have d3 : decide ((1114111 : Int) < (x : Int)) = true := decide_eq_true (by omega)
      have d1 : decide ((55296 : Int) ≤ (x : Int)) = true := decide_eq_true (by omega)
      have d2 : decide ((x : Int) ≤ 57343) = false := decide_eq_false (by omega)
      clear hr h h1
      go_enter Tryz.func120, Tryz.ntmps120
      go_wp2
      go_ret
      exact ⟨_, rfl, Ru.fin w _ Pl.fffd 3 rfl (by omega) rfl, (Below.refl _ _).alloc (Nat.le_refl _) _⟩

set_option maxRecDepth 100000 in
set_option maxHeartbeats 1000000 in
/-- a number that is a sign -/
theorem Ru.good (x : Nat) (w : World) (h : ¬ (x = 0 ∨ (55296 ≤ x ∧ x ≤ 57343) ∨ 1114111 < x)) :
    Calls Tryz.prog 120 #[.int .i64 (x : Int)] w fun e w' => ∃ v, e = .returned v ∧ w'.ownsRow w.heap.size 5 1 v (Pl.runeL x).length (Lib.byteCells (Pl.runeL x)) ∧ Below w.heap.size w w' := by
  have hr : Pl.runeL x = if x < 128 then [UInt8.ofNat x]
      else if x < 2048 then [UInt8.ofNat (192 + x / 64), UInt8.ofNat (128 + x % 64)]
      else if x < 65536 then [UInt8.ofNat (224 + x / 4096), UInt8.ofNat (128 + x / 64 % 64), UInt8.ofNat (128 + x % 64)]
      else [UInt8.ofNat (240 + x / 262144), UInt8.ofNat (128 + x / 4096 % 64), UInt8.ofNat (128 + x / 64 % 64), UInt8.ofNat (128 + x % 64)] := by rw [Pl.runeL, if_neg h]
  have h0 : ¬ x = 0 := fun e => h (.inl e)
  generalize Pl.runeL x = L at *
  have d0 : decide ((x : Int) ≤ 0) = false := decide_eq_false (by omega)
  have d3 : decide ((1114111 : Int) < (x : Int)) = false := decide_eq_false (by omega)
  have q0 : (0 : Int) ≤ (x : Int) := by omega
  have q1 : (x : Int) ≤ 1114111 := by omega
  by_cases c1 : x < 128
  · rw [if_pos c1] at hr
    have d1 : decide ((55296 : Int) ≤ (x : Int)) = false := decide_eq_false (by omega)
    have d4 : decide ((x : Int) < 128) = true := decide_eq_true (by omega)
    clear h
    obtain ⟨a, ha, ka⟩ := Bt.byte (x : Int) (by omega) (by omega)
    have HL : Hid (L = [a]) := by
      show _ = _
      rw [hr, ka, Int.toNat_natCast]
    have HA : Hid ((a.toNat : Int) = x) := ha
    clear hr ha ka
    rw [HL.out]
    go_enter Tryz.func120, Tryz.ntmps120
    go_wp2
    go_ret
    exact ⟨_, rfl, Ru.fin w #[.int .u8 (x : Int)] [a] 1 rfl (by omega) (by rw [← HA.out]; rfl), (Below.refl _ _).alloc (Nat.le_refl _) _⟩
  · rw [if_neg c1] at hr
    have d4 : decide ((x : Int) < 128) = false := decide_eq_false (by omega)
    by_cases c2 : x < 2048
    · rw [if_pos c2] at hr
      have d1 : decide ((55296 : Int) ≤ (x : Int)) = false := decide_eq_false (by omega)
      have d5 : decide ((x : Int) < 2048) = true := decide_eq_true (by omega)
      clear h
      obtain ⟨a, ha, ka⟩ := Bt.byte (192 + (x : Int) / 64) (by omega) (by omega)
      obtain ⟨b, hb, kb⟩ := Bt.byte (128 + (x : Int) % 64) (by omega) (by omega)
      have HL : Hid (L = [a, b]) := by
        show _ = _
        rw [hr, ka, kb]
        rw [show (192 + (x : Int) / 64).toNat = 192 + x / 64 by omega]
        rw [show (128 + (x : Int) % 64).toNat = 128 + x % 64 by omega]
      have ea : bits .or .i64 192 ((x : Int) / 64) % 256 = (a.toNat : Int) := by
        rw [Bt.or 5 192 _ (by omega) (by omega) (by omega) (by omega) (by omega) (by omega), ha]; omega
      have eb : bits .or .i64 128 (bits .and .i64 (x : Int) 63) % 256 = (b.toNat : Int) := by
        rw [Bt.and6, Bt.or 6 128 _ (by omega) (by omega) (by omega) (by omega) (by omega) (by omega), hb]; omega
      clear hr ha ka hb kb
      rw [HL.out]
      go_enter Tryz.func120, Tryz.ntmps120
      go_wp2
      go_ret
      exact ⟨_, rfl, Ru.fin w #[.int .u8 (a.toNat : Int), .int .u8 (b.toNat : Int)] _ 2 rfl (by omega) rfl, (Below.refl _ _).alloc (Nat.le_refl _) _⟩
    · rw [if_neg c2] at hr
      have d5 : decide ((x : Int) < 2048) = false := decide_eq_false (by omega)
      by_cases c3 : x < 65536
      · rw [if_pos c3] at hr
        have d6 : decide ((x : Int) < 65536) = true := decide_eq_true (by omega)
        by_cases c4 : x < 55296
        · have d1 : decide ((55296 : Int) ≤ (x : Int)) = false := decide_eq_false (by omega)
          clear h
          obtain ⟨a, ha, ka⟩ := Bt.byte (224 + (x : Int) / 4096) (by omega) (by omega)
          obtain ⟨b, hb, kb⟩ := Bt.byte (128 + (x : Int) / 64 % 64) (by omega) (by omega)
          obtain ⟨c, hc, kc⟩ := Bt.byte (128 + (x : Int) % 64) (by omega) (by omega)
          have HL : Hid (L = [a, b, c]) := by
            show _ = _
            rw [hr, ka, kb, kc]
            rw [show (224 + (x : Int) / 4096).toNat = 224 + x / 4096 by omega]
            rw [show (128 + (x : Int) / 64 % 64).toNat = 128 + x / 64 % 64 by omega]
            rw [show (128 + (x : Int) % 64).toNat = 128 + x % 64 by omega]
          have ea : bits .or .i64 224 ((x : Int) / 4096) % 256 = (a.toNat : Int) := by
            rw [Bt.or 4 224 _ (by omega) (by omega) (by omega) (by omega) (by omega) (by omega), ha]; omega
          have eb : bits .or .i64 128 (bits .and .i64 ((x : Int) / 64) 63) % 256 = (b.toNat : Int) := by
            rw [Bt.and6, Bt.or 6 128 _ (by omega) (by omega) (by omega) (by omega) (by omega) (by omega), hb]; omega
          have ec : bits .or .i64 128 (bits .and .i64 (x : Int) 63) % 256 = (c.toNat : Int) := by
            rw [Bt.and6, Bt.or 6 128 _ (by omega) (by omega) (by omega) (by omega) (by omega) (by omega), hc]; omega
          clear hr ha ka hb kb hc kc
          rw [HL.out]
          go_enter Tryz.func120, Tryz.ntmps120
          go_wp2
          go_ret
          exact ⟨_, rfl, Ru.fin w #[.int .u8 (a.toNat : Int), .int .u8 (b.toNat : Int), .int .u8 (c.toNat : Int)] _ 3 rfl (by omega) rfl, (Below.refl _ _).alloc (Nat.le_refl _) _⟩
        · have d1 : decide ((55296 : Int) ≤ (x : Int)) = true := decide_eq_true (by omega)
          have d2 : decide ((x : Int) ≤ 57343) = false := decide_eq_false (by omega)
          clear h
          obtain ⟨a, ha, ka⟩ := Bt.byte (224 + (x : Int) / 4096) (by omega) (by omega)
          obtain ⟨b, hb, kb⟩ := Bt.byte (128 + (x : Int) / 64 % 64) (by omega) (by omega)
          obtain ⟨c, hc, kc⟩ := Bt.byte (128 + (x : Int) % 64) (by omega) (by omega)
          have HL : Hid (L = [a, b, c]) := by
            show _ = _
            rw [hr, ka, kb, kc]
            rw [show (224 + (x : Int) / 4096).toNat = 224 + x / 4096 by omega]
            rw [show (128 + (x : Int) / 64 % 64).toNat = 128 + x / 64 % 64 by omega]
            rw [show (128 + (x : Int) % 64).toNat = 128 + x % 64 by omega]
          have ea : bits .or .i64 224 ((x : Int) / 4096) % 256 = (a.toNat : Int) := by
            rw [Bt.or 4 224 _ (by omega) (by omega) (by omega) (by omega) (by omega) (by omega), ha]; omega
          have eb : bits .or .i64 128 (bits .and .i64 ((x : Int) / 64) 63) % 256 = (b.toNat : Int) := by
            rw [Bt.and6, Bt.or 6 128 _ (by omega) (by omega) (by omega) (by omega) (by omega) (by omega), hb]; omega
          have ec : bits .or .i64 128 (bits .and .i64 (x : Int) 63) % 256 = (c.toNat : Int) := by
            rw [Bt.and6, Bt.or 6 128 _ (by omega) (by omega) (by omega) (by omega) (by omega) (by omega), hc]; omega
          clear hr ha ka hb kb hc kc
          rw [HL.out]
          go_enter Tryz.func120, Tryz.ntmps120
          go_wp2
          go_ret
          exact ⟨_, rfl, Ru.fin w #[.int .u8 (a.toNat : Int), .int .u8 (b.toNat : Int), .int .u8 (c.toNat : Int)] _ 3 rfl (by omega) rfl, (Below.refl _ _).alloc (Nat.le_refl _) _⟩
      · rw [if_neg c3] at hr
        have d6 : decide ((x : Int) < 65536) = false := decide_eq_false (by omega)
        have d1 : decide ((55296 : Int) ≤ (x : Int)) = true := decide_eq_true (by omega)
        have d2 : decide ((x : Int) ≤ 57343) = false := decide_eq_false (by omega)
        clear h
        obtain ⟨a, ha, ka⟩ := Bt.byte (240 + (x : Int) / 262144) (by omega) (by omega)
        obtain ⟨b, hb, kb⟩ := Bt.byte (128 + (x : Int) / 4096 % 64) (by omega) (by omega)
        obtain ⟨c, hc, kc⟩ := Bt.byte (128 + (x : Int) / 64 % 64) (by omega) (by omega)
        obtain ⟨d, hd, kd⟩ := Bt.byte (128 + (x : Int) % 64) (by omega) (by omega)
        have HL : Hid (L = [a, b, c, d]) := by
          show _ = _
          rw [hr, ka, kb, kc, kd]
          rw [show (240 + (x : Int) / 262144).toNat = 240 + x / 262144 by omega]
          rw [show (128 + (x : Int) / 4096 % 64).toNat = 128 + x / 4096 % 64 by omega]
          rw [show (128 + (x : Int) / 64 % 64).toNat = 128 + x / 64 % 64 by omega]
          rw [show (128 + (x : Int) % 64).toNat = 128 + x % 64 by omega]
        have ea : bits .or .i64 240 ((x : Int) / 262144) % 256 = (a.toNat : Int) := by
          rw [Bt.or 4 240 _ (by omega) (by omega) (by omega) (by omega) (by omega) (by omega), ha]; omega
        have eb : bits .or .i64 128 (bits .and .i64 ((x : Int) / 4096) 63) % 256 = (b.toNat : Int) := by
          rw [Bt.and6, Bt.or 6 128 _ (by omega) (by omega) (by omega) (by omega) (by omega) (by omega), hb]; omega
        have ec : bits .or .i64 128 (bits .and .i64 ((x : Int) / 64) 63) % 256 = (c.toNat : Int) := by
          rw [Bt.and6, Bt.or 6 128 _ (by omega) (by omega) (by omega) (by omega) (by omega) (by omega), hc]; omega
        have ed : bits .or .i64 128 (bits .and .i64 (x : Int) 63) % 256 = (d.toNat : Int) := by
          rw [Bt.and6, Bt.or 6 128 _ (by omega) (by omega) (by omega) (by omega) (by omega) (by omega), hd]; omega
        clear hr ha ka hb kb hc kc hd kd
        rw [HL.out]
        go_enter Tryz.func120, Tryz.ntmps120
        go_wp2
        go_ret
        exact ⟨_, rfl, Ru.fin w #[.int .u8 (a.toNat : Int), .int .u8 (b.toNat : Int), .int .u8 (c.toNat : Int), .int .u8 (d.toNat : Int)] _ 4 rfl (by omega) rfl, (Below.refl _ _).alloc (Nat.le_refl _) _⟩

theorem Ru.rune (x : Nat) (w : World) :
    Calls Tryz.prog 120 #[.int .i64 (x : Int)] w fun e w' => ∃ v, e = .returned v ∧ w'.ownsRow w.heap.size 5 1 v (Pl.runeL x).length (Lib.byteCells (Pl.runeL x)) ∧ Below w.heap.size w w' := by
  by_cases h : x = 0 ∨ (55296 ≤ x ∧ x ≤ 57343) ∨ 1114111 < x
  · exact Ru.bad x w h
  · exact Ru.good x w h
end Go.Proofs.YtjbkgokiikbaeaaGreatDoor
/-
  THE WALKS of stoleref1.Letter, Digit, hex: each returns what the plain function of the byte gives, and turns nothing.
-/
namespace Go.Proofs.YtjbkgokiikbaeaaGreatDoor
open Go.RowKit

def Pl.letter (c : UInt8) : Bool := decide (97 ≤ (Pl.lowB c).toNat) && decide ((Pl.lowB c).toNat ≤ 122)
def Pl.digit (c : UInt8) : Bool := decide (48 ≤ c.toNat) && decide (c.toNat ≤ 57)
theorem Pl.tokc_eq (c : UInt8) : Pl.tokc c = (Pl.letter c || Pl.digit c || decide (c = 35)) := rfl
theorem Rt.ret_bool {a b : Bool} (h : a = b) : Ending.returned (.bool a) = .returned (.bool b) := by rw [h]

theorem Rt.letter (c : UInt8) (w : World) :
    Calls Tryz.prog 68 #[.int .u8 c.toNat] w fun e w' => e = .returned (.bool (Pl.letter c)) ∧ w' = w := by
  have cl := Sz.low c w
  have HL : Hid (Pl.letter c = (decide (97 ≤ (Pl.lowB c).toNat) && decide ((Pl.lowB c).toNat ≤ 122))) := rfl
  generalize (Pl.lowB c).toNat = m at *
  generalize Pl.letter c = b at *
  by_cases h1 : 97 ≤ m
  · by_cases h2 : m ≤ 122
    · have d1 : decide ((97 : Int) ≤ (m : Int)) = true := decide_eq_true (by omega)
      have d2 : decide ((m : Int) ≤ 122) = true := decide_eq_true (by omega)
      have hb : b = true := by rw [HL.out]; simp [h1, h2]
      subst hb
      clear HL
      go_enter Tryz.func68, Tryz.ntmps68
      go_wp2_with (go_at_call 72; refine cl.mono ?_; rintro e w1 ⟨rfl, rfl⟩)
      go_ret
      exact ⟨rfl, rfl⟩
    · have d1 : decide ((97 : Int) ≤ (m : Int)) = true := decide_eq_true (by omega)
      have d2 : decide ((m : Int) ≤ 122) = false := decide_eq_false (by omega)
      have hb : b = false := by rw [HL.out]; simp [h1, h2]
      subst hb
      clear HL
      go_enter Tryz.func68, Tryz.ntmps68
      go_wp2_with (go_at_call 72; refine cl.mono ?_; rintro e w1 ⟨rfl, rfl⟩)
      go_ret
      exact ⟨rfl, rfl⟩
  · have d1 : decide ((97 : Int) ≤ (m : Int)) = false := decide_eq_false (by omega)
    have hb : b = false := by rw [HL.out]; simp [h1]
    subst hb
    clear HL
    go_enter Tryz.func68, Tryz.ntmps68
    go_wp2_with (go_at_call 72; refine cl.mono ?_; rintro e w1 ⟨rfl, rfl⟩)
    go_ret
    exact ⟨rfl, rfl⟩
theorem Rt.digit (c : UInt8) (w : World) :
    Calls Tryz.prog 107 #[.int .u8 c.toNat] w fun e w' => e = .returned (.bool (Pl.digit c)) ∧ w' = w := by
  have HL : Hid (Pl.digit c = (decide (48 ≤ c.toNat) && decide (c.toNat ≤ 57))) := rfl
  generalize c.toNat = m at *
  generalize Pl.digit c = b at *
  by_cases h1 : 48 ≤ m
  · by_cases h2 : m ≤ 57
    · have hb : b = true := by rw [HL.out]; simp [h1, h2]
      subst hb
      clear HL
      go_enter Tryz.func107, Tryz.ntmps107
      go_wp2
      go_ret
      exact ⟨by simp; omega, rfl⟩
    · have hb : b = false := by rw [HL.out]; simp [h1, h2]
      subst hb
      clear HL
      go_enter Tryz.func107, Tryz.ntmps107
      go_wp2
      go_ret
      exact ⟨by simp; omega, rfl⟩
  · have hb : b = false := by rw [HL.out]; simp [h1]
    subst hb
    clear HL
    go_enter Tryz.func107, Tryz.ntmps107
    go_wp2
    go_ret
    exact ⟨by first | rfl | simp, rfl⟩

/-- a digit of sixteen; -1: none -/
def Pl.hexI (c : UInt8) : Int := if Pl.dig c = 16 then -1 else Pl.dig c
theorem Pl.hexI_low (c : UInt8) : Pl.hexI c = if 48 ≤ (Pl.lowB c).toNat ∧ (Pl.lowB c).toNat ≤ 57 then ((Pl.lowB c).toNat : Int) - 48 else if 97 ≤ (Pl.lowB c).toNat ∧ (Pl.lowB c).toNat ≤ 102 then ((Pl.lowB c).toNat : Int) - 87 else -1 := by
  rw [Pl.hexI, Pl.lowB_toNat]
  unfold Pl.dig
  repeat' split
  all_goals omega

set_option maxHeartbeats 1000000 in
theorem Rt.hex (c : UInt8) (w : World) :
    Calls Tryz.prog 133 #[.int .u8 c.toNat] w fun e w' => e = .returned (.int .i64 (Pl.hexI c)) ∧ w' = w := by
  have cl := Sz.low c w
  have cd := Rt.digit (Pl.lowB c) w
  have hv := Pl.hexI_low c
  have hlt := (Pl.lowB c).toNat_lt
  have HD : Hid (Pl.digit (Pl.lowB c) = (decide (48 ≤ (Pl.lowB c).toNat) && decide ((Pl.lowB c).toNat ≤ 57))) := rfl
  generalize Pl.digit (Pl.lowB c) = b at *
  generalize (Pl.lowB c).toNat = m at *
  generalize Pl.hexI c = v at *
  by_cases h1 : 48 ≤ m ∧ m ≤ 57
  · have hb : b = true := by rw [HD.out]; simp [h1]
    subst hb
    rw [if_pos h1] at hv
    obtain ⟨h1a, h1b⟩ := h1
    have HV : Hid (v = (m : Int) - 48) := hv
    clear HD hv
    go_enter Tryz.func133, Tryz.ntmps133
    go_wp2_with (first | (go_at_call 72; refine cl.mono ?_; rintro e w1 ⟨rfl, rfl⟩) | (go_at_call 107; refine cd.mono ?_; rintro e w1 ⟨rfl, rfl⟩))
    go_ret
    refine ⟨?_, rfl⟩
    rw [HV.out]
    simp
    try omega
  · have hb : b = false := by
      rw [HD.out, Bool.and_eq_false_iff]
      simp
      omega
    subst hb
    rw [if_neg h1] at hv
    by_cases h2 : 97 ≤ m ∧ m ≤ 102
    · rw [if_pos h2] at hv
      obtain ⟨h2a, h2b⟩ := h2
      have HV : Hid (v = (m : Int) - 87) := hv
      clear HD hv h1
      go_enter Tryz.func133, Tryz.ntmps133
      go_wp2_with (first | (go_at_call 72; refine cl.mono ?_; rintro e w1 ⟨rfl, rfl⟩) | (go_at_call 107; refine cd.mono ?_; rintro e w1 ⟨rfl, rfl⟩))
      go_ret
      refine ⟨?_, rfl⟩
      rw [HV.out]
      simp
      try omega
    · rw [if_neg h2] at hv
      subst hv
      by_cases h3 : 97 ≤ m
      · have h4 : ¬ m ≤ 102 := fun h => h2 ⟨h3, h⟩
        clear HD h1 h2
        go_enter Tryz.func133, Tryz.ntmps133
        go_wp2_with (first | (go_at_call 72; refine cl.mono ?_; rintro e w1 ⟨rfl, rfl⟩) | (go_at_call 107; refine cd.mono ?_; rintro e w1 ⟨rfl, rfl⟩))
        go_ret
        exact ⟨rfl, rfl⟩
      · clear HD h1 h2
        go_enter Tryz.func133, Tryz.ntmps133
        go_wp2_with (first | (go_at_call 72; refine cl.mono ?_; rintro e w1 ⟨rfl, rfl⟩) | (go_at_call 107; refine cd.mono ?_; rintro e w1 ⟨rfl, rfl⟩))
        go_ret
        exact ⟨rfl, rfl⟩
end Go.Proofs.YtjbkgokiikbaeaaGreatDoor
/-
  THE WALKS of stoleref1.number, named and reference: each returns what the plain function of the bytes gives, and turns nothing that was there.
-/
namespace Go.Proofs.YtjbkgokiikbaeaaGreatDoor
open Go.RowKit

def Pl.numP (s : List UInt8) : Nat × Bool := match Pl.numR s with | some v => (v, true) | none => (0, false)
def Pl.allP (base : Nat) (s : List UInt8) (x : Nat) : Nat × Bool := match Pl.numAll base s x with | some v => (v, true) | none => (0, false)
theorem Rt.ret_pair {p q : Nat × Bool} (h : p = q) : Ending.returned (.tuple #[.int .i64 (p.1 : Nat), .bool p.2]) = .returned (.tuple #[.int .i64 (q.1 : Nat), .bool q.2]) := by rw [h]
theorem Rt.all_end (base : Nat) (s : ByteArray) (k x : Nat) (h : s.size ≤ k) : Pl.allP base (s.data.toList.drop k) x = (x, true) := by
  rw [List.drop_of_length_le (by rw [Array.length_toList]; exact h)]; rfl
theorem Rt.all_bad (base : Nat) (s : ByteArray) (k x d : Nat) (h : k < s.size) (hd : Pl.dig s[k] = d) (hb : base ≤ d) : Pl.allP base (s.data.toList.drop k) x = (0, false) := by
  rw [Rd.drop_cons s k h, Pl.allP, Pl.numAll, if_neg (by omega)]
theorem Rt.all_go (base : Nat) (s : ByteArray) (k x d : Nat) (h : k < s.size) (hd : Pl.dig s[k] = d) (hb : d < base) : Pl.allP base (s.data.toList.drop k) x = Pl.allP base (s.data.toList.drop (k + 1)) (x * base + d) := by
  rw [Rd.drop_cons s k h, Pl.allP, Pl.numAll, if_pos (by omega), hd]; rfl
theorem Rt.hex_at (c : UInt8) (d : Nat) (hd : Pl.dig c = d) (z : Int) (hz : z = if d = 16 then -1 else (d : Int)) (w : World) :
    Calls Tryz.prog 133 #[.int .u8 c.toNat] w fun e w' => e = .returned (.int .i64 z) ∧ w' = w := by
  have h := Rt.hex c w
  have e : Pl.hexI c = z := by rw [hz, Pl.hexI, hd]
  rwa [e] at h
theorem Rt.nonempty (s : ByteArray) (h : 0 < s.size) : ¬ s.toList = [] := by
  rw [Lib.toList_data]
  intro e
  have := congrArg List.length e
  rw [Wk.len_data, List.length_nil] at this
  omega
theorem Rt.empty (s : ByteArray) (h : s.size = 0) : s.toList = [] := by
  rw [Lib.toList_data]
  exact List.eq_nil_of_length_eq_zero (by rw [Wk.len_data]; exact h)
theorem Rt.numR_empty (s : ByteArray) (h : s.size = 0) : Pl.numP s.data.toList = (0, false) := by
  have : s.data.toList = [] := List.eq_nil_of_length_eq_zero (by rw [Wk.len_data]; exact h)
  rw [this]; rfl
theorem Rt.numR_hex (s p : ByteArray) (h : 0 < s.size) (hc : (Pl.lowB s[0]).toNat = 120) (hp : p.data.toList = s.data.toList.drop 1) : Pl.numP s.data.toList = if p.size = 0 ∨ 6 < p.size then (0, false) else Pl.allP 16 p.data.toList 0 := by
  have hd := Rd.drop_cons s 0 h
  rw [List.drop_zero, Nat.zero_add, ← hp] at hd
  have hx : s[0] = 120 ∨ s[0] = 88 := by
    rw [Pl.lowB_toNat] at hc
    split at hc
    · right; exact UInt8.toNat_inj.1 (by show _ = 88; omega)
    · left; exact UInt8.toNat_inj.1 (by show _ = 120; omega)
  rw [hd, Pl.numP, Pl.numR, if_pos (by simpa using hx), List.tail_cons]
  have e : (p.data.toList = [] ∨ 6 < p.data.toList.length) ↔ (p.size = 0 ∨ 6 < p.size) := by
    rw [Wk.len_data]
    constructor
    · rintro (h | h)
      · left; rw [← Wk.len_data, h]; rfl
      · exact .inr h
    · rintro (h | h)
      · left; exact List.eq_nil_of_length_eq_zero (by rw [Wk.len_data]; exact h)
      · exact .inr h
  by_cases g : p.size = 0 ∨ 6 < p.size
  · rw [if_pos (e.2 g), if_pos g]
  · rw [if_neg (fun x => g (e.1 x)), if_neg g]; rfl
theorem Rt.numR_ten (s : ByteArray) (h : 0 < s.size) (hc : (Pl.lowB s[0]).toNat ≠ 120) : Pl.numP s.data.toList = if 7 < s.size then (0, false) else Pl.allP 10 s.data.toList 0 := by
  have hd := Rd.drop_cons s 0 h
  rw [List.drop_zero, Nat.zero_add] at hd
  have hx : ¬ (s.data.toList.head? = some 120 ∨ s.data.toList.head? = some 88) := by
    rw [hd]
    rintro (e | e)
    · simp at e; rw [e] at hc; exact hc rfl
    · simp at e; rw [e] at hc; exact hc rfl
  have e : (s.data.toList = [] ∨ 7 < s.data.toList.length) ↔ 7 < s.size := by
    rw [Wk.len_data]
    refine ⟨?_, .inr⟩
    rintro (e | e)
    · rw [hd] at e; cases e
    · exact e
  rw [Pl.numP, Pl.numR, if_neg hx]
  by_cases g : 7 < s.size
  · rw [if_pos (e.2 g), if_pos g]
  · rw [if_neg (fun x => g (e.1 x)), if_neg g]; rfl

set_option maxRecDepth 100000 in
set_option maxHeartbeats 2000000 in
theorem Rt.num0 (s : ByteArray) (w : World) (h : s.size = 0) :
    Calls Tryz.prog 119 #[.string s] w fun e w' => e = .returned (.tuple #[.int .i64 ((Pl.numP s.data.toList).1 : Nat), .bool (Pl.numP s.data.toList).2]) ∧ w' = w := by
  have hs := Rt.empty s h
  have hs' : s.toList.isEmpty = true := by rw [hs]; rfl
  have HR : Hid (Pl.numP s.data.toList = (0, false)) := Rt.numR_empty s h
  clear h
  go_enter Tryz.func119, Tryz.ntmps119
  go_wp2
  go_ret2
  exact ⟨Rt.ret_pair HR.out.symm, rfl⟩

set_option maxRecDepth 100000 in
set_option maxHeartbeats 2000000 in
theorem Rt.numHex (s : ByteArray) (w : World) (h : 0 < s.size) (hc : (Pl.lowB s[0]).toNat = 120) :
    Calls Tryz.prog 119 #[.string s] w fun e w' => e = .returned (.tuple #[.int .i64 ((Pl.numP s.data.toList).1 : Nat), .bool (Pl.numP s.data.toList).2]) ∧ w' = w := by
  obtain ⟨p, hp⟩ : ∃ p, s.extract 1 s.size = p := ⟨_, rfl⟩
  have hpd : p.data.toList = s.data.toList.drop 1 := by rw [← hp]; exact Wk.rest_data s 1
  have hpz : p.size + 1 = s.size := by
    rw [← Wk.len_data p, hpd, List.length_drop, Wk.len_data]; omega
  have hs := Rt.nonempty s h
  have hs' : s.toList.isEmpty = false := by rw [List.isEmpty_eq_false_iff]; exact hs
  have HR0 : Hid (Pl.numP s.data.toList = if p.size = 0 ∨ 6 < p.size then (0, false) else Pl.allP 16 p.data.toList 0) := Rt.numR_hex s p h hc hpd
  have cl := Sz.low s[0] w
  have hc' : ((Pl.lowB s[0]).toNat : Int) = 120 := by rw [hc]; rfl
  rw [hc'] at cl
  clear hc'
  have hcut : ∀ u : World, (Instr.slice 9 (.string s) (some (.int .i64 1)) none none).run Tryz.prog u = .ok (.string p) u := fun u => by
    have h := Rr.run_from u s 1 (by omega) (by omega)
    rw [← hp]; exact h
  clear hp hpd hc
  by_cases h0 : p.size = 0
  · have hpe := Rt.empty p h0
    have hpe' : p.toList.isEmpty = true := by rw [hpe]; rfl
    have HR : Hid (Pl.numP s.data.toList = (0, false)) := by show _ = _; rw [HR0.out, if_pos (.inl h0)]
    clear HR0 h0 hpz
    go_enter Tryz.func119, Tryz.ntmps119
    go_wp2_with (go_at_call 72; refine cl.mono ?_; rintro e w1 ⟨rfl, rfl⟩)
    go_ret2
    exact ⟨Rt.ret_pair HR.out.symm, rfl⟩
  · have hpe := Rt.nonempty p (by omega)
    have hpe' : p.toList.isEmpty = false := by rw [List.isEmpty_eq_false_iff]; exact hpe
    by_cases h6 : 6 < p.size
    · have HR : Hid (Pl.numP s.data.toList = (0, false)) := by show _ = _; rw [HR0.out, if_pos (.inr h6)]
      clear HR0 hpz
      go_enter Tryz.func119, Tryz.ntmps119
      go_wp2_with (go_at_call 72; refine cl.mono ?_; rintro e w1 ⟨rfl, rfl⟩)
      go_ret2
      exact ⟨Rt.ret_pair HR.out.symm, rfl⟩
    · have HR : Hid (Pl.numP s.data.toList = Pl.allP 16 p.data.toList 0) := by show _ = _; rw [HR0.out, if_neg (by omega)]
      clear HR0 hpz
      go_enter Tryz.func119, Tryz.ntmps119
      go_wp2_with (go_at_call 72; refine cl.mono ?_; rintro e w1 ⟨rfl, rfl⟩)
      go_loop [6, 7] (fun v i => ∃ x k : Nat, k ≤ p.size ∧ v = .int .i64 x ∧ i = .int .i64 k ∧ x < 16 ^ k ∧ Hid (Pl.allP 16 (p.data.toList.drop k) x = Pl.allP 16 p.data.toList 0)) (fun _ i => p.size - (intOf i).toNat)
      case atStart => exact ⟨0, 0, Nat.zero_le _, rfl, rfl, by decide, rfl⟩
      case round =>
        obtain ⟨x, k, hk1, rfl, rfl, hx0, HE⟩ := hrel
        have hx : x < 16777216 := Rd.pow_le 16 x k 6 hx0 (by decide) (by omega)
        have HX : Hid (x < 16 ^ k) := hx0
        clear hx0
        by_cases hlt : k < p.size
        · obtain ⟨d, hd⟩ : ∃ d, Pl.dig p[k] = d := ⟨_, rfl⟩
          obtain ⟨n, hn⟩ : ∃ n, p[k].toNat = n := ⟨_, rfl⟩
          have hd16 : d ≤ 16 := by rw [← hd]; exact Pl.dig_le _
          by_cases hb : d < 16
          · have cd := Rt.hex_at p[k] d hd (d : Int) (by rw [if_neg (by omega)]) w1
            rw [hn] at cd
            have hb0 : decide ((d : Int) < 0) = false := decide_eq_false (by omega)
            have hb1 : decide ((16 : Int) ≤ (d : Int)) = false := decide_eq_false (by omega)
            have HP := Rd.pow 16 x k d HX.out hb
            have HG := Rt.all_go 16 p k x d hlt hd hb
            have HN : Hid (Pl.allP 16 (p.data.toList.drop (k + 1)) (x * 16 + d) = Pl.allP 16 p.data.toList 0 ∧ x * 16 + d < 16 ^ (k + 1)) := ⟨by rw [← HG]; exact HE.out, HP⟩
            clear HP HG HX HE hd
            go_wp2_with (go_at_call 133; refine cd.mono ?_; rintro e w2 ⟨rfl, rfl⟩)
            go_round
            case rel => exact ⟨x * 16 + d, k + 1, by omega, by go_num, by go_num, HN.out.2, HN.out.1⟩
            case measure => simp [intOf]; omega
          · have HB : Hid (Pl.numP s.data.toList = (0, false)) := by
              show _ = _
              rw [HR.out, ← HE.out]
              exact Rt.all_bad _ p k x d hlt hd (by omega)
            by_cases h16 : d = 16
            · have cd := Rt.hex_at p[k] d hd (-1) (by rw [if_pos h16]) w1
              rw [hn] at cd
              clear HX HE hd h16 hb
              go_wp2_with (go_at_call 133; refine cd.mono ?_; rintro e w2 ⟨rfl, rfl⟩)
              go_ret2
              exact ⟨Rt.ret_pair HB.out.symm, rfl⟩
            · have cd := Rt.hex_at p[k] d hd (d : Int) (by rw [if_neg h16]) w1
              rw [hn] at cd
              have hb0 : decide ((d : Int) < 0) = false := decide_eq_false (by omega)
              have hb1 : decide ((16 : Int) ≤ (d : Int)) = true := decide_eq_true (by omega)
              clear HX HE hd
              go_wp2_with (go_at_call 133; refine cd.mono ?_; rintro e w2 ⟨rfl, rfl⟩)
              go_ret2
              exact ⟨Rt.ret_pair HB.out.symm, rfl⟩
        · have HB : Hid (Pl.numP s.data.toList = (x, true)) := by
            show _ = _
            rw [HR.out, ← HE.out]
            exact Rt.all_end _ p k x (by omega)
          clear HX HE
          go_wp2
          go_ret2
          exact ⟨Rt.ret_pair HB.out.symm, rfl⟩

set_option maxRecDepth 100000 in
set_option maxHeartbeats 2000000 in
theorem Rt.numTen (s : ByteArray) (w : World) (h : 0 < s.size) (hc : (Pl.lowB s[0]).toNat ≠ 120) :
    Calls Tryz.prog 119 #[.string s] w fun e w' => e = .returned (.tuple #[.int .i64 ((Pl.numP s.data.toList).1 : Nat), .bool (Pl.numP s.data.toList).2]) ∧ w' = w := by
  have hs := Rt.nonempty s h
  have hs' : s.toList.isEmpty = false := by rw [List.isEmpty_eq_false_iff]; exact hs
  have HR0 : Hid (Pl.numP s.data.toList = if 7 < s.size then (0, false) else Pl.allP 10 s.data.toList 0) := Rt.numR_ten s h hc
  have cl := Sz.low s[0] w
  obtain ⟨m, hm⟩ : ∃ m, (Pl.lowB s[0]).toNat = m := ⟨_, rfl⟩
  rw [hm] at cl hc
  have hb : ((m : Int) == 120) = false := beq_eq_false_iff_ne.2 (by omega)
  clear hm hc
  by_cases h7 : 7 < s.size
  · have HR : Hid (Pl.numP s.data.toList = (0, false)) := by show _ = _; rw [HR0.out, if_pos h7]
    clear HR0
    go_enter Tryz.func119, Tryz.ntmps119
    go_wp2_with (go_at_call 72; refine cl.mono ?_; rintro e w1 ⟨rfl, rfl⟩)
    go_ret2
    exact ⟨Rt.ret_pair HR.out.symm, rfl⟩
  · have HR : Hid (Pl.numP s.data.toList = Pl.allP 10 s.data.toList 0) := by show _ = _; rw [HR0.out, if_neg h7]
    clear HR0
    go_enter Tryz.func119, Tryz.ntmps119
    go_wp2_with (go_at_call 72; refine cl.mono ?_; rintro e w1 ⟨rfl, rfl⟩)
    go_loop [6, 7] (fun v i => ∃ x k : Nat, k ≤ s.size ∧ v = .int .i64 x ∧ i = .int .i64 k ∧ x < 10 ^ k ∧ Hid (Pl.allP 10 (s.data.toList.drop k) x = Pl.allP 10 s.data.toList 0)) (fun _ i => s.size - (intOf i).toNat)
    case atStart => exact ⟨0, 0, Nat.zero_le _, rfl, rfl, by decide, rfl⟩
    case round =>
      obtain ⟨x, k, hk1, rfl, rfl, hx0, HE⟩ := hrel
      have hx : x < 10000000 := Rd.pow_le 10 x k 7 hx0 (by decide) (by omega)
      have HX : Hid (x < 10 ^ k) := hx0
      clear hx0
      by_cases hlt : k < s.size
      · obtain ⟨d, hd⟩ : ∃ d, Pl.dig s[k] = d := ⟨_, rfl⟩
        obtain ⟨n, hn⟩ : ∃ n, s[k].toNat = n := ⟨_, rfl⟩
        have hd16 : d ≤ 16 := by rw [← hd]; exact Pl.dig_le _
        by_cases hb : d < 10
        · have cd := Rt.hex_at s[k] d hd (d : Int) (by rw [if_neg (by omega)]) w1
          rw [hn] at cd
          have hb0 : decide ((d : Int) < 0) = false := decide_eq_false (by omega)
          have hb1 : decide ((10 : Int) ≤ (d : Int)) = false := decide_eq_false (by omega)
          have HP := Rd.pow 10 x k d HX.out hb
          have HG := Rt.all_go 10 s k x d hlt hd hb
          have HN : Hid (Pl.allP 10 (s.data.toList.drop (k + 1)) (x * 10 + d) = Pl.allP 10 s.data.toList 0 ∧ x * 10 + d < 10 ^ (k + 1)) := ⟨by rw [← HG]; exact HE.out, HP⟩
          clear HP HG HX HE hd
          go_wp2_with (go_at_call 133; refine cd.mono ?_; rintro e w2 ⟨rfl, rfl⟩)
          go_round
          case rel => exact ⟨x * 10 + d, k + 1, by omega, by go_num, by go_num, HN.out.2, HN.out.1⟩
          case measure => simp [intOf]; omega
        · have HB : Hid (Pl.numP s.data.toList = (0, false)) := by
            show _ = _
            rw [HR.out, ← HE.out]
            exact Rt.all_bad _ s k x d hlt hd (by omega)
          by_cases h16 : d = 16
          · have cd := Rt.hex_at s[k] d hd (-1) (by rw [if_pos h16]) w1
            rw [hn] at cd
            clear HX HE hd h16 hb
            go_wp2_with (go_at_call 133; refine cd.mono ?_; rintro e w2 ⟨rfl, rfl⟩)
            go_ret2
            exact ⟨Rt.ret_pair HB.out.symm, rfl⟩
          · have cd := Rt.hex_at s[k] d hd (d : Int) (by rw [if_neg h16]) w1
            rw [hn] at cd
            have hb0 : decide ((d : Int) < 0) = false := decide_eq_false (by omega)
            have hb1 : decide ((10 : Int) ≤ (d : Int)) = true := decide_eq_true (by omega)
            clear HX HE hd
            go_wp2_with (go_at_call 133; refine cd.mono ?_; rintro e w2 ⟨rfl, rfl⟩)
            go_ret2
            exact ⟨Rt.ret_pair HB.out.symm, rfl⟩
      · have HB : Hid (Pl.numP s.data.toList = (x, true)) := by
          show _ = _
          rw [HR.out, ← HE.out]
          exact Rt.all_end _ s k x (by omega)
        clear HX HE
        go_wp2
        go_ret2
        exact ⟨Rt.ret_pair HB.out.symm, rfl⟩

theorem Rt.number (s : ByteArray) (w : World) :
    Calls Tryz.prog 119 #[.string s] w fun e w' => e = .returned (.tuple #[.int .i64 ((Pl.numP s.data.toList).1 : Nat), .bool (Pl.numP s.data.toList).2]) ∧ w' = w := by
  by_cases h : s.size = 0
  · exact Rt.num0 s w h
  · by_cases hc : (Pl.lowB (s[0]'(by omega))).toNat = 120
    · exact Rt.numHex s w (by omega) hc
    · exact Rt.numTen s w (by omega) hc

def Pl.nameS (b : List UInt8) : List UInt8 := (Pl.nameR Pl.names0 b).getD []
theorem Rt.ret_str {a b : List UInt8} (h : a = b) : Ending.returned (.string ⟨a.toArray⟩) = .returned (.string ⟨b.toArray⟩) := by rw [h]
set_option maxRecDepth 100000 in
theorem Rt.named (s : ByteArray) (w : World) :
    Calls Tryz.prog 121 #[.string s] w fun e w' => e = .returned (.string ⟨(Pl.nameS s.data.toList).toArray⟩) ∧ w' = w := by
  by_cases e0 : s.data.toList = [97, 109, 112]
  · have b0 : (s.toList == [97, 109, 112]) = true := by rw [Lib.toList_data]; exact beq_iff_eq.2 e0
    have HR : Hid ([38] = Pl.nameS s.data.toList) := by show _ = _; rw [e0]; rfl
    clear e0
    go_enter Tryz.func121, Tryz.ntmps121
    go_wp2
    go_ret
    exact ⟨Rt.ret_str HR.out, rfl⟩
  have b0 : (s.toList == [97, 109, 112]) = false := by rw [Lib.toList_data]; exact beq_eq_false_iff_ne.2 e0
  by_cases e1 : s.data.toList = [108, 116]
  · have b1 : (s.toList == [108, 116]) = true := by rw [Lib.toList_data]; exact beq_iff_eq.2 e1
    have HR : Hid ([60] = Pl.nameS s.data.toList) := by show _ = _; rw [e1]; rfl
    clear e1
    go_enter Tryz.func121, Tryz.ntmps121
    go_wp2
    go_ret
    exact ⟨Rt.ret_str HR.out, rfl⟩
  have b1 : (s.toList == [108, 116]) = false := by rw [Lib.toList_data]; exact beq_eq_false_iff_ne.2 e1
  by_cases e2 : s.data.toList = [103, 116]
  · have b2 : (s.toList == [103, 116]) = true := by rw [Lib.toList_data]; exact beq_iff_eq.2 e2
    have HR : Hid ([62] = Pl.nameS s.data.toList) := by show _ = _; rw [e2]; rfl
    clear e2
    go_enter Tryz.func121, Tryz.ntmps121
    go_wp2
    go_ret
    exact ⟨Rt.ret_str HR.out, rfl⟩
  have b2 : (s.toList == [103, 116]) = false := by rw [Lib.toList_data]; exact beq_eq_false_iff_ne.2 e2
  by_cases e3 : s.data.toList = [113, 117, 111, 116]
  · have b3 : (s.toList == [113, 117, 111, 116]) = true := by rw [Lib.toList_data]; exact beq_iff_eq.2 e3
    have HR : Hid ([34] = Pl.nameS s.data.toList) := by show _ = _; rw [e3]; rfl
    clear e3
    go_enter Tryz.func121, Tryz.ntmps121
    go_wp2
    go_ret
    exact ⟨Rt.ret_str HR.out, rfl⟩
  have b3 : (s.toList == [113, 117, 111, 116]) = false := by rw [Lib.toList_data]; exact beq_eq_false_iff_ne.2 e3
  by_cases e4 : s.data.toList = [97, 112, 111, 115]
  · have b4 : (s.toList == [97, 112, 111, 115]) = true := by rw [Lib.toList_data]; exact beq_iff_eq.2 e4
    have HR : Hid ([39] = Pl.nameS s.data.toList) := by show _ = _; rw [e4]; rfl
    clear e4
    go_enter Tryz.func121, Tryz.ntmps121
    go_wp2
    go_ret
    exact ⟨Rt.ret_str HR.out, rfl⟩
  have b4 : (s.toList == [97, 112, 111, 115]) = false := by rw [Lib.toList_data]; exact beq_eq_false_iff_ne.2 e4
  by_cases e5 : s.data.toList = [110, 98, 115, 112]
  · have b5 : (s.toList == [110, 98, 115, 112]) = true := by rw [Lib.toList_data]; exact beq_iff_eq.2 e5
    have HR : Hid ([194, 160] = Pl.nameS s.data.toList) := by show _ = _; rw [e5]; rfl
    clear e5
    go_enter Tryz.func121, Tryz.ntmps121
    go_wp2
    go_ret
    exact ⟨Rt.ret_str HR.out, rfl⟩
  have b5 : (s.toList == [110, 98, 115, 112]) = false := by rw [Lib.toList_data]; exact beq_eq_false_iff_ne.2 e5
  by_cases e6 : s.data.toList = [99, 111, 112, 121]
  · have b6 : (s.toList == [99, 111, 112, 121]) = true := by rw [Lib.toList_data]; exact beq_iff_eq.2 e6
    have HR : Hid ([194, 169] = Pl.nameS s.data.toList) := by show _ = _; rw [e6]; rfl
    clear e6
    go_enter Tryz.func121, Tryz.ntmps121
    go_wp2
    go_ret
    exact ⟨Rt.ret_str HR.out, rfl⟩
  have b6 : (s.toList == [99, 111, 112, 121]) = false := by rw [Lib.toList_data]; exact beq_eq_false_iff_ne.2 e6
  have HR : Hid ([] = Pl.nameS s.data.toList) := by
    show _ = _
    simp [Pl.nameS, Pl.nameR, Pl.names0, e0, e1, e2, e3, e4, e5, e6]
  clear e0 e1 e2 e3 e4 e5 e6
  go_enter Tryz.func121, Tryz.ntmps121
  go_wp2
  go_ret
  exact ⟨Rt.ret_str HR.out, rfl⟩
end Go.Proofs.YtjbkgokiikbaeaaGreatDoor
/-
  THE WALK of stoleref1.reference: it returns what 'Pl.refR' gives of the bytes between & and ;, and turns nothing that was there.
-/
namespace Go.Proofs.YtjbkgokiikbaeaaGreatDoor
open Go.RowKit

def Pl.refP (b : List UInt8) : List UInt8 × Bool := match Pl.refR b with | some t => (t, true) | none => ([], false)
theorem Rt.ret_two {p q : List UInt8 × Bool} (h : p = q) : Ending.returned (.tuple #[.string ⟨p.1.toArray⟩, .bool p.2]) = .returned (.tuple #[.string ⟨q.1.toArray⟩, .bool q.2]) := by rw [h]
theorem Rt.refP_num (s p : ByteArray) (h : 0 < s.size) (hc : s[0] = 35) (hp : p.data.toList = s.data.toList.drop 1) : Pl.refP s.data.toList = if (Pl.numP p.data.toList).2 = true then (Pl.runeL (Pl.numP p.data.toList).1, true) else ([], false) := by
  have hd := Rd.drop_cons s 0 h
  rw [List.drop_zero, Nat.zero_add, ← hp, hc] at hd
  rw [hd, Pl.refP, Pl.refR, if_pos (by simp), List.tail_cons, Pl.numP]
  cases Pl.numR p.data.toList <;> rfl
theorem Rt.nameR_ne : ∀ (b g : List UInt8), Pl.nameR Pl.names0 b = some g → g ≠ [] := by
  have key : ∀ ns : List (List UInt8 × List UInt8), (∀ n ∈ ns, n.2 ≠ []) → ∀ b g, Pl.nameR ns b = some g → g ≠ [] := by
    intro ns
    induction ns with
    | nil => intro _ b g h; cases h
    | cons n ns ih =>
      intro hn b g h
      rw [Pl.nameR] at h
      split at h
      · cases h; exact hn n (by simp)
      · exact ih (fun m hm => hn m (by simp [hm])) b g h
  exact key Pl.names0 (by decide)
theorem Rt.refP_name (b : List UInt8) (h : b.head? ≠ some 35) : Pl.refP b = (Pl.nameS b, !(Pl.nameS b).isEmpty) := by
  rw [Pl.refP, Pl.refR, if_neg h, Pl.nameS]
  cases hn : Pl.nameR Pl.names0 b with
  | none => rfl
  | some g =>
    have := Rt.nameR_ne b g hn
    simp [this]

set_option maxRecDepth 100000 in
set_option maxHeartbeats 2000000 in
theorem Rt.refNum (s : ByteArray) (w : World) (h : 0 < s.size) (hc : s[0] = 35) :
    Calls Tryz.prog 108 #[.string s] w fun e w' => e = .returned (.tuple #[.string ⟨(Pl.refP s.data.toList).1.toArray⟩, .bool (Pl.refP s.data.toList).2]) ∧ Below w.heap.size w w' := by
  obtain ⟨p, hp⟩ : ∃ p, s.extract 1 s.size = p := ⟨_, rfl⟩
  have hpd : p.data.toList = s.data.toList.drop 1 := by rw [← hp]; exact Wk.rest_data s 1
  have hs := Rt.nonempty s h
  have hs' : s.toList.isEmpty = false := by rw [List.isEmpty_eq_false_iff]; exact hs
  have HR := Rt.refP_num s p h hc hpd
  have cn := Rt.number p w
  have hcn : (s[0].toNat : Int) = 35 := by rw [hc]; rfl
  have hcut : ∀ u : World, (Instr.slice 9 (.string s) (some (.int .i64 1)) none none).run Tryz.prog u = .ok (.string p) u := fun u => by
    have h := Rr.run_from u s 1 (by omega) (by omega)
    rw [← hp]; exact h
  generalize Pl.numP p.data.toList = q at *
  obtain ⟨x, b⟩ := q
  clear hp hpd hc
  cases b with
  | false =>
    have HR' : Hid (Pl.refP s.data.toList = ([], false)) := HR
    clear HR
    go_enter Tryz.func108, Tryz.ntmps108
    go_wp2_with fail
    refine cn.mono ?_
    rintro e w1 ⟨rfl, hw1⟩
    subst hw1
    go_wp2
    go_ret2
    exact ⟨Rt.ret_two HR'.out.symm, Below.refl _ _⟩
  | true =>
    have HR' : Hid (Pl.refP s.data.toList = (Pl.runeL x, true)) := HR
    clear HR
    have cr := Ru.rune x w
    go_enter Tryz.func108, Tryz.ntmps108
    go_wp2_with fail
    refine cn.mono ?_
    rintro e w1 ⟨rfl, hw1⟩
    subst hw1
    go_wp2_with fail
    refine cr.mono ?_
    rintro e w2 ⟨v, rfl, hown, hb⟩
    have hconv := Rn.conv hown
    clear hown cr cn
    go_wp2
    go_ret2
    exact ⟨Rt.ret_two HR'.out.symm, hb⟩

set_option maxRecDepth 100000 in
set_option maxHeartbeats 2000000 in
theorem Rt.refName (s : ByteArray) (w : World) (hh : s.data.toList.head? ≠ some 35) :
    Calls Tryz.prog 108 #[.string s] w fun e w' => e = .returned (.tuple #[.string ⟨(Pl.refP s.data.toList).1.toArray⟩, .bool (Pl.refP s.data.toList).2]) ∧ Below w.heap.size w w' := by
  have HR : Hid (Pl.refP s.data.toList = (Pl.nameS s.data.toList, !(Pl.nameS s.data.toList).isEmpty)) := Rt.refP_name _ hh
  have cn := Rt.named s w
  generalize Pl.nameS s.data.toList = g at *
  have hT : (⟨g.toArray⟩ : ByteArray).toList = g := by rw [Lib.toList_data]
  by_cases h0 : s.size = 0
  · have hs := Rt.empty s h0
    have hs' : s.toList.isEmpty = true := by rw [hs]; rfl
    clear hh h0
    go_enter Tryz.func108, Tryz.ntmps108
    go_wp2_with fail
    refine cn.mono ?_
    rintro e w1 ⟨rfl, hw1⟩
    subst hw1
    go_wp2
    go_ret2
    refine ⟨Eq.trans ?_ (Rt.ret_two HR.out.symm), Below.refl _ _⟩
    simp
  · have hpos : 0 < s.size := by omega
    have hs := Rt.nonempty s hpos
    have hs' : s.toList.isEmpty = false := by rw [List.isEmpty_eq_false_iff]; exact hs
    have hd := Rd.drop_cons s 0 hpos
    rw [List.drop_zero] at hd
    rw [hd] at hh
    have hc : s[0] ≠ 35 := fun e => hh (by rw [e]; rfl)
    have hb : ((s[0].toNat : Int) == 35) = false := Re.beq_false s[0] 35 35 rfl hc
    clear hh h0 hd hc
    go_enter Tryz.func108, Tryz.ntmps108
    go_wp2_with fail
    refine cn.mono ?_
    rintro e w1 ⟨rfl, hw1⟩
    subst hw1
    go_wp2
    go_ret2
    refine ⟨Eq.trans ?_ (Rt.ret_two HR.out.symm), Below.refl _ _⟩
    simp
theorem Rt.reference (s : ByteArray) (w : World) :
    Calls Tryz.prog 108 #[.string s] w fun e w' => e = .returned (.tuple #[.string ⟨(Pl.refP s.data.toList).1.toArray⟩, .bool (Pl.refP s.data.toList).2]) ∧ Below w.heap.size w w' := by
  by_cases hh : s.data.toList.head? = some 35
  · have h : 0 < s.size := by
      rw [← Wk.len_data]
      cases hl : s.data.toList with
      | nil => rw [hl] at hh; cases hh
      | cons c r => simp
    have hd := Rd.drop_cons s 0 h
    rw [List.drop_zero] at hd
    rw [hd] at hh
    exact Rt.refNum s w h (by simpa using hh)
  · exact Rt.refName s w hh
end Go.Proofs.YtjbkgokiikbaeaaGreatDoor

/-
  THE WALK of stoleref1.Rune: it returns a new row of bytes, the sign of the number ('Pl.runeL'), and turns nothing that was there.
-/
import Derived.Test.YtpehplamidbkeaaDoorRDig
import Derived.Test.YtpehplamidbkeaaDoorRefNorm
import Derived.Laws.BitsLemmas
namespace Go.Proofs.YtpehplamidbkeaaDoor
open Go.RowKit

theorem Bt.and21 (n : Int) : bits .and .i64 n 2097151 = n % 2097152 := by
  have hm : (BitVec.ofInt 64 2097151).toNat = 2 ^ 21 - 1 := by decide
  have key : (BitVec.ofInt 64 n &&& BitVec.ofInt 64 2097151).toNat = (n % ((2 ^ 64 : Nat) : Int)).toNat % 2 ^ 21 := by
    rw [BitVec.toNat_and, BitVec.toNat_ofInt, hm, Nat.and_two_pow_sub_one_eq_mod]
  show IntKind.i64.wrap ((BitVec.ofInt 64 n &&& BitVec.ofInt 64 2097151).toNat : Nat) = n % 2097152
  rw [key, IntKind.wrap_i64]
  omega
theorem Bt.and4 (n : Int) : bits .and .i64 n 15 = n % 16 := by
  have hm : (BitVec.ofInt 64 15).toNat = 2 ^ 4 - 1 := by decide
  have key : (BitVec.ofInt 64 n &&& BitVec.ofInt 64 15).toNat = (n % ((2 ^ 64 : Nat) : Int)).toNat % 2 ^ 4 := by
    rw [BitVec.toNat_and, BitVec.toNat_ofInt, hm, Nat.and_two_pow_sub_one_eq_mod]
  show IntKind.i64.wrap ((BitVec.ofInt 64 n &&& BitVec.ofInt 64 15).toNat : Nat) = n % 16
  rw [key, IntKind.wrap_i64]
  omega
theorem Bt.and6 (n : Int) : bits .and .i64 n 63 = n % 64 := by
  have hm : (BitVec.ofInt 64 63).toNat = 2 ^ 6 - 1 := by decide
  have key : (BitVec.ofInt 64 n &&& BitVec.ofInt 64 63).toNat = (n % ((2 ^ 64 : Nat) : Int)).toNat % 2 ^ 6 := by
    rw [BitVec.toNat_and, BitVec.toNat_ofInt, hm, Nat.and_two_pow_sub_one_eq_mod]
  show IntKind.i64.wrap ((BitVec.ofInt 64 n &&& BitVec.ofInt 64 63).toNat : Nat) = n % 64
  rw [key, IntKind.wrap_i64]
  omega
theorem Bt.wraps62 (n : Int) (h₀ : 0 ≤ n) (h₁ : n < 2 ^ 62) : IntKind.i64.wrap n = n := by rw [IntKind.wrap_i64]; omega
theorem Bt.or (i : Nat) (c y : Int) (hc0 : 0 ≤ c) (hc : c % 2 ^ i = 0) (hc1 : c < 256) (h0 : 0 ≤ y) (h1 : y < 2 ^ i) (h2 : y < 256) : bits .or .i64 c y = c + y := by
  exact bits_join .i64 62 (by decide) Bt.wraps62 i c y hc0 hc (by omega) h0 h1 (by omega)

/-- a number below 256 as a byte -/
theorem Bt.byte (z : Int) (h0 : 0 ≤ z) (h1 : z < 256) : ∃ a : UInt8, (a.toNat : Int) = z ∧ a = UInt8.ofNat z.toNat :=
  ⟨UInt8.ofNat z.toNat, by rw [UInt8.toNat_ofNat']; omega, rfl⟩
theorem Ru.fin (w : World) (cs : Array Value) (l : List UInt8) (n : Nat) (hn : l.length = n) (hs : n ≤ 4) (h : cs.toList = Lib.byteCells l) :
    (w.alloc (.cells cs 5)).ownsRow w.heap.size 5 1 (.slice (some ⟨w.heap.size, 0, none⟩) n n) l.length (Lib.byteCells l) := by
  have hc : cs.size = n := by rw [← Array.length_toList, h, Lib.byteCells_length, hn]
  have := World.ownsRow_lit (e := 5) (size := 1) w cs n (Nat.le_refl _) (by unfold maxLen; omega) (by omega)
  rw [hn, ← h]
  exact this

set_option maxRecDepth 100000 in
/-- what is no sign -/
theorem Ru.bad (x : Nat) (w : World) (h : x = 0 ∨ (55296 ≤ x ∧ x ≤ 57343) ∨ 1114111 < x) :
    Calls Tryd.prog 15 #[.int .i64 (x : Int)] w fun e w' => ∃ v, e = .returned v ∧ w'.ownsRow w.heap.size 5 1 v (Pl.runeL x).length (Lib.byteCells (Pl.runeL x)) ∧ Below w.heap.size w w' := by
  have hr : Pl.runeL x = Pl.fffd := by rw [Pl.runeL, if_pos h]
  rw [hr]
  by_cases h0 : x = 0
  · subst h0
    clear hr h
    go_enter Tryd.func15, Tryd.ntmps15
    go_wp2
    go_ret
    exact ⟨_, rfl, Ru.fin w _ Pl.fffd 3 rfl (by omega) rfl, (Below.refl _ _).alloc (Nat.le_refl _) _⟩
  · have d0 : decide ((x : Int) ≤ 0) = false := decide_eq_false (by omega)
    by_cases h1 : 55296 ≤ x ∧ x ≤ 57343
    · have d1 : decide ((55296 : Int) ≤ (x : Int)) = true := decide_eq_true (by omega)
      have d2 : decide ((x : Int) ≤ 57343) = true := decide_eq_true (by omega)
      clear hr h h1
      go_enter Tryd.func15, Tryd.ntmps15
      go_wp2
      go_ret
      exact ⟨_, rfl, Ru.fin w _ Pl.fffd 3 rfl (by omega) rfl, (Below.refl _ _).alloc (Nat.le_refl _) _⟩
    · have d3 : decide ((1114111 : Int) < (x : Int)) = true := decide_eq_true (by omega)
      have d1 : decide ((55296 : Int) ≤ (x : Int)) = true := decide_eq_true (by omega)
      have d2 : decide ((x : Int) ≤ 57343) = false := decide_eq_false (by omega)
      clear hr h h1
      go_enter Tryd.func15, Tryd.ntmps15
      go_wp2
      go_ret
      exact ⟨_, rfl, Ru.fin w _ Pl.fffd 3 rfl (by omega) rfl, (Below.refl _ _).alloc (Nat.le_refl _) _⟩

set_option maxRecDepth 100000 in
set_option maxHeartbeats 1000000 in
/-- a number that is a sign -/
theorem Ru.good (x : Nat) (w : World) (h : ¬ (x = 0 ∨ (55296 ≤ x ∧ x ≤ 57343) ∨ 1114111 < x)) :
    Calls Tryd.prog 15 #[.int .i64 (x : Int)] w fun e w' => ∃ v, e = .returned v ∧ w'.ownsRow w.heap.size 5 1 v (Pl.runeL x).length (Lib.byteCells (Pl.runeL x)) ∧ Below w.heap.size w w' := by
  have hr : Pl.runeL x = if x < 128 then [UInt8.ofNat x]
      else if x < 2048 then [UInt8.ofNat (192 + x / 64), UInt8.ofNat (128 + x % 64)]
      else if x < 65536 then [UInt8.ofNat (224 + x / 4096), UInt8.ofNat (128 + x / 64 % 64), UInt8.ofNat (128 + x % 64)]
      else [UInt8.ofNat (240 + x / 262144), UInt8.ofNat (128 + x / 4096 % 64), UInt8.ofNat (128 + x / 64 % 64), UInt8.ofNat (128 + x % 64)] := by rw [Pl.runeL, if_neg h]
  have h0 : ¬ x = 0 := fun e => h (.inl e)
  generalize Pl.runeL x = L at *
  have d0 : decide ((x : Int) ≤ 0) = false := decide_eq_false (by omega)
  have d3 : decide ((1114111 : Int) < (x : Int)) = false := decide_eq_false (by omega)
  have q0 : (0 : Int) ≤ (x : Int) := by omega
  have q1 : (x : Int) ≤ 1114111 := by omega
  by_cases c1 : x < 128
  · rw [if_pos c1] at hr
    have d1 : decide ((55296 : Int) ≤ (x : Int)) = false := decide_eq_false (by omega)
    have d4 : decide ((x : Int) < 128) = true := decide_eq_true (by omega)
    clear h
    obtain ⟨a, ha, ka⟩ := Bt.byte (x : Int) (by omega) (by omega)
    have HL : Hid (L = [a]) := by
      show _ = _
      rw [hr, ka, Int.toNat_natCast]
    have HA : Hid ((a.toNat : Int) = x) := ha
    clear hr ha ka
    rw [HL.out]
    go_enter Tryd.func15, Tryd.ntmps15
    go_wp2
    go_ret
    exact ⟨_, rfl, Ru.fin w #[.int .u8 (x : Int)] [a] 1 rfl (by omega) (by rw [← HA.out]; rfl), (Below.refl _ _).alloc (Nat.le_refl _) _⟩
  · rw [if_neg c1] at hr
    have d4 : decide ((x : Int) < 128) = false := decide_eq_false (by omega)
    by_cases c2 : x < 2048
    · rw [if_pos c2] at hr
      have d1 : decide ((55296 : Int) ≤ (x : Int)) = false := decide_eq_false (by omega)
      have d5 : decide ((x : Int) < 2048) = true := decide_eq_true (by omega)
      clear h
      obtain ⟨a, ha, ka⟩ := Bt.byte (192 + (x : Int) / 64) (by omega) (by omega)
      obtain ⟨b, hb, kb⟩ := Bt.byte (128 + (x : Int) % 64) (by omega) (by omega)
      have HL : Hid (L = [a, b]) := by
        show _ = _
        rw [hr, ka, kb]
        rw [show (192 + (x : Int) / 64).toNat = 192 + x / 64 by omega]
        rw [show (128 + (x : Int) % 64).toNat = 128 + x % 64 by omega]
      have ea : bits .or .i64 192 ((x : Int) / 64) % 256 = (a.toNat : Int) := by
        rw [Bt.or 5 192 _ (by omega) (by omega) (by omega) (by omega) (by omega) (by omega), ha]; omega
      have eb : bits .or .i64 128 (bits .and .i64 (x : Int) 63) % 256 = (b.toNat : Int) := by
        rw [Bt.and6, Bt.or 6 128 _ (by omega) (by omega) (by omega) (by omega) (by omega) (by omega), hb]; omega
      clear hr ha ka hb kb
      rw [HL.out]
      go_enter Tryd.func15, Tryd.ntmps15
      go_wp2
      go_ret
      exact ⟨_, rfl, Ru.fin w #[.int .u8 (a.toNat : Int), .int .u8 (b.toNat : Int)] _ 2 rfl (by omega) rfl, (Below.refl _ _).alloc (Nat.le_refl _) _⟩
    · rw [if_neg c2] at hr
      have d5 : decide ((x : Int) < 2048) = false := decide_eq_false (by omega)
      by_cases c3 : x < 65536
      · rw [if_pos c3] at hr
        have d6 : decide ((x : Int) < 65536) = true := decide_eq_true (by omega)
        by_cases c4 : x < 55296
        · have d1 : decide ((55296 : Int) ≤ (x : Int)) = false := decide_eq_false (by omega)
          clear h
          obtain ⟨a, ha, ka⟩ := Bt.byte (224 + (x : Int) / 4096) (by omega) (by omega)
          obtain ⟨b, hb, kb⟩ := Bt.byte (128 + (x : Int) / 64 % 64) (by omega) (by omega)
          obtain ⟨c, hc, kc⟩ := Bt.byte (128 + (x : Int) % 64) (by omega) (by omega)
          have HL : Hid (L = [a, b, c]) := by
            show _ = _
            rw [hr, ka, kb, kc]
            rw [show (224 + (x : Int) / 4096).toNat = 224 + x / 4096 by omega]
            rw [show (128 + (x : Int) / 64 % 64).toNat = 128 + x / 64 % 64 by omega]
            rw [show (128 + (x : Int) % 64).toNat = 128 + x % 64 by omega]
          have ea : bits .or .i64 224 ((x : Int) / 4096) % 256 = (a.toNat : Int) := by
            rw [Bt.or 4 224 _ (by omega) (by omega) (by omega) (by omega) (by omega) (by omega), ha]; omega
          have eb : bits .or .i64 128 (bits .and .i64 ((x : Int) / 64) 63) % 256 = (b.toNat : Int) := by
            rw [Bt.and6, Bt.or 6 128 _ (by omega) (by omega) (by omega) (by omega) (by omega) (by omega), hb]; omega
          have ec : bits .or .i64 128 (bits .and .i64 (x : Int) 63) % 256 = (c.toNat : Int) := by
            rw [Bt.and6, Bt.or 6 128 _ (by omega) (by omega) (by omega) (by omega) (by omega) (by omega), hc]; omega
          clear hr ha ka hb kb hc kc
          rw [HL.out]
          go_enter Tryd.func15, Tryd.ntmps15
          go_wp2
          go_ret
          exact ⟨_, rfl, Ru.fin w #[.int .u8 (a.toNat : Int), .int .u8 (b.toNat : Int), .int .u8 (c.toNat : Int)] _ 3 rfl (by omega) rfl, (Below.refl _ _).alloc (Nat.le_refl _) _⟩
        · have d1 : decide ((55296 : Int) ≤ (x : Int)) = true := decide_eq_true (by omega)
          have d2 : decide ((x : Int) ≤ 57343) = false := decide_eq_false (by omega)
          clear h
          obtain ⟨a, ha, ka⟩ := Bt.byte (224 + (x : Int) / 4096) (by omega) (by omega)
          obtain ⟨b, hb, kb⟩ := Bt.byte (128 + (x : Int) / 64 % 64) (by omega) (by omega)
          obtain ⟨c, hc, kc⟩ := Bt.byte (128 + (x : Int) % 64) (by omega) (by omega)
          have HL : Hid (L = [a, b, c]) := by
            show _ = _
            rw [hr, ka, kb, kc]
            rw [show (224 + (x : Int) / 4096).toNat = 224 + x / 4096 by omega]
            rw [show (128 + (x : Int) / 64 % 64).toNat = 128 + x / 64 % 64 by omega]
            rw [show (128 + (x : Int) % 64).toNat = 128 + x % 64 by omega]
          have ea : bits .or .i64 224 ((x : Int) / 4096) % 256 = (a.toNat : Int) := by
            rw [Bt.or 4 224 _ (by omega) (by omega) (by omega) (by omega) (by omega) (by omega), ha]; omega
          have eb : bits .or .i64 128 (bits .and .i64 ((x : Int) / 64) 63) % 256 = (b.toNat : Int) := by
            rw [Bt.and6, Bt.or 6 128 _ (by omega) (by omega) (by omega) (by omega) (by omega) (by omega), hb]; omega
          have ec : bits .or .i64 128 (bits .and .i64 (x : Int) 63) % 256 = (c.toNat : Int) := by
            rw [Bt.and6, Bt.or 6 128 _ (by omega) (by omega) (by omega) (by omega) (by omega) (by omega), hc]; omega
          clear hr ha ka hb kb hc kc
          rw [HL.out]
          go_enter Tryd.func15, Tryd.ntmps15
          go_wp2
          go_ret
          exact ⟨_, rfl, Ru.fin w #[.int .u8 (a.toNat : Int), .int .u8 (b.toNat : Int), .int .u8 (c.toNat : Int)] _ 3 rfl (by omega) rfl, (Below.refl _ _).alloc (Nat.le_refl _) _⟩
      · rw [if_neg c3] at hr
        have d6 : decide ((x : Int) < 65536) = false := decide_eq_false (by omega)
        have d1 : decide ((55296 : Int) ≤ (x : Int)) = true := decide_eq_true (by omega)
        have d2 : decide ((x : Int) ≤ 57343) = false := decide_eq_false (by omega)
        clear h
        obtain ⟨a, ha, ka⟩ := Bt.byte (240 + (x : Int) / 262144) (by omega) (by omega)
        obtain ⟨b, hb, kb⟩ := Bt.byte (128 + (x : Int) / 4096 % 64) (by omega) (by omega)
        obtain ⟨c, hc, kc⟩ := Bt.byte (128 + (x : Int) / 64 % 64) (by omega) (by omega)
        obtain ⟨d, hd, kd⟩ := Bt.byte (128 + (x : Int) % 64) (by omega) (by omega)
        have HL : Hid (L = [a, b, c, d]) := by
          show _ = _
          rw [hr, ka, kb, kc, kd]
          rw [show (240 + (x : Int) / 262144).toNat = 240 + x / 262144 by omega]
          rw [show (128 + (x : Int) / 4096 % 64).toNat = 128 + x / 4096 % 64 by omega]
          rw [show (128 + (x : Int) / 64 % 64).toNat = 128 + x / 64 % 64 by omega]
          rw [show (128 + (x : Int) % 64).toNat = 128 + x % 64 by omega]
        have ea : bits .or .i64 240 ((x : Int) / 262144) % 256 = (a.toNat : Int) := by
          rw [Bt.or 4 240 _ (by omega) (by omega) (by omega) (by omega) (by omega) (by omega), ha]; omega
        have eb : bits .or .i64 128 (bits .and .i64 ((x : Int) / 4096) 63) % 256 = (b.toNat : Int) := by
          rw [Bt.and6, Bt.or 6 128 _ (by omega) (by omega) (by omega) (by omega) (by omega) (by omega), hb]; omega
        have ec : bits .or .i64 128 (bits .and .i64 ((x : Int) / 64) 63) % 256 = (c.toNat : Int) := by
          rw [Bt.and6, Bt.or 6 128 _ (by omega) (by omega) (by omega) (by omega) (by omega) (by omega), hc]; omega
        have ed : bits .or .i64 128 (bits .and .i64 (x : Int) 63) % 256 = (d.toNat : Int) := by
          rw [Bt.and6, Bt.or 6 128 _ (by omega) (by omega) (by omega) (by omega) (by omega) (by omega), hd]; omega
        clear hr ha ka hb kb hc kc hd kd
        rw [HL.out]
        go_enter Tryd.func15, Tryd.ntmps15
        go_wp2
        go_ret
        exact ⟨_, rfl, Ru.fin w #[.int .u8 (a.toNat : Int), .int .u8 (b.toNat : Int), .int .u8 (c.toNat : Int), .int .u8 (d.toNat : Int)] _ 4 rfl (by omega) rfl, (Below.refl _ _).alloc (Nat.le_refl _) _⟩

theorem Ru.rune (x : Nat) (w : World) :
    Calls Tryd.prog 15 #[.int .i64 (x : Int)] w fun e w' => ∃ v, e = .returned v ∧ w'.ownsRow w.heap.size 5 1 v (Pl.runeL x).length (Lib.byteCells (Pl.runeL x)) ∧ Below w.heap.size w w' := by
  by_cases h : x = 0 ∨ (55296 ≤ x ∧ x ≤ 57343) ∨ 1114111 < x
  · exact Ru.bad x w h
  · exact Ru.good x w h
end Go.Proofs.YtpehplamidbkeaaDoor

/-
  THE WALK of stolelaw10.JsonEscapes: it returns true.
-/
import Derived.Test.YtboalkfagfgnpaaDoorJEsc
import Derived.Test.YtboalkfagfgnpaaDoorJsonNumbers
import Derived.Test.YtboalkfagfgnpaaDoorJsonBlanks
import Derived.Test.YtboalkfagfgnpaaDoorRRune
namespace Go.Proofs.YtboalkfagfgnpaaDoor
open Go.RowKit
theorem Je.conv {w : World} {g n : Nat} {cs : Array Value} (l : List UInt8) (h : Vm.Has w g (.cells cs 5)) (hn : l.length = n) (hc : ∀ (j : Nat) (c : UInt8), l[j]? = some c → cs[j]? = some (Value.int .u8 (c.toNat : Int))) : (convert 42 9 (.slice (some ⟨g, 0, none⟩) n n)).run Tryd.prog w = .ok (.string ⟨l.toArray⟩) w := by
  subst hn
  exact run_convert_bytes_back (P := Tryd.prog) w 42 9 5 ⟨g, 0, none⟩ l.length l Tryd.underlying42 Tryd.underlying5 Tryd.underlying9 (fun j hj => by
    rw [Addr.add_lit, Nat.zero_add]
    exact h.cell j (hc j _ (List.getElem?_eq_getElem hj)))
def Je.digits : ByteArray := ⟨#[48, 49, 50, 51, 52, 53, 54, 55, 56, 57, 97, 98, 99, 100, 101, 102]⟩
theorem Je.dig (k : Nat) (hk : k < 16) (h : k < Je.digits.size) : Je.digits[k]'h = Js.hex k := by
  have : ∀ k : Fin 16, Je.digits[k.val]'(by have := k.isLt; show k.val < 16; exact this) = Js.hex k.val := by decide
  exact this ⟨k, hk⟩
theorem Je.next (x n : Nat) (h : n < 4) : (Js.fourL x).take n ++ [Js.hex (x / 2 ^ (12 - 4 * n) % 16)] = (Js.fourL x).take (n + 1) := by
  have : n = 0 ∨ n = 1 ∨ n = 2 ∨ n = 3 := by omega
  rcases this with rfl | rfl | rfl | rfl <;> simp [Js.fourL]
set_option maxRecDepth 100000 in
set_option maxHeartbeats 4000000 in
theorem Je.four (x : Nat) (_hx : x < 65536) (w : World) : Calls Tryd.prog 16 #[.int .i64 (x : Int)] w fun e w' => e = .returned (.string ⟨(Js.fourL x).toArray⟩) ∧ Below w.heap.size w w' := by
  obtain ⟨RR, hRR⟩ : ∃ RR, Js.fourL x = RR := ⟨_, rfl⟩
  have HRR := Lib.hid hRR
  rw [hRR]
  clear hRR
  go_enter Tryd.func16, Tryd.ntmps16
  go_wp2_with fail
  go_loopw [3, 4] (fun sv ix wr => ∃ (n : Nat) (S : ByteArray), n ≤ 4 ∧ S.size = n ∧ sv = .string S ∧ ix = .int .i64 (12 - 4 * (n : Int)) ∧ Hid (S.data.toList = (Js.fourL x).take n) ∧ Hid (Below w.heap.size w wr)) (fun _ ix _ => (intOf ix + 4).toNat)
  case atStart => exact ⟨0, ⟨#[]⟩, by omega, rfl, rfl, rfl, rfl, Below.refl _ _⟩
  case round =>
    obtain ⟨n, S, hn, hS, rfl, rfl, HS, HB⟩ := hrel
    by_cases hlt : n < 4
    · have d1 : decide (4 * (n : Int) ≤ 12) = true := decide_eq_true (by omega)
      obtain ⟨y, hy, hy16, hyx⟩ : ∃ y : Nat, bits .and .i64 ((x : Int) / 2 ^ (12 - 4 * n)) 15 = (y : Int) ∧ y < 16 ∧ y = x / 2 ^ (12 - 4 * n) % 16 := by
        refine ⟨x / 2 ^ (12 - 4 * n) % 16, ?_, by omega, rfl⟩
        rw [Bt.and4]
        have : ((2 : Int) ^ (12 - 4 * n)) = ((2 ^ (12 - 4 * n) : Nat) : Int) := by simp
        rw [this]
        omega
      have hd : ∀ h : y < 16, (⟨#[48, 49, 50, 51, 52, 53, 54, 55, 56, 57, 97, 98, 99, 100, 101, 102]⟩ : ByteArray)[y]'h = Js.hex y := fun h => Je.dig y hy16 h
      have HN : Hid ((S ++ ⟨#[Js.hex y]⟩).data.toList = (Js.fourL x).take (n + 1)) := by
        unfold Hid
        rw [Jg.cat, HS.out, hyx]
        exact Je.next x n hlt
      have cv := Je.conv (n := 1) [Js.hex y] (Vm.Has.new wr (.cells #[.int .u8 ((Js.hex y).toNat : Int)] 5) _ rfl) rfl (fun j c hc => by
        match j, hc with
        | 0, hc =>
          injection hc with hc
          rw [← hc]
          rfl)
      have k1 : ¬ 9223372036854775807 < S.size + 1 := by omega
      have k2 : ¬ 9223372036854775807 ≤ S.size := by omega
      clear hyx HS
      go_wp2_with fail
      go_roundw
      case rel => exact ⟨n + 1, _, by omega, by rw [Jg.more]; omega, rfl, by go_num, HN, HB.out.alloc HB.out.size _⟩
      case measure => simp [intOf]; omega
    · have d1 : decide (4 * (n : Int) ≤ 12) = false := decide_eq_false (by omega)
      have HE : Hid (S = ⟨RR.toArray⟩) := by
        have e : n = 4 := by omega
        subst e
        unfold Hid
        rw [← HRR.out, ← Js.arr S, HS.out]
        rfl
      go_wp2_with fail
      go_ret
      exact ⟨by rw [HE.out]; rfl, HB.out⟩
theorem Je.k (x : Int) : ∃ m : Nat, Go.bits .and .i64 x 1048575 = (m : Int) ∧ m < 1048576 := by
  have hm : (BitVec.ofInt 64 1048575).toNat = 2 ^ 20 - 1 := by decide
  have key : (BitVec.ofInt 64 x &&& BitVec.ofInt 64 1048575).toNat = (x % ((2 ^ 64 : Nat) : Int)).toNat % 2 ^ 20 := by
    rw [BitVec.toNat_and, BitVec.toNat_ofInt, hm, Nat.and_two_pow_sub_one_eq_mod]
  have h : Go.bits .and .i64 x 1048575 = x % 1048576 := by
    show IntKind.i64.wrap ((BitVec.ofInt 64 x &&& BitVec.ofInt 64 1048575).toNat : Nat) = x % 1048576
    rw [key, IntKind.wrap_i64]
    omega
  exact ⟨(x % 1048576).toNat, by rw [h]; omega, by omega⟩
/-- the four bytes of a sign from 65536 on -/
theorem Je.bytes (m : Nat) (hm : m < 1048576) : ∃ z1 z2 z3 z4 : UInt8, Pl.runeL (65536 + m) = [z1, z2, z3, z4] ∧ bits .or .i64 240 ((65536 + (m : Int)) / 262144) = (z1.toNat : Int) ∧ bits .or .i64 128 ((65536 + (m : Int)) / 4096 % 64) = (z2.toNat : Int) ∧ bits .or .i64 128 ((65536 + (m : Int)) / 64 % 64) = (z3.toNat : Int) ∧ bits .or .i64 128 ((65536 + (m : Int)) % 64) = (z4.toNat : Int) := by
  refine ⟨_, _, _, _, Js.rune4 (65536 + m) (by omega) (by omega), ?_, ?_, ?_, ?_⟩
  · rw [Bt.or 4 240 _ (by omega) (by decide) (by omega) (by omega) (by omega) (by omega), Js.byte_of _ (by omega)]
    omega
  · rw [Bt.or 6 128 _ (by omega) (by decide) (by omega) (by omega) (by omega) (by omega), Js.byte_of _ (by omega)]
    omega
  · rw [Bt.or 6 128 _ (by omega) (by decide) (by omega) (by omega) (by omega) (by omega), Js.byte_of _ (by omega)]
    omega
  · rw [Bt.or 6 128 _ (by omega) (by decide) (by omega) (by omega) (by omega) (by omega), Js.byte_of _ (by omega)]
    omega
theorem Je.and10 (n : Int) : Go.bits .and .i64 n 1023 = n % 1024 := by
  have hm : (BitVec.ofInt 64 1023).toNat = 2 ^ 10 - 1 := by decide
  have key : (BitVec.ofInt 64 n &&& BitVec.ofInt 64 1023).toNat = (n % ((2 ^ 64 : Nat) : Int)).toNat % 2 ^ 10 := by
    rw [BitVec.toNat_and, BitVec.toNat_ofInt, hm, Nat.and_two_pow_sub_one_eq_mod]
  show IntKind.i64.wrap ((BitVec.ofInt 64 n &&& BitVec.ofInt 64 1023).toNat : Nat) = n % 1024
  rw [key, IntKind.wrap_i64]
  omega
def Je.e1 : ByteArray := ⟨#[34, 92, 34, 92, 92, 92, 47, 92, 98, 92, 102, 92, 110, 92, 114, 92, 116, 92, 117, 48, 48, 52, 49, 92, 117, 48, 48, 101, 57, 34]⟩
theorem Je.g1 : Js.got Je.e1.data.toList = Js.leaf 4 0 0 ⟨#[34, 92, 47, 8, 12, 10, 13, 9, 65, 195, 169]⟩ ∧ Js.gerr Je.e1.data.toList = 0 := ⟨by kernel_rfl, by kernel_rfl⟩
set_option maxRecDepth 100000 in
set_option maxHeartbeats 4000000 in
theorem Law.jsonEscapes (x : Int) (w : World) (hT : Jt w) : Calls Tryd.prog 6 #[.int .i64 x] w fun e w' => e = .returned (.bool true) ∧ Below w.heap.size w w' := by
  have aw := Ja.awake w hT
  obtain ⟨m, hm, hm20⟩ := Je.k x
  have f1 := fun u => Je.four (55296 + m / 1024) (by omega) u
  have f2 := fun u => Je.four (56320 + m % 1024) (by omega) u
  rw [show ((55296 + m / 1024 : Nat) : Int) = 55296 + (65536 + (m : Int) - 65536) / 1024 by omega] at f1
  rw [show ((56320 + m % 1024 : Nat) : Int) = 56320 + (65536 + (m : Int) - 65536) % 1024 by omega] at f2
  have hg := Js.get_pair (65536 + m) (by omega) (by omega)
  rw [show 65536 + m - 65536 = m by omega] at hg
  obtain ⟨F1, hF1⟩ : ∃ F : ByteArray, F = ⟨(Js.fourL (55296 + m / 1024)).toArray⟩ := ⟨_, rfl⟩
  obtain ⟨F2, hF2⟩ : ∃ F : ByteArray, F = ⟨(Js.fourL (56320 + m % 1024)).toArray⟩ := ⟨_, rfl⟩
  rw [← hF1] at f1
  rw [← hF2] at f2
  have s1 : F1.size = 4 := by rw [hF1]; rfl
  have s2 : F2.size = 4 := by rw [hF2]; rfl
  have HG : Hid (Js.got ((⟨#[34, 92, 117]⟩ ++ F1 ++ ⟨#[92, 117]⟩ ++ F2 ++ ⟨#[34]⟩ : ByteArray)).data.toList = Js.leaf 4 0 0 ⟨(Pl.runeL (65536 + m)).toArray⟩ ∧ Js.gerr ((⟨#[34, 92, 117]⟩ ++ F1 ++ ⟨#[92, 117]⟩ ++ F2 ++ ⟨#[34]⟩ : ByteArray)).data.toList = 0) := by
    have e : ((⟨#[34, 92, 117]⟩ ++ F1 ++ ⟨#[92, 117]⟩ ++ F2 ++ ⟨#[34]⟩ : ByteArray)).data.toList = 34 :: 92 :: 117 :: (Js.fourL (55296 + m / 1024) ++ 92 :: 117 :: (Js.fourL (56320 + m % 1024) ++ [34])) := by
      rw [Jg.cat, Jg.cat, Jg.cat, Jg.cat, hF1, hF2]
      simp
    unfold Hid Js.got Js.gerr
    rw [e, hg]
    exact ⟨rfl, rfl⟩
  clear hg hF1 hF2
  have hsz := Jg.size
  have z1 : (⟨#[34, 92, 117]⟩ : ByteArray).size = 3 := rfl
  have z2 : (⟨#[92, 117]⟩ : ByteArray).size = 2 := rfl
  have z3 : (⟨#[34]⟩ : ByteArray).size = 1 := rfl
  have h10 := Je.and10
  go_enter Tryd.func6, Tryd.ntmps6
  go_wp2_with (go_at_call 7; refine aw.mono ?_; rintro e w1 ⟨rfl, b1⟩; have B1 := Lib.hid b1; clear b1 aw)
  refine (Jc.get_to Je.g1.1 Je.g1.2 _ (hT.on B1.out)).mono ?_
  rintro e w2 ⟨v2, rfl, l2, b2⟩
  have HL2 := Lib.hid (fun u R => Jl.leaf l2 u R)
  obtain ⟨ai, c, ak, d, rfl, _⟩ := l2
  have B2 := Lib.hid (Wk.below_step B1.out b2)
  clear b2 B1
  go_wp2_with fail
  refine (f1 _).mono ?_
  rintro e w3 ⟨rfl, b3⟩
  have B3 := Lib.hid (Wk.below_step (Jl.below B2.out _) b3)
  have X3 : Hid (Vm.Box w3 w2.heap.size _ _ _ _ _ _) := ⟨(b3.block w2.heap.size (by simp)).trans (Vm.new _ _)⟩
  clear b3 B2 f1
  go_wp2_with fail
  refine (f2 _).mono ?_
  rintro e w4 ⟨rfl, b4⟩
  have B4 := Lib.hid (Wk.below_step B3.out b4)
  have X4 : Hid (Vm.Box w4 w2.heap.size _ _ _ _ _ _) := ⟨(b4.block w2.heap.size X3.out.lt).trans X3.out.all⟩
  clear b4 B3 X3 f2
  go_wp2_with fail
  refine (Jc.get_to HG.out.1 HG.out.2 _ (hT.on B4.out)).mono ?_
  rintro e w5 ⟨v5, rfl, l5, b5⟩
  have HL5 := Lib.hid (fun u R => Jl.leaf l5 u R)
  obtain ⟨ai5, c5, ak5, d5, rfl, _⟩ := l5
  have B5 := Lib.hid (Wk.below_step B4.out b5)
  have X5 : Hid (Vm.Box w5 w2.heap.size _ _ _ _ _ _) := ⟨(b5.block w2.heap.size X4.out.lt).trans X4.out.all⟩
  clear b5 B4 X4 HG hsz z1 z2 z3 s1 s2
  obtain ⟨y1, y2, y3, y4, hr, o1, o2, o3, o4⟩ := Je.bytes m hm20
  rw [hr] at HL5
  rw [hr]
  have h6 := Bt.and6
  have t1 : (y1.toNat : Int) % 256 = (y1.toNat : Int) := by have := y1.toNat_lt; omega
  have t2 : (y2.toNat : Int) % 256 = (y2.toNat : Int) := by have := y2.toNat_lt; omega
  have t3 : (y3.toNat : Int) % 256 = (y3.toNat : Int) := by have := y3.toNat_lt; omega
  have t4 : (y4.toNat : Int) % 256 = (y4.toNat : Int) := by have := y4.toNat_lt; omega
  clear hr
  have cv := Je.conv (n := 4) [y1, y2, y3, y4] (Vm.Has.new (w5.alloc (.cells #[.int .i64 4, .int .i64 0, .int .u64 0, .string ⟨#[y1, y2, y3, y4]⟩, .slice ai5 0 c5, .slice ak5 0 d5] 27)) (.cells #[.int .u8 (y1.toNat : Int), .int .u8 (y2.toNat : Int), .int .u8 (y3.toNat : Int), .int .u8 (y4.toNat : Int)] 5) (w5.heap.size + 1) (by simp)) rfl (fun j c hc => by
    match j, hc with
    | 0, hc => injection hc with hc; rw [← hc]; rfl
    | 1, hc => injection hc with hc; rw [← hc]; rfl
    | 2, hc => injection hc with hc; rw [← hc]; rfl
    | 3, hc => injection hc with hc; rw [← hc]; rfl)
  have XA : Hid (Vm.Box ((w5.alloc (.cells #[.int .i64 4, .int .i64 0, .int .u64 0, .string ⟨#[y1, y2, y3, y4]⟩, .slice ai5 0 c5, .slice ak5 0 d5] 27)).alloc (.cells #[.int .u8 (y1.toNat : Int), .int .u8 (y2.toNat : Int), .int .u8 (y3.toNat : Int), .int .u8 (y4.toNat : Int)] 5)) w2.heap.size _ _ _ _ _ _) := (X5.out.alloc X5.out.lt _).alloc (by have := X5.out.lt; simp; omega) _
  have XB : Hid (Vm.Box ((w5.alloc (.cells #[.int .i64 4, .int .i64 0, .int .u64 0, .string ⟨#[y1, y2, y3, y4]⟩, .slice ai5 0 c5, .slice ak5 0 d5] 27)).alloc (.cells #[.int .u8 (y1.toNat : Int), .int .u8 (y2.toNat : Int), .int .u8 (y3.toNat : Int), .int .u8 (y4.toNat : Int)] 5)) w5.heap.size _ _ _ _ _ _) := (Vm.Box.mk (Vm.new _ _)).alloc (by simp) _
  have LB := Lib.hid (Jl.below (Jl.below B5.out (.cells #[.int .i64 4, .int .i64 0, .int .u64 0, .string ⟨#[y1, y2, y3, y4]⟩, .slice ai5 0 c5, .slice ak5 0 d5] 27)) (.cells #[.int .u8 (y1.toNat : Int), .int .u8 (y2.toNat : Int), .int .u8 (y3.toNat : Int), .int .u8 (y4.toNat : Int)] 5))
  go_wp2_with fail
  clear cv o1 o2 o3 o4 t1 t2 t3 t4 h6 h10 X5 B5
  generalize (w5.alloc (.cells #[.int .i64 4, .int .i64 0, .int .u64 0, .string ⟨#[y1, y2, y3, y4]⟩, .slice ai5 0 c5, .slice ak5 0 d5] 27)).alloc (.cells #[.int .u8 (y1.toNat : Int), .int .u8 (y2.toNat : Int), .int .u8 (y3.toNat : Int), .int .u8 (y4.toNat : Int)] 5) = L at *
  generalize w2.heap.size = g2 at *
  generalize w5.heap.size = g5 at *
  have ne := Jq.ne L
  have q0 := fun q => (Jq.cells XA.out q).1
  have q1 := fun q => (Jq.cells XA.out q).2.1
  have q2 := fun q => (Jq.cells XA.out q).2.2.1
  have q3 := fun q => (Jq.cells XA.out q).2.2.2.1
  have q4 := fun q => (Jq.cells XA.out q).2.2.2.2.1
  have q5 := fun q => (Jq.cells XA.out q).2.2.2.2.2
  have r0 := fun q => (Jq.cells XB.out q).1
  have r1 := fun q => (Jq.cells XB.out q).2.1
  have r2 := fun q => (Jq.cells XB.out q).2.2.1
  have r3 := fun q => (Jq.cells XB.out q).2.2.2.1
  have r4 := fun q => (Jq.cells XB.out q).2.2.2.2.1
  have r5 := fun q => (Jq.cells XB.out q).2.2.2.2.2
  have k1 := fun q : Jq.Wd L => Jq.call q (Jk.same HL2.out (fun w R => Vt.leaf_lies 4 0 0 _ (by decide) w R) q.1)
  have k2 := fun q : Jq.Wd L => Jq.call q (Jk.same HL5.out (fun w R => Vt.leaf_lies 4 0 0 _ (by decide) w R) q.1)
  have k3 := fun (q : Jq.Wd L) x => Jq.call q (Jn.text x q.1)
  have k5 := fun (q : Jq.Wd L) x => Jq.errno q x
  clear HL2 HL5
  refine Jq.region (L := L) (by kernel_rfl) ?_
  iterate 9 (go_big_quiet_step (first | (go_at_call 9; exact k5 _ _) | (go_at_call 17; exact k3 _ _) | (go_at_call 13; exact k1 _)))
  clear k1
  repeat (go_big_quiet_step (first | (go_at_call 9; exact k5 _ _) | (go_at_call 17; exact k3 _ _) | (go_at_call 13; exact k2 _)))
  refine wpQuiet_nil ?_
  rintro _ ⟨q, rfl⟩
  go_wp2
  go_ret
  exact ⟨rfl, Wk.below_step LB.out q.2⟩
end Go.Proofs.YtboalkfagfgnpaaDoor

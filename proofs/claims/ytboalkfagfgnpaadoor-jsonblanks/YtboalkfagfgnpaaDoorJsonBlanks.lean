/-
  THE WALK of stolelaw10.JsonBlanks: it returns true.
-/
import Derived.Test.YtboalkfagfgnpaaDoorJBlank
import Derived.Test.YtboalkfagfgnpaaDoorReDec
namespace Go.Proofs.YtboalkfagfgnpaaDoor
open Go.RowKit
theorem Jg.and3 (n : Int) : Go.bits .and .i64 n 3 = n % 4 := by
  have hm : (BitVec.ofInt 64 3).toNat = 2 ^ 2 - 1 := by decide
  have key : (BitVec.ofInt 64 n &&& BitVec.ofInt 64 3).toNat = (n % ((2 ^ 64 : Nat) : Int)).toNat % 2 ^ 2 := by
    rw [BitVec.toNat_and, BitVec.toNat_ofInt, hm, Nat.and_two_pow_sub_one_eq_mod]
  show IntKind.i64.wrap ((BitVec.ofInt 64 n &&& BitVec.ofInt 64 3).toNat : Nat) = n % 4
  rw [key, IntKind.wrap_i64]
  omega
theorem Jg.and16 (n : Int) : Go.bits .and .i64 n 65535 = n % 65536 := by
  have hm : (BitVec.ofInt 64 65535).toNat = 2 ^ 16 - 1 := by decide
  have key : (BitVec.ofInt 64 n &&& BitVec.ofInt 64 65535).toNat = (n % ((2 ^ 64 : Nat) : Int)).toNat % 2 ^ 16 := by
    rw [BitVec.toNat_and, BitVec.toNat_ofInt, hm, Nat.and_two_pow_sub_one_eq_mod]
  show IntKind.i64.wrap ((BitVec.ofInt 64 n &&& BitVec.ofInt 64 65535).toNat : Nat) = n % 65536
  rw [key, IntKind.wrap_i64]
  omega
theorem Jg.four (n : Int) : ∃ k : Nat, k < 4 ∧ Go.bits .and .i64 n 3 = (k : Int) := ⟨(n % 4).toNat, by omega, by rw [Jg.and3]; omega⟩
theorem Jg.blank (k : Nat) (hk : k < 4) : ∃ g : UInt8, Js.blank g = true ∧ ∀ h : k < ([Value.string ⟨#[32]⟩, Value.string ⟨#[9]⟩, Value.string ⟨#[10]⟩, Value.string ⟨#[13]⟩]).length, [Value.string ⟨#[32]⟩, Value.string ⟨#[9]⟩, Value.string ⟨#[10]⟩, Value.string ⟨#[13]⟩][k]'h = .string ⟨#[g]⟩ := by
  have h4 : k = 0 ∨ k = 1 ∨ k = 2 ∨ k = 3 := by omega
  rcases h4 with rfl | rfl | rfl | rfl
  · exact ⟨32, rfl, fun _ => rfl⟩
  · exact ⟨9, rfl, fun _ => rfl⟩
  · exact ⟨10, rfl, fun _ => rfl⟩
  · exact ⟨13, rfl, fun _ => rfl⟩
theorem Jg.more (S : ByteArray) (g : UInt8) : (S ++ ⟨#[g]⟩).size = S.size + 1 := by
  show (S ++ ⟨#[g]⟩ : ByteArray).data.size = _
  rw [ByteArray.data_append, Array.size_append]
  rfl
theorem Jg.grow {S : ByteArray} {g : UInt8} (h : Js.Gap S.data.toList) (hg : Js.blank g = true) : Js.Gap (S ++ ⟨#[g]⟩).data.toList := by
  intro c hc
  rw [ByteArray.data_append, Array.toList_append, List.mem_append] at hc
  rcases hc with q | q
  · exact h c q
  · rw [show c = g from by simpa using q]
    exact hg
theorem Jg.none : Hid (Js.Gap (⟨#[]⟩ : ByteArray).data.toList) := fun c hc => by cases hc
set_option maxRecDepth 100000 in
set_option maxHeartbeats 4000000 in
theorem Jg.gaps (x : Int) (w : World) : Calls Tryd.prog 15 #[.int .i64 x] w fun e w' => ∃ b : ByteArray, e = .returned (.string b) ∧ Js.Gap b.data.toList ∧ b.size ≤ 3 ∧ Below w.heap.size w w' := by
  obtain ⟨m, hm4, hm⟩ := Jg.four x
  go_enter Tryd.func15, Tryd.ntmps15
  go_wp2_with fail
  go_loopw [3, 4] (fun sv ix wr => ∃ (i : Nat) (S : ByteArray), i ≤ 3 ∧ S.size ≤ i ∧ sv = .string S ∧ ix = .int .i64 (i : Int) ∧ Hid (Js.Gap S.data.toList) ∧ Hid (Below w.heap.size w wr)) (fun _ ix _ => 3 - (intOf ix).toNat)
  case atStart => exact ⟨0, ⟨#[]⟩, by omega, Nat.zero_le _, rfl, rfl, Jg.none, Below.refl _ _⟩
  case round =>
    obtain ⟨i, S, hi, hS, rfl, rfl, HS, HB⟩ := hrel
    by_cases hlt : i < m
    · have d1 : decide ((i : Int) < (m : Int)) = true := decide_eq_true (by omega)
      obtain ⟨k, hk4, hk⟩ := Jg.four (x / 2 ^ (2 + 2 * i))
      obtain ⟨g, hg, hgs⟩ := Jg.blank k hk4
      have k1 : ¬ 9223372036854775807 < S.size + 1 := by omega
      have k2 : ¬ 9223372036854775807 ≤ S.size := by omega
      have HG := Lib.hid (Jg.grow HS.out hg)
      clear HS hg
      go_wp2_with fail
      go_roundw
      case rel => exact ⟨i + 1, _, by omega, by rw [Jg.more]; omega, rfl, by go_num, HG, HB.out.alloc HB.out.size _⟩
      case measure => simp [intOf]; omega
    · have d1 : decide ((i : Int) < (m : Int)) = false := decide_eq_false (by omega)
      go_wp2_with fail
      go_ret
      exact ⟨S, rfl, HS.out, by omega, HB.out⟩
theorem Jg.cat (a b : ByteArray) : (a ++ b).data.toList = a.data.toList ++ b.data.toList := by rw [ByteArray.data_append, Array.toList_append]
theorem Jg.size (a b : ByteArray) : (a ++ b).size = a.size + b.size := by
  show (a ++ b).data.size = _
  rw [ByteArray.data_append, Array.size_append]
  rfl
/-- two values of one tree, each in a variable of its own -/
structure Jg.S (t : Vt) (w W : World) (g h : Nat) (v0 v1 v2 v3 v4 v5 u0 u1 u2 u3 u4 u5 : Value) : Prop where
  low : Below w.heap.size w W
  box : Vm.Box W g v0 v1 v2 v3 v4 v5
  boz : Vm.Box W h u0 u1 u2 u3 u4 u5
  lies : t.Lies W (· < W.heap.size) (.agg #[v0, v1, v2, v3, v4, v5])
  lies2 : t.Lies W (· < W.heap.size) (.agg #[u0, u1, u2, u3, u4, u5])
theorem Jg.S.mk2 {t : Vt} {w w4 w5 : World} {v0 v1 v2 v3 v4 v5 u0 u1 u2 u3 u4 u5 : Value} (hl : Below w.heap.size w w4) (h4 : t.Lies w4 (· < w4.heap.size) (.agg #[v0, v1, v2, v3, v4, v5])) (hb : Below (w4.alloc (.cells #[v0, v1, v2, v3, v4, v5] 27)).heap.size (w4.alloc (.cells #[v0, v1, v2, v3, v4, v5] 27)) w5) (h5 : t.Lies w5 (· < w5.heap.size) (.agg #[u0, u1, u2, u3, u4, u5])) :
    Jg.S t w (w5.alloc (.cells #[u0, u1, u2, u3, u4, u5] 27)) w4.heap.size w5.heap.size v0 v1 v2 v3 v4 v5 u0 u1 u2 u3 u4 u5 := by
  have hz : w4.heap.size < w5.heap.size := Nat.lt_of_lt_of_le (by simp) hb.size
  refine ⟨Jl.below (Wk.below_step (Jl.below hl _) hb) _, ⟨(Below.heap_alloc _ _ _ hz).trans ((hb.block _ (by simp)).trans (Vm.new _ _))⟩, ⟨Vm.new _ _⟩, ?_, ?_⟩
  · exact h4.on fun g hg => ⟨by simp; omega, (Below.heap_alloc _ _ _ (by omega)).trans ((hb.block g (by simp; omega)).trans (Below.heap_alloc _ _ _ hg))⟩
  · exact h5.on fun g hg => ⟨by simp; omega, Below.heap_alloc _ _ _ hg⟩
theorem Jg.same (k : Int) (h1 : -9007199254740991 ≤ k) (h2 : k ≤ 9007199254740991) : (Js.tB k).eq (Js.tB k) = true := by
  have hm := Js.get_parts (Js.get_blanks (b := []) (fun c hc => by cases hc) (by decide) h1 h2)
  refine Js.eq_refl 8 _ (Js.ok_of_may hm.2.1 ?_)
  refine ⟨by decide, fun i hi => ?_⟩
  match i, hi with
  | 0, _ =>
    refine ⟨by decide, fun i hi => ?_⟩
    match i, hi with
    | 0, _ => exact ⟨by decide, fun i hi => absurd hi (by omega)⟩
    | 1, _ => exact ⟨by decide, fun i hi => absurd hi (by omega)⟩
  | 1, _ => exact ⟨by decide, fun i hi => absurd hi (Nat.not_lt_zero _)⟩
set_option maxRecDepth 100000 in
set_option maxHeartbeats 4000000 in
theorem Law.jsonBlanks (x y : Int) (w : World) (hT : Jt w) : Calls Tryd.prog 5 #[.int .i64 x, .int .i64 y] w fun e w' => e = .returned (.bool true) ∧ Below w.heap.size w w' := by
  have aw := Ja.awake w hT
  have gp := fun u => Jg.gaps x u
  obtain ⟨k0, hk0, hk⟩ : ∃ k0 : Nat, bits .and .i64 y 65535 = (k0 : Int) ∧ k0 ≤ 65535 := by
    have h1 := Jg.and16 y
    exact ⟨(y % 65536).toNat, by omega, by omega⟩
  have dc := fun u => Dm.decimal k0 (by omega) u
  obtain ⟨D, hD⟩ : ∃ D : ByteArray, D = ⟨(Lib.decDigits k0).toArray⟩ := ⟨_, rfl⟩
  have hDl : D.data.toList = Lib.itoa (k0 : Int) := by
    rw [hD]
    unfold Lib.itoa
    rw [if_neg (by omega), Int.toNat_natCast]
  rw [← hD] at dc
  have hDs : D.size ≤ 20 := by
    have := Rt.dec_le k0 (by omega)
    rw [hD, Js.size_arr]
    exact this
  clear hD
  go_enter Tryd.func5, Tryd.ntmps5
  go_wp2_with (go_at_call 7; refine aw.mono ?_; rintro e w1 ⟨rfl, b1⟩; have B1 := Lib.hid b1; clear b1 aw)
  refine (gp _).mono ?_
  rintro e w2 ⟨B, rfl, hG, hB3, b2⟩
  have HG := Lib.hid hG
  have B2 := Lib.hid (Wk.below_step B1.out b2)
  have HDL := Lib.hid hDl
  have hsz := Jg.size
  have sz1 : ∀ c : UInt8, (⟨#[c]⟩ : ByteArray).size = 1 := fun _ => rfl
  have sz2 : ∀ a b c : UInt8, (⟨#[a, b, c]⟩ : ByteArray).size = 3 := fun _ _ _ => rfl
  have sz3 : ∀ a b c d : UInt8, (⟨#[a, b, c, d]⟩ : ByteArray).size = 4 := fun _ _ _ _ => rfl
  clear hG b2 B1 gp hDl
  go_wp2_with (go_at_call 10; refine (dc _).mono ?_; rintro e w3 ⟨rfl, b3⟩; have B3 := Lib.hid (Wk.below_step B2.out b3); clear b3 dc B2)
  have hg1 := Js.get_blanks HG.out (by rw [Array.length_toList]; exact Nat.le_trans hB3 (by decide)) (k := (k0 : Int)) (by omega) (by omega)
  have hg2 := Js.get_blanks (b := []) (fun c hc => by cases hc) (by decide) (k := (k0 : Int)) (by omega) (by omega)
  rw [← HDL.out] at hg1 hg2
  have HG1 := Lib.hid hg1
  have HG2 := Lib.hid hg2
  have HSM := Lib.hid (Jg.same (k0 : Int) (by omega) (by omega))
  clear hg1 hg2
  refine (Jc.get_to (t := Js.tB (k0 : Int)) (x := 0) ?h1 ?h2 _ (hT.on B3.out)).mono ?_
  case h1 =>
    unfold Js.got
    rw [show Js.get _ = some (Js.tB (k0 : Int)) from by simpa [Jg.cat, Js.lB] using HG1.out]
    rfl
  case h2 =>
    unfold Js.gerr
    rw [show Js.get _ = some (Js.tB (k0 : Int)) from by simpa [Jg.cat, Js.lB] using HG1.out]
    rfl
  rintro e w4 ⟨v4, rfl, l4, b4⟩
  obtain ⟨k4, x4, d4, s4, ai4, n4, c4, ak4, m4, e4, rfl⟩ := l4.form
  have L4 := Lib.hid (l4.on (R' := (· < w4.heap.size)) fun g hg => ⟨hg.2, rfl⟩)
  have B4 := Lib.hid (Wk.below_step B3.out b4)
  clear b4 B3 l4
  go_wp2_with fail
  refine (Jc.get_to (t := Js.tB (k0 : Int)) (x := 0) ?h1 ?h2 _ (hT.on (Jl.below B4.out _))).mono ?_
  case h1 =>
    unfold Js.got
    rw [show Js.get _ = some (Js.tB (k0 : Int)) from by simpa [Jg.cat, Js.lB] using HG2.out]
    rfl
  case h2 =>
    unfold Js.gerr
    rw [show Js.get _ = some (Js.tB (k0 : Int)) from by simpa [Jg.cat, Js.lB] using HG2.out]
    rfl
  rintro e w5 ⟨v5, rfl, l5, b5⟩
  obtain ⟨k5, x5, d5, s5, ai5, n5, c5, ak5, m5, e5, rfl⟩ := l5.form
  have S5 := Lib.hid (Jg.S.mk2 B4.out L4.out b5 (l5.on (R' := (· < w5.heap.size)) fun g hg => ⟨hg.2, rfl⟩))
  have hk4 : k4 = 6 := by
    obtain ⟨_, _, _, _, e, _⟩ := L4.out
    injection e with e
    injection e with e
    injection e with e0 _
    injection e0
  subst hk4
  clear l5 b5 B4 L4 HG1 HG2 hsz sz1 sz2 sz3
  go_wp2_with fail
  generalize w5.alloc (.cells #[.int .i64 k5, .int .i64 x5, .int .u64 (d5 : Int), .string s5, .slice ai5 n5 c5, .slice ak5 m5 e5] 27) = W at *
  generalize w4.heap.size = g4 at *
  generalize w5.heap.size = g5 at *
  obtain ⟨q0, q1, q2, q3, q4, q5⟩ := S5.out.box.cells
  obtain ⟨r0, r1, r2, r3, r4, r5⟩ := S5.out.boz.cells
  have sm := Vs.same _ _ _ _ W S5.out.lies S5.out.lies2
  rw [HSM.out] at sm
  have er := fun x u => Vn.errno x u
  have q6 := fun (W' : World) (hb : Below W.heap.size W W') => (hb.cell (p := ⟨g4, 0, none⟩) S5.out.box.lt).trans q0
  refine (er _ _).mono ?_
  rintro e w' ⟨rfl, hw⟩
  have hw := hw.symm
  subst hw
  go_wp2_with (first | (go_at_call 9; refine (er _ _).mono ?_; rintro e w' ⟨rfl, hw⟩; have hw := hw.symm; subst hw) | (go_at_call 13; refine sm.mono ?_; rintro e we ⟨rfl, be⟩; have q7 := q6 we be; have BE := Lib.hid be; clear be))
  go_ret
  exact ⟨rfl, Wk.below_step S5.out.low BE.out⟩
end Go.Proofs.YtboalkfagfgnpaaDoor

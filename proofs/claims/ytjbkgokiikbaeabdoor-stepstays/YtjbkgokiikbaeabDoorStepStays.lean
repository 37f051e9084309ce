/-
  THE WALK of stolelaw5.StepStays: whatever the numbers and the text, the call returns true.
-/
import Derived.Test.YtjbkgokiikbaeabDoorTAwake
import Derived.Test.YtjbkgokiikbaeabDoorTQuiet
import Derived.Deep.RegionHeld
namespace Go.Proofs.YtjbkgokiikbaeabDoor
open Go.RowKit
theorem Bt.and8 (n : Int) : Go.bits .and .i64 n 255 = n % 256 := by
  have hm : (BitVec.ofInt 64 255).toNat = 2 ^ 8 - 1 := by decide
  have key : (BitVec.ofInt 64 n &&& BitVec.ofInt 64 255).toNat = (n % ((2 ^ 64 : Nat) : Int)).toNat % 2 ^ 8 := by
    rw [BitVec.toNat_and, BitVec.toNat_ofInt, hm, Nat.and_two_pow_sub_one_eq_mod]
  show IntKind.i64.wrap ((BitVec.ofInt 64 n &&& BitVec.ofInt 64 255).toNat : Nat) = n % 256
  rw [key, IntKind.wrap_i64]
  omega
theorem Ss.byte (n : Int) : ∃ b : UInt8, Go.bits .and .i64 n 255 = (b.toNat : Int) ∧ IntKind.u8.wrap (b.toNat : Int) = (b.toNat : Int) := by
  refine ⟨UInt8.ofNat (n % 256).toNat, ?_, ?_⟩
  · rw [Bt.and8]
    have : (UInt8.ofNat (n % 256).toNat).toNat = (n % 256).toNat := by simp; omega
    rw [this]; omega
  · have := (UInt8.ofNat (n % 256).toNat).toNat_lt
    generalize (UInt8.ofNat (n % 256).toNat).toNat = k at *
    show IntKind.u8.wrap (k : Int) = _
    unfold IntKind.wrap
    simp [IntKind.bits, IntKind.signed]
    omega
theorem Ss.which (n : Int) : ∃ u i : Nat, IntKind.u64.wrap n = (u : Int) ∧ u < 18446744073709551616 ∧ (u : Int) % 6 = (i : Int) ∧ i < 6 := by
  have h : 0 ≤ IntKind.u64.wrap n ∧ IntKind.u64.wrap n < 18446744073709551616 := by
    unfold IntKind.wrap
    simp [IntKind.bits, IntKind.signed]
    omega
  exact ⟨(IntKind.u64.wrap n).toNat, ((IntKind.u64.wrap n) % 6).toNat, by omega, by omega, by omega, by omega⟩
theorem Ss.stay0 (_K : ByteArray) (b : UInt8) (h : ¬ b = 60) : (⟨0, ⟨#[]⟩, false, ⟨#[]⟩, ⟨#[]⟩, 0⟩ : Ts).step b = (⟨0, ⟨#[]⟩, false, ⟨#[]⟩, ⟨#[]⟩, 0⟩ : Ts) := by
  rw [Ts.step_at _ b 0 rfl (by decide)]
  show Ts.data ((⟨0, ⟨#[]⟩, false, ⟨#[]⟩, ⟨#[]⟩, 0⟩ : Ts).to 0) b = _
  unfold Ts.data
  rw [if_neg h]
  rfl
theorem Ss.turn0 (_K : ByteArray) (b : UInt8) (h : b = 60) : (⟨0, ⟨#[]⟩, false, ⟨#[]⟩, ⟨#[]⟩, 0⟩ : Ts).step b = (⟨1, ⟨#[]⟩, false, ⟨#[]⟩, ⟨#[]⟩, 0⟩ : Ts) := by
  rw [Ts.step_at _ b 0 rfl (by decide)]
  show Ts.data ((⟨0, ⟨#[]⟩, false, ⟨#[]⟩, ⟨#[]⟩, 0⟩ : Ts).to 0) b = _
  unfold Ts.data
  rw [if_pos h]
  rfl
theorem Ss.stay1 (K : ByteArray) (b : UInt8) (h : ¬ b = 34) : (⟨8, ⟨#[97]⟩, false, K, ⟨#[]⟩, 0⟩ : Ts).step b = (⟨8, ⟨#[97]⟩, false, K, ⟨#[]⟩, 0⟩ : Ts) := by
  rw [Ts.step_at _ b 8 rfl (by decide)]
  show Ts.quoted 34 ((⟨8, ⟨#[97]⟩, false, K, ⟨#[]⟩, 0⟩ : Ts).to 8) b = _
  unfold Ts.quoted
  rw [if_neg h]
  rfl
theorem Ss.turn1 (K : ByteArray) (b : UInt8) (h : b = 34) : (⟨8, ⟨#[97]⟩, false, K, ⟨#[]⟩, 0⟩ : Ts).step b = (⟨11, ⟨#[97]⟩, false, ⟨#[]⟩, ⟨#[]⟩, 0⟩ : Ts) := by
  rw [Ts.step_at _ b 8 rfl (by decide)]
  show Ts.quoted 34 ((⟨8, ⟨#[97]⟩, false, K, ⟨#[]⟩, 0⟩ : Ts).to 8) b = _
  unfold Ts.quoted
  rw [if_pos h]
  rfl
theorem Ss.stay2 (K : ByteArray) (b : UInt8) (h : ¬ b = 39) : (⟨9, K, true, ⟨#[]⟩, ⟨#[]⟩, 0⟩ : Ts).step b = (⟨9, K, true, ⟨#[]⟩, ⟨#[]⟩, 0⟩ : Ts) := by
  rw [Ts.step_at _ b 9 rfl (by decide)]
  show Ts.quoted 39 ((⟨9, K, true, ⟨#[]⟩, ⟨#[]⟩, 0⟩ : Ts).to 9) b = _
  unfold Ts.quoted
  rw [if_neg h]
  rfl
theorem Ss.turn2 (K : ByteArray) (b : UInt8) (h : b = 39) : (⟨9, K, true, ⟨#[]⟩, ⟨#[]⟩, 0⟩ : Ts).step b = (⟨11, K, true, ⟨#[]⟩, ⟨#[]⟩, 0⟩ : Ts) := by
  rw [Ts.step_at _ b 9 rfl (by decide)]
  show Ts.quoted 39 ((⟨9, K, true, ⟨#[]⟩, ⟨#[]⟩, 0⟩ : Ts).to 9) b = _
  unfold Ts.quoted
  rw [if_pos h]
  rfl
theorem Ss.stay3 (_K : ByteArray) (b : UInt8) (h : ¬ b = 45) : (⟨15, ⟨#[]⟩, false, ⟨#[]⟩, ⟨#[]⟩, 0⟩ : Ts).step b = (⟨15, ⟨#[]⟩, false, ⟨#[]⟩, ⟨#[]⟩, 0⟩ : Ts) := by
  rw [Ts.step_at _ b 15 rfl (by decide)]
  show Ts.comment ((⟨15, ⟨#[]⟩, false, ⟨#[]⟩, ⟨#[]⟩, 0⟩ : Ts).to 15) b = _
  unfold Ts.comment
  rw [if_neg h]
  rfl
theorem Ss.turn3 (_K : ByteArray) (b : UInt8) (h : b = 45) : (⟨15, ⟨#[]⟩, false, ⟨#[]⟩, ⟨#[]⟩, 0⟩ : Ts).step b = (⟨16, ⟨#[]⟩, false, ⟨#[]⟩, ⟨#[]⟩, 0⟩ : Ts) := by
  rw [Ts.step_at _ b 15 rfl (by decide)]
  show Ts.comment ((⟨15, ⟨#[]⟩, false, ⟨#[]⟩, ⟨#[]⟩, 0⟩ : Ts).to 15) b = _
  unfold Ts.comment
  rw [if_pos h]
  rfl
theorem Ss.stay4 (_K : ByteArray) (b : UInt8) (h : ¬ b = 62) : (⟨18, ⟨#[]⟩, false, ⟨#[]⟩, ⟨#[]⟩, 0⟩ : Ts).step b = (⟨18, ⟨#[]⟩, false, ⟨#[]⟩, ⟨#[]⟩, 0⟩ : Ts) := by
  rw [Ts.step_at _ b 18 rfl (by decide)]
  show Ts.bogus ((⟨18, ⟨#[]⟩, false, ⟨#[]⟩, ⟨#[]⟩, 0⟩ : Ts).to 18) b = _
  unfold Ts.bogus
  rw [if_neg h]
  rfl
theorem Ss.turn4 (_K : ByteArray) (b : UInt8) (h : b = 62) : (⟨18, ⟨#[]⟩, false, ⟨#[]⟩, ⟨#[]⟩, 0⟩ : Ts).step b = (⟨0, ⟨#[]⟩, false, ⟨#[]⟩, ⟨#[]⟩, 0⟩ : Ts) := by
  rw [Ts.step_at _ b 18 rfl (by decide)]
  show Ts.bogus ((⟨18, ⟨#[]⟩, false, ⟨#[]⟩, ⟨#[]⟩, 0⟩ : Ts).to 18) b = _
  unfold Ts.bogus
  rw [if_pos h]
  rfl
theorem Ss.stay5 (_K : ByteArray) (b : UInt8) (h : ¬ b = 60) : (⟨19, ⟨#[]⟩, false, ⟨#[]⟩, ⟨#[116, 105, 116, 108, 101]⟩, 0⟩ : Ts).step b = (⟨19, ⟨#[]⟩, false, ⟨#[]⟩, ⟨#[116, 105, 116, 108, 101]⟩, 0⟩ : Ts) := by
  rw [Ts.step_at _ b 19 rfl (by decide)]
  show Ts.heldS ((⟨19, ⟨#[]⟩, false, ⟨#[]⟩, ⟨#[116, 105, 116, 108, 101]⟩, 0⟩ : Ts).to 19) b = _
  unfold Ts.heldS
  rw [if_neg h]
  rfl
theorem Ss.turn5 (_K : ByteArray) (b : UInt8) (h : b = 60) : (⟨19, ⟨#[]⟩, false, ⟨#[]⟩, ⟨#[116, 105, 116, 108, 101]⟩, 0⟩ : Ts).step b = (⟨20, ⟨#[]⟩, false, ⟨#[]⟩, ⟨#[116, 105, 116, 108, 101]⟩, 0⟩ : Ts) := by
  rw [Ts.step_at _ b 19 rfl (by decide)]
  show Ts.heldS ((⟨19, ⟨#[]⟩, false, ⟨#[]⟩, ⟨#[116, 105, 116, 108, 101]⟩, 0⟩ : Ts).to 19) b = _
  unfold Ts.heldS
  rw [if_pos h]
  rfl
set_option maxRecDepth 100000 in
set_option maxHeartbeats 8000000 in
theorem Law.stepStays (n c : Int) (s : ByteArray) (m : Int) (w : World) (hm : w.cell? ⟨0, 0, none⟩ = some (.int .i64 m)) (_hn : -9223372036854775808 ≤ n ∧ n ≤ 9223372036854775807) (_hc : -9223372036854775808 ≤ c ∧ c ≤ 9223372036854775807) (_hs : s.size ≤ reachBytes) :
    Calls Tryd.prog 4 #[.int .i64 n, .int .i64 c, .string s] w fun e w' => e = .returned (.bool true) ∧ Below w.heap.size w w' := by
  obtain ⟨b, hb1, hb2⟩ := Ss.byte c
  obtain ⟨u, i, hu, hu2, hui, hi⟩ := Ss.which n
  have haw := Aw.awake m w hm
  have hqt := fun x => Qt.walk s 0 x
  clear hm _hs
  have hcut := fun (K : ByteArray) (h : 9 < K.size) (u : World) => Tp.run_to u K 9 (by decide) (by omega)
  go_enter Tryd.func4, Tryd.ntmps4
  go_wp2_with (first | (go_at_call 7; refine haw.mono ?_; rintro e w1 ⟨rfl, q1⟩; clear haw) | (go_at_call 8; refine (hqt _).mono ?_; rintro e w' ⟨K0, rfl, hK, rfl⟩; clear hqt))
  all_goals
    have hKs : K0.size ≤ 300 := by
      rw [← Wk.len_data, hK]
      exact Nat.le_trans (List.length_filter_le _ _) (by rw [List.length_take]; omega)
  all_goals clear hK hcut hui hu hu2 hb1 hb2 _hn _hc
  all_goals first | (obtain ⟨K, hKK⟩ : ∃ K, K0.extract 0 9 = K := ⟨_, rfl⟩; have hKf : K.size ≤ 300 := (by rw [← hKK, ByteArray.size_extract]; omega); rw [hKK]; clear hKK) | (obtain ⟨K, hKK⟩ : ∃ K, K = K0 := ⟨_, rfl⟩; have hKf : K.size ≤ 300 := (by rw [hKK]; exact hKs); subst hKK)
  all_goals (try clear hKs)
  all_goals
    obtain ⟨V, hV⟩ : ∃ V, (w'.alloc (.cells #[.int .i64 0, .string ⟨#[]⟩, .bool false, .string ⟨#[]⟩, .string ⟨#[]⟩, .int .i64 0, .int .i64 8, .string ⟨#[97]⟩, .bool false, .string K, .string ⟨#[]⟩, .int .i64 0, .int .i64 9, .string K, .bool true, .string ⟨#[]⟩, .string ⟨#[]⟩, .int .i64 0, .int .i64 15, .string ⟨#[]⟩, .bool false, .string ⟨#[]⟩, .string ⟨#[]⟩, .int .i64 0, .int .i64 18, .string ⟨#[]⟩, .bool false, .string ⟨#[]⟩, .string ⟨#[]⟩, .int .i64 0, .int .i64 19, .string ⟨#[]⟩, .bool false, .string ⟨#[]⟩, .string ⟨#[116, 105, 116, 108, 101]⟩, .int .i64 0] 37)).alloc (.cells #[.int .u8 60, .int .u8 34, .int .u8 39, .int .u8 45, .int .u8 62, .int .u8 60] 5) = V := ⟨_, rfl⟩
    rw [hV]
    have HB : Hid (Below w.heap.size w V) := Lib.hid (by rw [← hV]; exact (q1.alloc q1.size _).alloc (Nat.le_trans q1.size (by simp)) _)
    have hf : ∀ b : Nat, b ≤ 300 → b ≤ maxLen := fun b h => Nat.le_trans h (by decide)
    have hi' : i = 0 ∨ i = 1 ∨ i = 2 ∨ i = 3 ∨ i = 4 ∨ i = 5 := by omega
    clear hi q1
    rcases hi' with rfl | rfl | rfl | rfl | rfl | rfl
    · rw [show ((0 : Nat) : Int) = 0 from rfl]
      have c0 : V.cell? ⟨w'.heap.size, 0, none⟩ = some (.int .i64 0) := by rw [← hV]; simp
      have c1 : V.cell? ⟨w'.heap.size, 1, none⟩ = some (.string ⟨#[]⟩) := by rw [← hV]; simp
      have c2 : V.cell? ⟨w'.heap.size, 2, none⟩ = some (.bool false) := by rw [← hV]; simp
      have c3 : V.cell? ⟨w'.heap.size, 3, none⟩ = some (.string ⟨#[]⟩) := by rw [← hV]; simp
      have c4 : V.cell? ⟨w'.heap.size, 4, none⟩ = some (.string ⟨#[]⟩) := by rw [← hV]; simp
      have c5 : V.cell? ⟨w'.heap.size, 5, none⟩ = some (.int .i64 0) := by rw [← hV]; simp
      have co : V.cell? ⟨w'.heap.size + 1, 0, none⟩ = some (.int .u8 60) := by rw [← hV]; simp
      clear hV
      have hfit : Ts.Fits (⟨0, ⟨#[]⟩, false, ⟨#[]⟩, ⟨#[]⟩, 0⟩ : Ts) := ⟨hf _ (by first | exact hKf | (show (0 : Nat) ≤ 300; decide) | (show (1 : Nat) ≤ 300; decide) | (show (5 : Nat) ≤ 300; decide)), hf _ (by first | exact hKf | (show (0 : Nat) ≤ 300; decide) | (show (1 : Nat) ≤ 300; decide) | (show (5 : Nat) ≤ 300; decide)), hf _ (by first | exact hKf | (show (0 : Nat) ≤ 300; decide) | (show (1 : Nat) ≤ 300; decide) | (show (5 : Nat) ≤ 300; decide))⟩
      by_cases hbo : b = 60
      · have hst := fun u => Tp.Step (⟨0, ⟨#[]⟩, false, ⟨#[]⟩, ⟨#[]⟩, 0⟩ : Ts) b u hfit
        rw [Ss.turn0 K b hbo] at hst
        subst hbo
        clear hfit hf hKf
        go_region_held (fun u => u.cell? ⟨w'.heap.size, 0, none⟩ = some (.int .i64 0) ∧ u.cell? ⟨w'.heap.size, 1, none⟩ = some (.string ⟨#[]⟩) ∧ u.cell? ⟨w'.heap.size, 2, none⟩ = some (.bool false) ∧ u.cell? ⟨w'.heap.size, 3, none⟩ = some (.string ⟨#[]⟩) ∧ u.cell? ⟨w'.heap.size, 4, none⟩ = some (.string ⟨#[]⟩) ∧ u.cell? ⟨w'.heap.size, 5, none⟩ = some (.int .i64 0) ∧ u.cell? ⟨w'.heap.size + 1, 0, none⟩ = some (.int .u8 60)) (go_keep) (first | (go_at_call 12; refine (hst _).mono ?_; rintro e w1 ⟨rfl, hb1⟩; have d0 := Tp.keep hb1 (b := w'.heap.size) (o := 0) (v := .int .i64 0) (by first | exact c0 | simpa using c0); have d1 := Tp.keep hb1 (b := w'.heap.size) (o := 1) (v := .string ⟨#[]⟩) (by first | exact c1 | simpa using c1); have d2 := Tp.keep hb1 (b := w'.heap.size) (o := 2) (v := .bool false) (by first | exact c2 | simpa using c2); have d3 := Tp.keep hb1 (b := w'.heap.size) (o := 3) (v := .string ⟨#[]⟩) (by first | exact c3 | simpa using c3); have d4 := Tp.keep hb1 (b := w'.heap.size) (o := 4) (v := .string ⟨#[]⟩) (by first | exact c4 | simpa using c4); have d5 := Tp.keep hb1 (b := w'.heap.size) (o := 5) (v := .int .i64 0) (by first | exact c5 | simpa using c5); have dd := Tp.keep hb1 (b := w'.heap.size + 1) (o := 0) (v := .int .u8 60) (by first | exact co | simpa using co); have HB1 := Lib.hid hb1; clear hb1))
        all_goals go_wp2
        all_goals go_ret
        all_goals exact ⟨by first | rfl | simp [*], (HB.out.trans ((Below.refl _ _).drew.trans HB1.out |>.mono HB.out.size))⟩
      · have hst := fun u => Tp.Step (⟨0, ⟨#[]⟩, false, ⟨#[]⟩, ⟨#[]⟩, 0⟩ : Ts) b u hfit
        rw [Ss.stay0 K b hbo] at hst
        have hne : ¬ (b.toNat : Int) = 60 := fun h => hbo (UInt8.toNat_inj.1 (by have h2 : (60 : UInt8).toNat = 60 := rfl; omega))
        clear hbo
        clear hfit hf hKf
        go_region_held (fun u => u.cell? ⟨w'.heap.size, 0, none⟩ = some (.int .i64 0) ∧ u.cell? ⟨w'.heap.size, 1, none⟩ = some (.string ⟨#[]⟩) ∧ u.cell? ⟨w'.heap.size, 2, none⟩ = some (.bool false) ∧ u.cell? ⟨w'.heap.size, 3, none⟩ = some (.string ⟨#[]⟩) ∧ u.cell? ⟨w'.heap.size, 4, none⟩ = some (.string ⟨#[]⟩) ∧ u.cell? ⟨w'.heap.size, 5, none⟩ = some (.int .i64 0) ∧ u.cell? ⟨w'.heap.size + 1, 0, none⟩ = some (.int .u8 60)) (go_keep) (first | (go_at_call 12; refine (hst _).mono ?_; rintro e w1 ⟨rfl, hb1⟩; have d0 := Tp.keep hb1 (b := w'.heap.size) (o := 0) (v := .int .i64 0) (by first | exact c0 | simpa using c0); have d1 := Tp.keep hb1 (b := w'.heap.size) (o := 1) (v := .string ⟨#[]⟩) (by first | exact c1 | simpa using c1); have d2 := Tp.keep hb1 (b := w'.heap.size) (o := 2) (v := .bool false) (by first | exact c2 | simpa using c2); have d3 := Tp.keep hb1 (b := w'.heap.size) (o := 3) (v := .string ⟨#[]⟩) (by first | exact c3 | simpa using c3); have d4 := Tp.keep hb1 (b := w'.heap.size) (o := 4) (v := .string ⟨#[]⟩) (by first | exact c4 | simpa using c4); have d5 := Tp.keep hb1 (b := w'.heap.size) (o := 5) (v := .int .i64 0) (by first | exact c5 | simpa using c5); have dd := Tp.keep hb1 (b := w'.heap.size + 1) (o := 0) (v := .int .u8 60) (by first | exact co | simpa using co); have HB1 := Lib.hid hb1; clear hb1))
        all_goals go_wp2
        all_goals go_ret
        all_goals exact ⟨by first | rfl | simp [*], (HB.out.trans ((Below.refl _ _).drew.trans HB1.out |>.mono HB.out.size))⟩
    · rw [show ((1 : Nat) : Int) = 1 from rfl]
      have c0 : V.cell? ⟨w'.heap.size, 6, none⟩ = some (.int .i64 8) := by rw [← hV]; simp
      have c1 : V.cell? ⟨w'.heap.size, 7, none⟩ = some (.string ⟨#[97]⟩) := by rw [← hV]; simp
      have c2 : V.cell? ⟨w'.heap.size, 8, none⟩ = some (.bool false) := by rw [← hV]; simp
      have c3 : V.cell? ⟨w'.heap.size, 9, none⟩ = some (.string K) := by rw [← hV]; simp
      have c4 : V.cell? ⟨w'.heap.size, 10, none⟩ = some (.string ⟨#[]⟩) := by rw [← hV]; simp
      have c5 : V.cell? ⟨w'.heap.size, 11, none⟩ = some (.int .i64 0) := by rw [← hV]; simp
      have co : V.cell? ⟨w'.heap.size + 1, 1, none⟩ = some (.int .u8 34) := by rw [← hV]; simp
      clear hV
      have hfit : Ts.Fits (⟨8, ⟨#[97]⟩, false, K, ⟨#[]⟩, 0⟩ : Ts) := ⟨hf _ (by first | exact hKf | (show (0 : Nat) ≤ 300; decide) | (show (1 : Nat) ≤ 300; decide) | (show (5 : Nat) ≤ 300; decide)), hf _ (by first | exact hKf | (show (0 : Nat) ≤ 300; decide) | (show (1 : Nat) ≤ 300; decide) | (show (5 : Nat) ≤ 300; decide)), hf _ (by first | exact hKf | (show (0 : Nat) ≤ 300; decide) | (show (1 : Nat) ≤ 300; decide) | (show (5 : Nat) ≤ 300; decide))⟩
      by_cases hbo : b = 34
      · have hst := fun u => Tp.Step (⟨8, ⟨#[97]⟩, false, K, ⟨#[]⟩, 0⟩ : Ts) b u hfit
        rw [Ss.turn1 K b hbo] at hst
        subst hbo
        clear hfit hf hKf
        go_region_held (fun u => u.cell? ⟨w'.heap.size, 6, none⟩ = some (.int .i64 8) ∧ u.cell? ⟨w'.heap.size, 7, none⟩ = some (.string ⟨#[97]⟩) ∧ u.cell? ⟨w'.heap.size, 8, none⟩ = some (.bool false) ∧ u.cell? ⟨w'.heap.size, 9, none⟩ = some (.string K) ∧ u.cell? ⟨w'.heap.size, 10, none⟩ = some (.string ⟨#[]⟩) ∧ u.cell? ⟨w'.heap.size, 11, none⟩ = some (.int .i64 0) ∧ u.cell? ⟨w'.heap.size + 1, 1, none⟩ = some (.int .u8 34)) (go_keep) (first | (go_at_call 12; refine (hst _).mono ?_; rintro e w1 ⟨rfl, hb1⟩; have d0 := Tp.keep hb1 (b := w'.heap.size) (o := 6) (v := .int .i64 8) (by first | exact c0 | simpa using c0); have d1 := Tp.keep hb1 (b := w'.heap.size) (o := 7) (v := .string ⟨#[97]⟩) (by first | exact c1 | simpa using c1); have d2 := Tp.keep hb1 (b := w'.heap.size) (o := 8) (v := .bool false) (by first | exact c2 | simpa using c2); have d3 := Tp.keep hb1 (b := w'.heap.size) (o := 9) (v := .string K) (by first | exact c3 | simpa using c3); have d4 := Tp.keep hb1 (b := w'.heap.size) (o := 10) (v := .string ⟨#[]⟩) (by first | exact c4 | simpa using c4); have d5 := Tp.keep hb1 (b := w'.heap.size) (o := 11) (v := .int .i64 0) (by first | exact c5 | simpa using c5); have dd := Tp.keep hb1 (b := w'.heap.size + 1) (o := 1) (v := .int .u8 34) (by first | exact co | simpa using co); have HB1 := Lib.hid hb1; clear hb1))
        all_goals go_wp2
        all_goals go_ret
        all_goals exact ⟨by first | rfl | simp [*], (HB.out.trans ((Below.refl _ _).drew.trans HB1.out |>.mono HB.out.size))⟩
      · have hst := fun u => Tp.Step (⟨8, ⟨#[97]⟩, false, K, ⟨#[]⟩, 0⟩ : Ts) b u hfit
        rw [Ss.stay1 K b hbo] at hst
        have hne : ¬ (b.toNat : Int) = 34 := fun h => hbo (UInt8.toNat_inj.1 (by have h2 : (34 : UInt8).toNat = 34 := rfl; omega))
        clear hbo
        clear hfit hf hKf
        go_region_held (fun u => u.cell? ⟨w'.heap.size, 6, none⟩ = some (.int .i64 8) ∧ u.cell? ⟨w'.heap.size, 7, none⟩ = some (.string ⟨#[97]⟩) ∧ u.cell? ⟨w'.heap.size, 8, none⟩ = some (.bool false) ∧ u.cell? ⟨w'.heap.size, 9, none⟩ = some (.string K) ∧ u.cell? ⟨w'.heap.size, 10, none⟩ = some (.string ⟨#[]⟩) ∧ u.cell? ⟨w'.heap.size, 11, none⟩ = some (.int .i64 0) ∧ u.cell? ⟨w'.heap.size + 1, 1, none⟩ = some (.int .u8 34)) (go_keep) (first | (go_at_call 12; refine (hst _).mono ?_; rintro e w1 ⟨rfl, hb1⟩; have d0 := Tp.keep hb1 (b := w'.heap.size) (o := 6) (v := .int .i64 8) (by first | exact c0 | simpa using c0); have d1 := Tp.keep hb1 (b := w'.heap.size) (o := 7) (v := .string ⟨#[97]⟩) (by first | exact c1 | simpa using c1); have d2 := Tp.keep hb1 (b := w'.heap.size) (o := 8) (v := .bool false) (by first | exact c2 | simpa using c2); have d3 := Tp.keep hb1 (b := w'.heap.size) (o := 9) (v := .string K) (by first | exact c3 | simpa using c3); have d4 := Tp.keep hb1 (b := w'.heap.size) (o := 10) (v := .string ⟨#[]⟩) (by first | exact c4 | simpa using c4); have d5 := Tp.keep hb1 (b := w'.heap.size) (o := 11) (v := .int .i64 0) (by first | exact c5 | simpa using c5); have dd := Tp.keep hb1 (b := w'.heap.size + 1) (o := 1) (v := .int .u8 34) (by first | exact co | simpa using co); have HB1 := Lib.hid hb1; clear hb1))
        all_goals go_wp2
        all_goals go_ret
        all_goals exact ⟨by first | rfl | simp [*], (HB.out.trans ((Below.refl _ _).drew.trans HB1.out |>.mono HB.out.size))⟩
    · rw [show ((2 : Nat) : Int) = 2 from rfl]
      have c0 : V.cell? ⟨w'.heap.size, 12, none⟩ = some (.int .i64 9) := by rw [← hV]; simp
      have c1 : V.cell? ⟨w'.heap.size, 13, none⟩ = some (.string K) := by rw [← hV]; simp
      have c2 : V.cell? ⟨w'.heap.size, 14, none⟩ = some (.bool true) := by rw [← hV]; simp
      have c3 : V.cell? ⟨w'.heap.size, 15, none⟩ = some (.string ⟨#[]⟩) := by rw [← hV]; simp
      have c4 : V.cell? ⟨w'.heap.size, 16, none⟩ = some (.string ⟨#[]⟩) := by rw [← hV]; simp
      have c5 : V.cell? ⟨w'.heap.size, 17, none⟩ = some (.int .i64 0) := by rw [← hV]; simp
      have co : V.cell? ⟨w'.heap.size + 1, 2, none⟩ = some (.int .u8 39) := by rw [← hV]; simp
      clear hV
      have hfit : Ts.Fits (⟨9, K, true, ⟨#[]⟩, ⟨#[]⟩, 0⟩ : Ts) := ⟨hf _ (by first | exact hKf | (show (0 : Nat) ≤ 300; decide) | (show (1 : Nat) ≤ 300; decide) | (show (5 : Nat) ≤ 300; decide)), hf _ (by first | exact hKf | (show (0 : Nat) ≤ 300; decide) | (show (1 : Nat) ≤ 300; decide) | (show (5 : Nat) ≤ 300; decide)), hf _ (by first | exact hKf | (show (0 : Nat) ≤ 300; decide) | (show (1 : Nat) ≤ 300; decide) | (show (5 : Nat) ≤ 300; decide))⟩
      by_cases hbo : b = 39
      · have hst := fun u => Tp.Step (⟨9, K, true, ⟨#[]⟩, ⟨#[]⟩, 0⟩ : Ts) b u hfit
        rw [Ss.turn2 K b hbo] at hst
        subst hbo
        clear hfit hf hKf
        go_region_held (fun u => u.cell? ⟨w'.heap.size, 12, none⟩ = some (.int .i64 9) ∧ u.cell? ⟨w'.heap.size, 13, none⟩ = some (.string K) ∧ u.cell? ⟨w'.heap.size, 14, none⟩ = some (.bool true) ∧ u.cell? ⟨w'.heap.size, 15, none⟩ = some (.string ⟨#[]⟩) ∧ u.cell? ⟨w'.heap.size, 16, none⟩ = some (.string ⟨#[]⟩) ∧ u.cell? ⟨w'.heap.size, 17, none⟩ = some (.int .i64 0) ∧ u.cell? ⟨w'.heap.size + 1, 2, none⟩ = some (.int .u8 39)) (go_keep) (first | (go_at_call 12; refine (hst _).mono ?_; rintro e w1 ⟨rfl, hb1⟩; have d0 := Tp.keep hb1 (b := w'.heap.size) (o := 12) (v := .int .i64 9) (by first | exact c0 | simpa using c0); have d1 := Tp.keep hb1 (b := w'.heap.size) (o := 13) (v := .string K) (by first | exact c1 | simpa using c1); have d2 := Tp.keep hb1 (b := w'.heap.size) (o := 14) (v := .bool true) (by first | exact c2 | simpa using c2); have d3 := Tp.keep hb1 (b := w'.heap.size) (o := 15) (v := .string ⟨#[]⟩) (by first | exact c3 | simpa using c3); have d4 := Tp.keep hb1 (b := w'.heap.size) (o := 16) (v := .string ⟨#[]⟩) (by first | exact c4 | simpa using c4); have d5 := Tp.keep hb1 (b := w'.heap.size) (o := 17) (v := .int .i64 0) (by first | exact c5 | simpa using c5); have dd := Tp.keep hb1 (b := w'.heap.size + 1) (o := 2) (v := .int .u8 39) (by first | exact co | simpa using co); have HB1 := Lib.hid hb1; clear hb1))
        all_goals go_wp2
        all_goals go_ret
        all_goals exact ⟨by first | rfl | simp [*], (HB.out.trans ((Below.refl _ _).drew.trans HB1.out |>.mono HB.out.size))⟩
      · have hst := fun u => Tp.Step (⟨9, K, true, ⟨#[]⟩, ⟨#[]⟩, 0⟩ : Ts) b u hfit
        rw [Ss.stay2 K b hbo] at hst
        have hne : ¬ (b.toNat : Int) = 39 := fun h => hbo (UInt8.toNat_inj.1 (by have h2 : (39 : UInt8).toNat = 39 := rfl; omega))
        clear hbo
        clear hfit hf hKf
        go_region_held (fun u => u.cell? ⟨w'.heap.size, 12, none⟩ = some (.int .i64 9) ∧ u.cell? ⟨w'.heap.size, 13, none⟩ = some (.string K) ∧ u.cell? ⟨w'.heap.size, 14, none⟩ = some (.bool true) ∧ u.cell? ⟨w'.heap.size, 15, none⟩ = some (.string ⟨#[]⟩) ∧ u.cell? ⟨w'.heap.size, 16, none⟩ = some (.string ⟨#[]⟩) ∧ u.cell? ⟨w'.heap.size, 17, none⟩ = some (.int .i64 0) ∧ u.cell? ⟨w'.heap.size + 1, 2, none⟩ = some (.int .u8 39)) (go_keep) (first | (go_at_call 12; refine (hst _).mono ?_; rintro e w1 ⟨rfl, hb1⟩; have d0 := Tp.keep hb1 (b := w'.heap.size) (o := 12) (v := .int .i64 9) (by first | exact c0 | simpa using c0); have d1 := Tp.keep hb1 (b := w'.heap.size) (o := 13) (v := .string K) (by first | exact c1 | simpa using c1); have d2 := Tp.keep hb1 (b := w'.heap.size) (o := 14) (v := .bool true) (by first | exact c2 | simpa using c2); have d3 := Tp.keep hb1 (b := w'.heap.size) (o := 15) (v := .string ⟨#[]⟩) (by first | exact c3 | simpa using c3); have d4 := Tp.keep hb1 (b := w'.heap.size) (o := 16) (v := .string ⟨#[]⟩) (by first | exact c4 | simpa using c4); have d5 := Tp.keep hb1 (b := w'.heap.size) (o := 17) (v := .int .i64 0) (by first | exact c5 | simpa using c5); have dd := Tp.keep hb1 (b := w'.heap.size + 1) (o := 2) (v := .int .u8 39) (by first | exact co | simpa using co); have HB1 := Lib.hid hb1; clear hb1))
        all_goals go_wp2
        all_goals go_ret
        all_goals exact ⟨by first | rfl | simp [*], (HB.out.trans ((Below.refl _ _).drew.trans HB1.out |>.mono HB.out.size))⟩
    · rw [show ((3 : Nat) : Int) = 3 from rfl]
      have c0 : V.cell? ⟨w'.heap.size, 18, none⟩ = some (.int .i64 15) := by rw [← hV]; simp
      have c1 : V.cell? ⟨w'.heap.size, 19, none⟩ = some (.string ⟨#[]⟩) := by rw [← hV]; simp
      have c2 : V.cell? ⟨w'.heap.size, 20, none⟩ = some (.bool false) := by rw [← hV]; simp
      have c3 : V.cell? ⟨w'.heap.size, 21, none⟩ = some (.string ⟨#[]⟩) := by rw [← hV]; simp
      have c4 : V.cell? ⟨w'.heap.size, 22, none⟩ = some (.string ⟨#[]⟩) := by rw [← hV]; simp
      have c5 : V.cell? ⟨w'.heap.size, 23, none⟩ = some (.int .i64 0) := by rw [← hV]; simp
      have co : V.cell? ⟨w'.heap.size + 1, 3, none⟩ = some (.int .u8 45) := by rw [← hV]; simp
      clear hV
      have hfit : Ts.Fits (⟨15, ⟨#[]⟩, false, ⟨#[]⟩, ⟨#[]⟩, 0⟩ : Ts) := ⟨hf _ (by first | exact hKf | (show (0 : Nat) ≤ 300; decide) | (show (1 : Nat) ≤ 300; decide) | (show (5 : Nat) ≤ 300; decide)), hf _ (by first | exact hKf | (show (0 : Nat) ≤ 300; decide) | (show (1 : Nat) ≤ 300; decide) | (show (5 : Nat) ≤ 300; decide)), hf _ (by first | exact hKf | (show (0 : Nat) ≤ 300; decide) | (show (1 : Nat) ≤ 300; decide) | (show (5 : Nat) ≤ 300; decide))⟩
      by_cases hbo : b = 45
      · have hst := fun u => Tp.Step (⟨15, ⟨#[]⟩, false, ⟨#[]⟩, ⟨#[]⟩, 0⟩ : Ts) b u hfit
        rw [Ss.turn3 K b hbo] at hst
        subst hbo
        clear hfit hf hKf
        go_region_held (fun u => u.cell? ⟨w'.heap.size, 18, none⟩ = some (.int .i64 15) ∧ u.cell? ⟨w'.heap.size, 19, none⟩ = some (.string ⟨#[]⟩) ∧ u.cell? ⟨w'.heap.size, 20, none⟩ = some (.bool false) ∧ u.cell? ⟨w'.heap.size, 21, none⟩ = some (.string ⟨#[]⟩) ∧ u.cell? ⟨w'.heap.size, 22, none⟩ = some (.string ⟨#[]⟩) ∧ u.cell? ⟨w'.heap.size, 23, none⟩ = some (.int .i64 0) ∧ u.cell? ⟨w'.heap.size + 1, 3, none⟩ = some (.int .u8 45)) (go_keep) (first | (go_at_call 12; refine (hst _).mono ?_; rintro e w1 ⟨rfl, hb1⟩; have d0 := Tp.keep hb1 (b := w'.heap.size) (o := 18) (v := .int .i64 15) (by first | exact c0 | simpa using c0); have d1 := Tp.keep hb1 (b := w'.heap.size) (o := 19) (v := .string ⟨#[]⟩) (by first | exact c1 | simpa using c1); have d2 := Tp.keep hb1 (b := w'.heap.size) (o := 20) (v := .bool false) (by first | exact c2 | simpa using c2); have d3 := Tp.keep hb1 (b := w'.heap.size) (o := 21) (v := .string ⟨#[]⟩) (by first | exact c3 | simpa using c3); have d4 := Tp.keep hb1 (b := w'.heap.size) (o := 22) (v := .string ⟨#[]⟩) (by first | exact c4 | simpa using c4); have d5 := Tp.keep hb1 (b := w'.heap.size) (o := 23) (v := .int .i64 0) (by first | exact c5 | simpa using c5); have dd := Tp.keep hb1 (b := w'.heap.size + 1) (o := 3) (v := .int .u8 45) (by first | exact co | simpa using co); have HB1 := Lib.hid hb1; clear hb1))
        all_goals go_wp2
        all_goals go_ret
        all_goals exact ⟨by first | rfl | simp [*], (HB.out.trans ((Below.refl _ _).drew.trans HB1.out |>.mono HB.out.size))⟩
      · have hst := fun u => Tp.Step (⟨15, ⟨#[]⟩, false, ⟨#[]⟩, ⟨#[]⟩, 0⟩ : Ts) b u hfit
        rw [Ss.stay3 K b hbo] at hst
        have hne : ¬ (b.toNat : Int) = 45 := fun h => hbo (UInt8.toNat_inj.1 (by have h2 : (45 : UInt8).toNat = 45 := rfl; omega))
        clear hbo
        clear hfit hf hKf
        go_region_held (fun u => u.cell? ⟨w'.heap.size, 18, none⟩ = some (.int .i64 15) ∧ u.cell? ⟨w'.heap.size, 19, none⟩ = some (.string ⟨#[]⟩) ∧ u.cell? ⟨w'.heap.size, 20, none⟩ = some (.bool false) ∧ u.cell? ⟨w'.heap.size, 21, none⟩ = some (.string ⟨#[]⟩) ∧ u.cell? ⟨w'.heap.size, 22, none⟩ = some (.string ⟨#[]⟩) ∧ u.cell? ⟨w'.heap.size, 23, none⟩ = some (.int .i64 0) ∧ u.cell? ⟨w'.heap.size + 1, 3, none⟩ = some (.int .u8 45)) (go_keep) (first | (go_at_call 12; refine (hst _).mono ?_; rintro e w1 ⟨rfl, hb1⟩; have d0 := Tp.keep hb1 (b := w'.heap.size) (o := 18) (v := .int .i64 15) (by first | exact c0 | simpa using c0); have d1 := Tp.keep hb1 (b := w'.heap.size) (o := 19) (v := .string ⟨#[]⟩) (by first | exact c1 | simpa using c1); have d2 := Tp.keep hb1 (b := w'.heap.size) (o := 20) (v := .bool false) (by first | exact c2 | simpa using c2); have d3 := Tp.keep hb1 (b := w'.heap.size) (o := 21) (v := .string ⟨#[]⟩) (by first | exact c3 | simpa using c3); have d4 := Tp.keep hb1 (b := w'.heap.size) (o := 22) (v := .string ⟨#[]⟩) (by first | exact c4 | simpa using c4); have d5 := Tp.keep hb1 (b := w'.heap.size) (o := 23) (v := .int .i64 0) (by first | exact c5 | simpa using c5); have dd := Tp.keep hb1 (b := w'.heap.size + 1) (o := 3) (v := .int .u8 45) (by first | exact co | simpa using co); have HB1 := Lib.hid hb1; clear hb1))
        all_goals go_wp2
        all_goals go_ret
        all_goals exact ⟨by first | rfl | simp [*], (HB.out.trans ((Below.refl _ _).drew.trans HB1.out |>.mono HB.out.size))⟩
    · rw [show ((4 : Nat) : Int) = 4 from rfl]
      have c0 : V.cell? ⟨w'.heap.size, 24, none⟩ = some (.int .i64 18) := by rw [← hV]; simp
      have c1 : V.cell? ⟨w'.heap.size, 25, none⟩ = some (.string ⟨#[]⟩) := by rw [← hV]; simp
      have c2 : V.cell? ⟨w'.heap.size, 26, none⟩ = some (.bool false) := by rw [← hV]; simp
      have c3 : V.cell? ⟨w'.heap.size, 27, none⟩ = some (.string ⟨#[]⟩) := by rw [← hV]; simp
      have c4 : V.cell? ⟨w'.heap.size, 28, none⟩ = some (.string ⟨#[]⟩) := by rw [← hV]; simp
      have c5 : V.cell? ⟨w'.heap.size, 29, none⟩ = some (.int .i64 0) := by rw [← hV]; simp
      have co : V.cell? ⟨w'.heap.size + 1, 4, none⟩ = some (.int .u8 62) := by rw [← hV]; simp
      clear hV
      have hfit : Ts.Fits (⟨18, ⟨#[]⟩, false, ⟨#[]⟩, ⟨#[]⟩, 0⟩ : Ts) := ⟨hf _ (by first | exact hKf | (show (0 : Nat) ≤ 300; decide) | (show (1 : Nat) ≤ 300; decide) | (show (5 : Nat) ≤ 300; decide)), hf _ (by first | exact hKf | (show (0 : Nat) ≤ 300; decide) | (show (1 : Nat) ≤ 300; decide) | (show (5 : Nat) ≤ 300; decide)), hf _ (by first | exact hKf | (show (0 : Nat) ≤ 300; decide) | (show (1 : Nat) ≤ 300; decide) | (show (5 : Nat) ≤ 300; decide))⟩
      by_cases hbo : b = 62
      · have hst := fun u => Tp.Step (⟨18, ⟨#[]⟩, false, ⟨#[]⟩, ⟨#[]⟩, 0⟩ : Ts) b u hfit
        rw [Ss.turn4 K b hbo] at hst
        subst hbo
        clear hfit hf hKf
        go_region_held (fun u => u.cell? ⟨w'.heap.size, 24, none⟩ = some (.int .i64 18) ∧ u.cell? ⟨w'.heap.size, 25, none⟩ = some (.string ⟨#[]⟩) ∧ u.cell? ⟨w'.heap.size, 26, none⟩ = some (.bool false) ∧ u.cell? ⟨w'.heap.size, 27, none⟩ = some (.string ⟨#[]⟩) ∧ u.cell? ⟨w'.heap.size, 28, none⟩ = some (.string ⟨#[]⟩) ∧ u.cell? ⟨w'.heap.size, 29, none⟩ = some (.int .i64 0) ∧ u.cell? ⟨w'.heap.size + 1, 4, none⟩ = some (.int .u8 62)) (go_keep) (first | (go_at_call 12; refine (hst _).mono ?_; rintro e w1 ⟨rfl, hb1⟩; have d0 := Tp.keep hb1 (b := w'.heap.size) (o := 24) (v := .int .i64 18) (by first | exact c0 | simpa using c0); have d1 := Tp.keep hb1 (b := w'.heap.size) (o := 25) (v := .string ⟨#[]⟩) (by first | exact c1 | simpa using c1); have d2 := Tp.keep hb1 (b := w'.heap.size) (o := 26) (v := .bool false) (by first | exact c2 | simpa using c2); have d3 := Tp.keep hb1 (b := w'.heap.size) (o := 27) (v := .string ⟨#[]⟩) (by first | exact c3 | simpa using c3); have d4 := Tp.keep hb1 (b := w'.heap.size) (o := 28) (v := .string ⟨#[]⟩) (by first | exact c4 | simpa using c4); have d5 := Tp.keep hb1 (b := w'.heap.size) (o := 29) (v := .int .i64 0) (by first | exact c5 | simpa using c5); have dd := Tp.keep hb1 (b := w'.heap.size + 1) (o := 4) (v := .int .u8 62) (by first | exact co | simpa using co); have HB1 := Lib.hid hb1; clear hb1))
        all_goals go_wp2
        all_goals go_ret
        all_goals exact ⟨by first | rfl | simp [*], (HB.out.trans ((Below.refl _ _).drew.trans HB1.out |>.mono HB.out.size))⟩
      · have hst := fun u => Tp.Step (⟨18, ⟨#[]⟩, false, ⟨#[]⟩, ⟨#[]⟩, 0⟩ : Ts) b u hfit
        rw [Ss.stay4 K b hbo] at hst
        have hne : ¬ (b.toNat : Int) = 62 := fun h => hbo (UInt8.toNat_inj.1 (by have h2 : (62 : UInt8).toNat = 62 := rfl; omega))
        clear hbo
        clear hfit hf hKf
        go_region_held (fun u => u.cell? ⟨w'.heap.size, 24, none⟩ = some (.int .i64 18) ∧ u.cell? ⟨w'.heap.size, 25, none⟩ = some (.string ⟨#[]⟩) ∧ u.cell? ⟨w'.heap.size, 26, none⟩ = some (.bool false) ∧ u.cell? ⟨w'.heap.size, 27, none⟩ = some (.string ⟨#[]⟩) ∧ u.cell? ⟨w'.heap.size, 28, none⟩ = some (.string ⟨#[]⟩) ∧ u.cell? ⟨w'.heap.size, 29, none⟩ = some (.int .i64 0) ∧ u.cell? ⟨w'.heap.size + 1, 4, none⟩ = some (.int .u8 62)) (go_keep) (first | (go_at_call 12; refine (hst _).mono ?_; rintro e w1 ⟨rfl, hb1⟩; have d0 := Tp.keep hb1 (b := w'.heap.size) (o := 24) (v := .int .i64 18) (by first | exact c0 | simpa using c0); have d1 := Tp.keep hb1 (b := w'.heap.size) (o := 25) (v := .string ⟨#[]⟩) (by first | exact c1 | simpa using c1); have d2 := Tp.keep hb1 (b := w'.heap.size) (o := 26) (v := .bool false) (by first | exact c2 | simpa using c2); have d3 := Tp.keep hb1 (b := w'.heap.size) (o := 27) (v := .string ⟨#[]⟩) (by first | exact c3 | simpa using c3); have d4 := Tp.keep hb1 (b := w'.heap.size) (o := 28) (v := .string ⟨#[]⟩) (by first | exact c4 | simpa using c4); have d5 := Tp.keep hb1 (b := w'.heap.size) (o := 29) (v := .int .i64 0) (by first | exact c5 | simpa using c5); have dd := Tp.keep hb1 (b := w'.heap.size + 1) (o := 4) (v := .int .u8 62) (by first | exact co | simpa using co); have HB1 := Lib.hid hb1; clear hb1))
        all_goals go_wp2
        all_goals go_ret
        all_goals exact ⟨by first | rfl | simp [*], (HB.out.trans ((Below.refl _ _).drew.trans HB1.out |>.mono HB.out.size))⟩
    · rw [show ((5 : Nat) : Int) = 5 from rfl]
      have c0 : V.cell? ⟨w'.heap.size, 30, none⟩ = some (.int .i64 19) := by rw [← hV]; simp
      have c1 : V.cell? ⟨w'.heap.size, 31, none⟩ = some (.string ⟨#[]⟩) := by rw [← hV]; simp
      have c2 : V.cell? ⟨w'.heap.size, 32, none⟩ = some (.bool false) := by rw [← hV]; simp
      have c3 : V.cell? ⟨w'.heap.size, 33, none⟩ = some (.string ⟨#[]⟩) := by rw [← hV]; simp
      have c4 : V.cell? ⟨w'.heap.size, 34, none⟩ = some (.string ⟨#[116, 105, 116, 108, 101]⟩) := by rw [← hV]; simp
      have c5 : V.cell? ⟨w'.heap.size, 35, none⟩ = some (.int .i64 0) := by rw [← hV]; simp
      have co : V.cell? ⟨w'.heap.size + 1, 5, none⟩ = some (.int .u8 60) := by rw [← hV]; simp
      clear hV
      have hfit : Ts.Fits (⟨19, ⟨#[]⟩, false, ⟨#[]⟩, ⟨#[116, 105, 116, 108, 101]⟩, 0⟩ : Ts) := ⟨hf _ (by first | exact hKf | (show (0 : Nat) ≤ 300; decide) | (show (1 : Nat) ≤ 300; decide) | (show (5 : Nat) ≤ 300; decide)), hf _ (by first | exact hKf | (show (0 : Nat) ≤ 300; decide) | (show (1 : Nat) ≤ 300; decide) | (show (5 : Nat) ≤ 300; decide)), hf _ (by first | exact hKf | (show (0 : Nat) ≤ 300; decide) | (show (1 : Nat) ≤ 300; decide) | (show (5 : Nat) ≤ 300; decide))⟩
      by_cases hbo : b = 60
      · have hst := fun u => Tp.Step (⟨19, ⟨#[]⟩, false, ⟨#[]⟩, ⟨#[116, 105, 116, 108, 101]⟩, 0⟩ : Ts) b u hfit
        rw [Ss.turn5 K b hbo] at hst
        subst hbo
        clear hfit hf hKf
        go_region_held (fun u => u.cell? ⟨w'.heap.size, 30, none⟩ = some (.int .i64 19) ∧ u.cell? ⟨w'.heap.size, 31, none⟩ = some (.string ⟨#[]⟩) ∧ u.cell? ⟨w'.heap.size, 32, none⟩ = some (.bool false) ∧ u.cell? ⟨w'.heap.size, 33, none⟩ = some (.string ⟨#[]⟩) ∧ u.cell? ⟨w'.heap.size, 34, none⟩ = some (.string ⟨#[116, 105, 116, 108, 101]⟩) ∧ u.cell? ⟨w'.heap.size, 35, none⟩ = some (.int .i64 0) ∧ u.cell? ⟨w'.heap.size + 1, 5, none⟩ = some (.int .u8 60)) (go_keep) (first | (go_at_call 12; refine (hst _).mono ?_; rintro e w1 ⟨rfl, hb1⟩; have d0 := Tp.keep hb1 (b := w'.heap.size) (o := 30) (v := .int .i64 19) (by first | exact c0 | simpa using c0); have d1 := Tp.keep hb1 (b := w'.heap.size) (o := 31) (v := .string ⟨#[]⟩) (by first | exact c1 | simpa using c1); have d2 := Tp.keep hb1 (b := w'.heap.size) (o := 32) (v := .bool false) (by first | exact c2 | simpa using c2); have d3 := Tp.keep hb1 (b := w'.heap.size) (o := 33) (v := .string ⟨#[]⟩) (by first | exact c3 | simpa using c3); have d4 := Tp.keep hb1 (b := w'.heap.size) (o := 34) (v := .string ⟨#[116, 105, 116, 108, 101]⟩) (by first | exact c4 | simpa using c4); have d5 := Tp.keep hb1 (b := w'.heap.size) (o := 35) (v := .int .i64 0) (by first | exact c5 | simpa using c5); have dd := Tp.keep hb1 (b := w'.heap.size + 1) (o := 5) (v := .int .u8 60) (by first | exact co | simpa using co); have HB1 := Lib.hid hb1; clear hb1))
        all_goals go_wp2
        all_goals go_ret
        all_goals exact ⟨by first | rfl | simp [*], (HB.out.trans ((Below.refl _ _).drew.trans HB1.out |>.mono HB.out.size))⟩
      · have hst := fun u => Tp.Step (⟨19, ⟨#[]⟩, false, ⟨#[]⟩, ⟨#[116, 105, 116, 108, 101]⟩, 0⟩ : Ts) b u hfit
        rw [Ss.stay5 K b hbo] at hst
        have hne : ¬ (b.toNat : Int) = 60 := fun h => hbo (UInt8.toNat_inj.1 (by have h2 : (60 : UInt8).toNat = 60 := rfl; omega))
        clear hbo
        clear hfit hf hKf
        go_region_held (fun u => u.cell? ⟨w'.heap.size, 30, none⟩ = some (.int .i64 19) ∧ u.cell? ⟨w'.heap.size, 31, none⟩ = some (.string ⟨#[]⟩) ∧ u.cell? ⟨w'.heap.size, 32, none⟩ = some (.bool false) ∧ u.cell? ⟨w'.heap.size, 33, none⟩ = some (.string ⟨#[]⟩) ∧ u.cell? ⟨w'.heap.size, 34, none⟩ = some (.string ⟨#[116, 105, 116, 108, 101]⟩) ∧ u.cell? ⟨w'.heap.size, 35, none⟩ = some (.int .i64 0) ∧ u.cell? ⟨w'.heap.size + 1, 5, none⟩ = some (.int .u8 60)) (go_keep) (first | (go_at_call 12; refine (hst _).mono ?_; rintro e w1 ⟨rfl, hb1⟩; have d0 := Tp.keep hb1 (b := w'.heap.size) (o := 30) (v := .int .i64 19) (by first | exact c0 | simpa using c0); have d1 := Tp.keep hb1 (b := w'.heap.size) (o := 31) (v := .string ⟨#[]⟩) (by first | exact c1 | simpa using c1); have d2 := Tp.keep hb1 (b := w'.heap.size) (o := 32) (v := .bool false) (by first | exact c2 | simpa using c2); have d3 := Tp.keep hb1 (b := w'.heap.size) (o := 33) (v := .string ⟨#[]⟩) (by first | exact c3 | simpa using c3); have d4 := Tp.keep hb1 (b := w'.heap.size) (o := 34) (v := .string ⟨#[116, 105, 116, 108, 101]⟩) (by first | exact c4 | simpa using c4); have d5 := Tp.keep hb1 (b := w'.heap.size) (o := 35) (v := .int .i64 0) (by first | exact c5 | simpa using c5); have dd := Tp.keep hb1 (b := w'.heap.size + 1) (o := 5) (v := .int .u8 60) (by first | exact co | simpa using co); have HB1 := Lib.hid hb1; clear hb1))
        all_goals go_wp2
        all_goals go_ret
        all_goals exact ⟨by first | rfl | simp [*], (HB.out.trans ((Below.refl _ _).drew.trans HB1.out |>.mono HB.out.size))⟩
end Go.Proofs.YtjbkgokiikbaeabDoor

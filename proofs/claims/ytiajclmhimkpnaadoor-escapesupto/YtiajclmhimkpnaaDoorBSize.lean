/-
  THE WALKS of stoleref1.Size and stoleref1.Low: each returns what the plain function of the bytes gives, and turns nothing.
-/
import Derived.Test.YtiajclmhimkpnaaDoorBRPlaintoSign
namespace Go.Proofs.YtiajclmhimkpnaaDoor
open Go.RowKit

/-- the length of the sign at a place; of a byte 0: 1 -/
def Pl.siz (l : List UInt8) : Nat := if Pl.nb l 0 = 0 then 1 else Pl.sgn l
theorem Sz.nb_at (s : ByteArray) (i q : Nat) (h : i + q < s.size) : Pl.nb (s.data.toList.drop i) q = (s[i + q]).toNat := by
  have h' : i + q < s.data.toList.length := by rw [Wk.len_data]; exact h
  simp only [Pl.nb, List.getD_eq_getElem?_getD, List.getElem?_drop, List.getElem?_eq_getElem h', Option.getD_some]
  rfl
theorem Sz.ret {a b : Int} (h : a = b) : Ending.returned (.int .i64 a) = .returned (.int .i64 b) := by rw [h]

theorem Sz.cont_end {P : Nat → Prop} {n : Nat} (h : ∀ q, 1 ≤ q → q < n → P q) (hn : P n) : ∀ q, 1 ≤ q → q < n + 1 → P q := fun q h1 h2 => by
  by_cases e : q = n
  · subst e; exact hn
  · exact h q h1 (by omega)

set_option maxRecDepth 100000 in
set_option maxHeartbeats 4000000 in
theorem Sz.class2 (s : ByteArray) (i : Nat) (hi : i < s.size) (hs : s.size ≤ 4611686018427387904) (w : World) (c m : Nat) (e0 : s[i].toNat = c) (hlo : 194 ≤ c) (hhi : c < 224)
    (HM : Hid (m = Pl.sgnN (s.size - i) c (Pl.nb (s.data.toList.drop i) 1) (Pl.nb (s.data.toList.drop i) 2) (Pl.nb (s.data.toList.drop i) 3))) :
    Calls Tryd.prog 17 #[.string s, .int .i64 (i : Int)] w fun e w' => e = .returned (.int .i64 (m : Int)) ∧ w' = w := by
  have g0 : decide ((c : Int) < 128) = false := decide_eq_false (by omega)
  have g1 : decide ((194 : Int) ≤ (c : Int)) = true := decide_eq_true (by omega)
  have g2 : decide ((c : Int) ≤ 223) = true := decide_eq_true (by omega)
  by_cases room : i + 2 ≤ s.size
  · have r1 : decide ((s.size : Int) < (i : Int) + 2) = false := decide_eq_false (by omega)
    go_enter Tryd.func17, Tryd.ntmps17
    go_wp2
    go_loop [7] (fun j => ∃ n : Nat, 1 ≤ n ∧ n ≤ 2 ∧ j = .int .i64 n ∧ ∀ q, 1 ≤ q → q < n → 128 ≤ Pl.nb (s.data.toList.drop i) q ∧ Pl.nb (s.data.toList.drop i) q ≤ 191) (fun j => 2 - (intOf j).toNat)
    case atStart => exact ⟨1, by omega, by omega, rfl, fun q h1 h2 => by omega⟩
    case round =>
      obtain ⟨n, hn1, hn2, rfl, hall⟩ := hrel
      have HA : Hid (∀ q, 1 ≤ q → q < n → 128 ≤ Pl.nb (s.data.toList.drop i) q ∧ Pl.nb (s.data.toList.drop i) q ≤ 191) := hall
      clear hall
      by_cases hj : n < 2
      · have en := (Sz.nb_at s i n (by omega)).symm
        obtain ⟨v, hv⟩ : ∃ v, Pl.nb (s.data.toList.drop i) n = v := ⟨_, rfl⟩
        rw [hv] at en
        have HV : Hid (Pl.nb (s.data.toList.drop i) n = v) := hv
        clear hv
        by_cases v1 : v < 128
        · have f1 : decide ((v : Int) < 128) = true := decide_eq_true (by omega)
          go_wp2
          go_ret
          refine ⟨Sz.ret ?_, rfl⟩
          have h1 := HM.out
          have h2 := HV.out
          have hcase : n = 1 ∨ n = 2 ∨ n = 3 := by omega
          unfold Pl.sgnN at h1
          rcases hcase with rfl | rfl | rfl <;> (repeat' split at h1) <;> omega
        · have f1 : decide ((v : Int) < 128) = false := decide_eq_false (by omega)
          by_cases v2 : 191 < v
          · have f2 : decide ((191 : Int) < (v : Int)) = true := decide_eq_true (by omega)
            go_wp2
            go_ret
            refine ⟨Sz.ret ?_, rfl⟩
            have h1 := HM.out
            have h2 := HV.out
            have hcase : n = 1 ∨ n = 2 ∨ n = 3 := by omega
            unfold Pl.sgnN at h1
            rcases hcase with rfl | rfl | rfl <;> (repeat' split at h1) <;> omega
          · have f2 : decide ((191 : Int) < (v : Int)) = false := decide_eq_false (by omega)
            go_wp2
            go_round
            case rel => exact ⟨n + 1, by omega, by omega, by go_num, Sz.cont_end (P := fun q => 128 ≤ Pl.nb (s.data.toList.drop i) q ∧ Pl.nb (s.data.toList.drop i) q ≤ 191) HA.out (by rw [HV.out]; omega)⟩
            case measure => simp [intOf]; omega
      · have hn : n = 2 := by omega
        subst hn
        have e1 := (Sz.nb_at s i 1 (by omega)).symm
        have a1 := HA.out 1 (by omega) (by omega)
        clear HA
        generalize Pl.nb (s.data.toList.drop i) 1 = p1 at *
        have z1 : ((c : Int) == 224) = false := beq_eq_false_iff_ne.2 (by omega)
        have z2 : ((c : Int) == 237) = false := beq_eq_false_iff_ne.2 (by omega)
        have z3 : ((c : Int) == 240) = false := beq_eq_false_iff_ne.2 (by omega)
        have z4 : ((c : Int) == 244) = false := beq_eq_false_iff_ne.2 (by omega)
        go_wp2
        go_ret
        refine ⟨Sz.ret ?_, rfl⟩
        have := HM.out
        unfold Pl.sgnN at this
        repeat' split at this
        all_goals omega
  · have r1 : decide ((s.size : Int) < (i : Int) + 2) = true := decide_eq_true (by omega)
    go_enter Tryd.func17, Tryd.ntmps17
    go_wp2
    go_ret
    refine ⟨Sz.ret ?_, rfl⟩
    have := HM.out
    unfold Pl.sgnN at this
    repeat' split at this
    all_goals omega

set_option maxRecDepth 100000 in
set_option maxHeartbeats 4000000 in
theorem Sz.class3 (s : ByteArray) (i : Nat) (hi : i < s.size) (hs : s.size ≤ 4611686018427387904) (w : World) (c m : Nat) (e0 : s[i].toNat = c) (hlo : 224 ≤ c) (hhi : c < 240)
    (HM : Hid (m = Pl.sgnN (s.size - i) c (Pl.nb (s.data.toList.drop i) 1) (Pl.nb (s.data.toList.drop i) 2) (Pl.nb (s.data.toList.drop i) 3))) :
    Calls Tryd.prog 17 #[.string s, .int .i64 (i : Int)] w fun e w' => e = .returned (.int .i64 (m : Int)) ∧ w' = w := by
  have g0 : decide ((c : Int) < 128) = false := decide_eq_false (by omega)
  have g1 : decide ((194 : Int) ≤ (c : Int)) = true := decide_eq_true (by omega)
  have g2 : decide ((c : Int) ≤ 223) = false := decide_eq_false (by omega)
  have g3 : decide ((224 : Int) ≤ (c : Int)) = true := decide_eq_true (by omega)
  have g4 : decide ((c : Int) ≤ 239) = true := decide_eq_true (by omega)
  by_cases room : i + 3 ≤ s.size
  · have r1 : decide ((s.size : Int) < (i : Int) + 3) = false := decide_eq_false (by omega)
    go_enter Tryd.func17, Tryd.ntmps17
    go_wp2
    go_loop [7] (fun j => ∃ n : Nat, 1 ≤ n ∧ n ≤ 3 ∧ j = .int .i64 n ∧ ∀ q, 1 ≤ q → q < n → 128 ≤ Pl.nb (s.data.toList.drop i) q ∧ Pl.nb (s.data.toList.drop i) q ≤ 191) (fun j => 3 - (intOf j).toNat)
    case atStart => exact ⟨1, by omega, by omega, rfl, fun q h1 h2 => by omega⟩
    case round =>
      obtain ⟨n, hn1, hn2, rfl, hall⟩ := hrel
      have HA : Hid (∀ q, 1 ≤ q → q < n → 128 ≤ Pl.nb (s.data.toList.drop i) q ∧ Pl.nb (s.data.toList.drop i) q ≤ 191) := hall
      clear hall
      by_cases hj : n < 3
      · have en := (Sz.nb_at s i n (by omega)).symm
        obtain ⟨v, hv⟩ : ∃ v, Pl.nb (s.data.toList.drop i) n = v := ⟨_, rfl⟩
        rw [hv] at en
        have HV : Hid (Pl.nb (s.data.toList.drop i) n = v) := hv
        clear hv
        by_cases v1 : v < 128
        · have f1 : decide ((v : Int) < 128) = true := decide_eq_true (by omega)
          go_wp2
          go_ret
          refine ⟨Sz.ret ?_, rfl⟩
          have h1 := HM.out
          have h2 := HV.out
          have hcase : n = 1 ∨ n = 2 ∨ n = 3 := by omega
          unfold Pl.sgnN at h1
          rcases hcase with rfl | rfl | rfl <;> (repeat' split at h1) <;> omega
        · have f1 : decide ((v : Int) < 128) = false := decide_eq_false (by omega)
          by_cases v2 : 191 < v
          · have f2 : decide ((191 : Int) < (v : Int)) = true := decide_eq_true (by omega)
            go_wp2
            go_ret
            refine ⟨Sz.ret ?_, rfl⟩
            have h1 := HM.out
            have h2 := HV.out
            have hcase : n = 1 ∨ n = 2 ∨ n = 3 := by omega
            unfold Pl.sgnN at h1
            rcases hcase with rfl | rfl | rfl <;> (repeat' split at h1) <;> omega
          · have f2 : decide ((191 : Int) < (v : Int)) = false := decide_eq_false (by omega)
            go_wp2
            go_round
            case rel => exact ⟨n + 1, by omega, by omega, by go_num, Sz.cont_end (P := fun q => 128 ≤ Pl.nb (s.data.toList.drop i) q ∧ Pl.nb (s.data.toList.drop i) q ≤ 191) HA.out (by rw [HV.out]; omega)⟩
            case measure => simp [intOf]; omega
      · have hn : n = 3 := by omega
        subst hn
        have e1 := (Sz.nb_at s i 1 (by omega)).symm
        have a1 := HA.out 1 (by omega) (by omega)
        have a2 := HA.out 2 (by omega) (by omega)
        clear HA
        generalize Pl.nb (s.data.toList.drop i) 1 = p1 at *
        generalize Pl.nb (s.data.toList.drop i) 2 = p2 at *
        by_cases t1 : c = 224
        · by_cases u1 : p1 < 160
          · have z1 : ((c : Int) == 224) = true := beq_iff_eq.2 (by omega)
            have z2 : ((c : Int) == 237) = false := beq_eq_false_iff_ne.2 (by omega)
            have z3 : ((c : Int) == 240) = false := beq_eq_false_iff_ne.2 (by omega)
            have z4 : ((c : Int) == 244) = false := beq_eq_false_iff_ne.2 (by omega)
            have y1 : decide ((p1 : Int) < 160) = true := decide_eq_true (by omega)
            go_wp2
            go_ret
            refine ⟨Sz.ret ?_, rfl⟩
            have := HM.out
            unfold Pl.sgnN at this
            repeat' split at this
            all_goals omega
          · have z1 : ((c : Int) == 224) = true := beq_iff_eq.2 (by omega)
            have z2 : ((c : Int) == 237) = false := beq_eq_false_iff_ne.2 (by omega)
            have z3 : ((c : Int) == 240) = false := beq_eq_false_iff_ne.2 (by omega)
            have z4 : ((c : Int) == 244) = false := beq_eq_false_iff_ne.2 (by omega)
            have y1 : decide ((p1 : Int) < 160) = false := decide_eq_false (by omega)
            go_wp2
            go_ret
            refine ⟨Sz.ret ?_, rfl⟩
            have := HM.out
            unfold Pl.sgnN at this
            repeat' split at this
            all_goals omega
        · by_cases t2 : c = 237
          · by_cases u2 : 159 < p1
            · have z1 : ((c : Int) == 224) = false := beq_eq_false_iff_ne.2 (by omega)
              have z2 : ((c : Int) == 237) = true := beq_iff_eq.2 (by omega)
              have z3 : ((c : Int) == 240) = false := beq_eq_false_iff_ne.2 (by omega)
              have z4 : ((c : Int) == 244) = false := beq_eq_false_iff_ne.2 (by omega)
              have y1 : decide ((159 : Int) < (p1 : Int)) = true := decide_eq_true (by omega)
              go_wp2
              go_ret
              refine ⟨Sz.ret ?_, rfl⟩
              have := HM.out
              unfold Pl.sgnN at this
              repeat' split at this
              all_goals omega
            · have z1 : ((c : Int) == 224) = false := beq_eq_false_iff_ne.2 (by omega)
              have z2 : ((c : Int) == 237) = true := beq_iff_eq.2 (by omega)
              have z3 : ((c : Int) == 240) = false := beq_eq_false_iff_ne.2 (by omega)
              have z4 : ((c : Int) == 244) = false := beq_eq_false_iff_ne.2 (by omega)
              have y1 : decide ((159 : Int) < (p1 : Int)) = false := decide_eq_false (by omega)
              go_wp2
              go_ret
              refine ⟨Sz.ret ?_, rfl⟩
              have := HM.out
              unfold Pl.sgnN at this
              repeat' split at this
              all_goals omega
          · have z1 : ((c : Int) == 224) = false := beq_eq_false_iff_ne.2 (by omega)
            have z2 : ((c : Int) == 237) = false := beq_eq_false_iff_ne.2 (by omega)
            have z3 : ((c : Int) == 240) = false := beq_eq_false_iff_ne.2 (by omega)
            have z4 : ((c : Int) == 244) = false := beq_eq_false_iff_ne.2 (by omega)
            go_wp2
            go_ret
            refine ⟨Sz.ret ?_, rfl⟩
            have := HM.out
            unfold Pl.sgnN at this
            repeat' split at this
            all_goals omega
  · have r1 : decide ((s.size : Int) < (i : Int) + 3) = true := decide_eq_true (by omega)
    go_enter Tryd.func17, Tryd.ntmps17
    go_wp2
    go_ret
    refine ⟨Sz.ret ?_, rfl⟩
    have := HM.out
    unfold Pl.sgnN at this
    repeat' split at this
    all_goals omega

set_option maxRecDepth 100000 in
set_option maxHeartbeats 4000000 in
theorem Sz.class4 (s : ByteArray) (i : Nat) (hi : i < s.size) (hs : s.size ≤ 4611686018427387904) (w : World) (c m : Nat) (e0 : s[i].toNat = c) (hlo : 240 ≤ c) (hhi : c < 245)
    (HM : Hid (m = Pl.sgnN (s.size - i) c (Pl.nb (s.data.toList.drop i) 1) (Pl.nb (s.data.toList.drop i) 2) (Pl.nb (s.data.toList.drop i) 3))) :
    Calls Tryd.prog 17 #[.string s, .int .i64 (i : Int)] w fun e w' => e = .returned (.int .i64 (m : Int)) ∧ w' = w := by
  have g0 : decide ((c : Int) < 128) = false := decide_eq_false (by omega)
  have g1 : decide ((194 : Int) ≤ (c : Int)) = true := decide_eq_true (by omega)
  have g2 : decide ((c : Int) ≤ 223) = false := decide_eq_false (by omega)
  have g3 : decide ((224 : Int) ≤ (c : Int)) = true := decide_eq_true (by omega)
  have g4 : decide ((c : Int) ≤ 239) = false := decide_eq_false (by omega)
  have g5 : decide ((240 : Int) ≤ (c : Int)) = true := decide_eq_true (by omega)
  have g6 : decide ((c : Int) ≤ 244) = true := decide_eq_true (by omega)
  by_cases room : i + 4 ≤ s.size
  · have r1 : decide ((s.size : Int) < (i : Int) + 4) = false := decide_eq_false (by omega)
    go_enter Tryd.func17, Tryd.ntmps17
    go_wp2
    go_loop [7] (fun j => ∃ n : Nat, 1 ≤ n ∧ n ≤ 4 ∧ j = .int .i64 n ∧ ∀ q, 1 ≤ q → q < n → 128 ≤ Pl.nb (s.data.toList.drop i) q ∧ Pl.nb (s.data.toList.drop i) q ≤ 191) (fun j => 4 - (intOf j).toNat)
    case atStart => exact ⟨1, by omega, by omega, rfl, fun q h1 h2 => by omega⟩
    case round =>
      obtain ⟨n, hn1, hn2, rfl, hall⟩ := hrel
      have HA : Hid (∀ q, 1 ≤ q → q < n → 128 ≤ Pl.nb (s.data.toList.drop i) q ∧ Pl.nb (s.data.toList.drop i) q ≤ 191) := hall
      clear hall
      by_cases hj : n < 4
      · have en := (Sz.nb_at s i n (by omega)).symm
        obtain ⟨v, hv⟩ : ∃ v, Pl.nb (s.data.toList.drop i) n = v := ⟨_, rfl⟩
        rw [hv] at en
        have HV : Hid (Pl.nb (s.data.toList.drop i) n = v) := hv
        clear hv
        by_cases v1 : v < 128
        · have f1 : decide ((v : Int) < 128) = true := decide_eq_true (by omega)
          go_wp2
          go_ret
          refine ⟨Sz.ret ?_, rfl⟩
          have h1 := HM.out
          have h2 := HV.out
          have hcase : n = 1 ∨ n = 2 ∨ n = 3 := by omega
          unfold Pl.sgnN at h1
          rcases hcase with rfl | rfl | rfl <;> (repeat' split at h1) <;> omega
        · have f1 : decide ((v : Int) < 128) = false := decide_eq_false (by omega)
          by_cases v2 : 191 < v
          · have f2 : decide ((191 : Int) < (v : Int)) = true := decide_eq_true (by omega)
            go_wp2
            go_ret
            refine ⟨Sz.ret ?_, rfl⟩
            have h1 := HM.out
            have h2 := HV.out
            have hcase : n = 1 ∨ n = 2 ∨ n = 3 := by omega
            unfold Pl.sgnN at h1
            rcases hcase with rfl | rfl | rfl <;> (repeat' split at h1) <;> omega
          · have f2 : decide ((191 : Int) < (v : Int)) = false := decide_eq_false (by omega)
            go_wp2
            go_round
            case rel => exact ⟨n + 1, by omega, by omega, by go_num, Sz.cont_end (P := fun q => 128 ≤ Pl.nb (s.data.toList.drop i) q ∧ Pl.nb (s.data.toList.drop i) q ≤ 191) HA.out (by rw [HV.out]; omega)⟩
            case measure => simp [intOf]; omega
      · have hn : n = 4 := by omega
        subst hn
        have e1 := (Sz.nb_at s i 1 (by omega)).symm
        have a1 := HA.out 1 (by omega) (by omega)
        have a2 := HA.out 2 (by omega) (by omega)
        have a3 := HA.out 3 (by omega) (by omega)
        clear HA
        generalize Pl.nb (s.data.toList.drop i) 1 = p1 at *
        generalize Pl.nb (s.data.toList.drop i) 2 = p2 at *
        generalize Pl.nb (s.data.toList.drop i) 3 = p3 at *
        by_cases t1 : c = 240
        · by_cases u1 : p1 < 144
          · have z1 : ((c : Int) == 224) = false := beq_eq_false_iff_ne.2 (by omega)
            have z2 : ((c : Int) == 237) = false := beq_eq_false_iff_ne.2 (by omega)
            have z3 : ((c : Int) == 240) = true := beq_iff_eq.2 (by omega)
            have z4 : ((c : Int) == 244) = false := beq_eq_false_iff_ne.2 (by omega)
            have y1 : decide ((p1 : Int) < 144) = true := decide_eq_true (by omega)
            go_wp2
            go_ret
            refine ⟨Sz.ret ?_, rfl⟩
            have := HM.out
            unfold Pl.sgnN at this
            repeat' split at this
            all_goals omega
          · have z1 : ((c : Int) == 224) = false := beq_eq_false_iff_ne.2 (by omega)
            have z2 : ((c : Int) == 237) = false := beq_eq_false_iff_ne.2 (by omega)
            have z3 : ((c : Int) == 240) = true := beq_iff_eq.2 (by omega)
            have z4 : ((c : Int) == 244) = false := beq_eq_false_iff_ne.2 (by omega)
            have y1 : decide ((p1 : Int) < 144) = false := decide_eq_false (by omega)
            go_wp2
            go_ret
            refine ⟨Sz.ret ?_, rfl⟩
            have := HM.out
            unfold Pl.sgnN at this
            repeat' split at this
            all_goals omega
        · by_cases t2 : c = 244
          · by_cases u2 : 143 < p1
            · have z1 : ((c : Int) == 224) = false := beq_eq_false_iff_ne.2 (by omega)
              have z2 : ((c : Int) == 237) = false := beq_eq_false_iff_ne.2 (by omega)
              have z3 : ((c : Int) == 240) = false := beq_eq_false_iff_ne.2 (by omega)
              have z4 : ((c : Int) == 244) = true := beq_iff_eq.2 (by omega)
              have y1 : decide ((143 : Int) < (p1 : Int)) = true := decide_eq_true (by omega)
              go_wp2
              go_ret
              refine ⟨Sz.ret ?_, rfl⟩
              have := HM.out
              unfold Pl.sgnN at this
              repeat' split at this
              all_goals omega
            · have z1 : ((c : Int) == 224) = false := beq_eq_false_iff_ne.2 (by omega)
              have z2 : ((c : Int) == 237) = false := beq_eq_false_iff_ne.2 (by omega)
              have z3 : ((c : Int) == 240) = false := beq_eq_false_iff_ne.2 (by omega)
              have z4 : ((c : Int) == 244) = true := beq_iff_eq.2 (by omega)
              have y1 : decide ((143 : Int) < (p1 : Int)) = false := decide_eq_false (by omega)
              go_wp2
              go_ret
              refine ⟨Sz.ret ?_, rfl⟩
              have := HM.out
              unfold Pl.sgnN at this
              repeat' split at this
              all_goals omega
          · have z1 : ((c : Int) == 224) = false := beq_eq_false_iff_ne.2 (by omega)
            have z2 : ((c : Int) == 237) = false := beq_eq_false_iff_ne.2 (by omega)
            have z3 : ((c : Int) == 240) = false := beq_eq_false_iff_ne.2 (by omega)
            have z4 : ((c : Int) == 244) = false := beq_eq_false_iff_ne.2 (by omega)
            go_wp2
            go_ret
            refine ⟨Sz.ret ?_, rfl⟩
            have := HM.out
            unfold Pl.sgnN at this
            repeat' split at this
            all_goals omega
  · have r1 : decide ((s.size : Int) < (i : Int) + 4) = true := decide_eq_true (by omega)
    go_enter Tryd.func17, Tryd.ntmps17
    go_wp2
    go_ret
    refine ⟨Sz.ret ?_, rfl⟩
    have := HM.out
    unfold Pl.sgnN at this
    repeat' split at this
    all_goals omega

set_option maxRecDepth 100000 in
set_option maxHeartbeats 1000000 in
theorem Sz.size (s : ByteArray) (i : Nat) (hi : i < s.size) (hs : s.size ≤ 4611686018427387904) (w : World) :
    Calls Tryd.prog 17 #[.string s, .int .i64 (i : Int)] w fun e w' => e = .returned (.int .i64 (Pl.siz (s.data.toList.drop i) : Nat)) ∧ w' = w := by
  have hn : (s.data.toList.drop i).length = s.size - i := by rw [List.length_drop, Wk.len_data]
  have h0 := Sz.nb_at s i 0 (by omega)
  have hm : Pl.siz (s.data.toList.drop i) = if Pl.nb (s.data.toList.drop i) 0 = 0 then 1 else Pl.sgnN (s.size - i) (Pl.nb (s.data.toList.drop i) 0) (Pl.nb (s.data.toList.drop i) 1) (Pl.nb (s.data.toList.drop i) 2) (Pl.nb (s.data.toList.drop i) 3) := by
    unfold Pl.siz Pl.sgn; rw [hn]
  generalize Pl.siz (s.data.toList.drop i) = m at *
  have hlt := Pl.nb_lt (s.data.toList.drop i) 0
  have e0 : s[i].toNat = Pl.nb (s.data.toList.drop i) 0 := h0.symm
  generalize Pl.nb (s.data.toList.drop i) 0 = c at *
  have HM : Hid (m = if c = 0 then 1 else Pl.sgnN (s.size - i) c (Pl.nb (s.data.toList.drop i) 1) (Pl.nb (s.data.toList.drop i) 2) (Pl.nb (s.data.toList.drop i) 3)) := hm
  clear hm h0 hn
  by_cases c1 : c < 128
  · have d1 : decide ((c : Int) < 128) = true := decide_eq_true (by omega)
    go_enter Tryd.func17, Tryd.ntmps17
    go_wp2
    go_ret
    refine ⟨Sz.ret ?_, rfl⟩
    have := HM.out
    unfold Pl.sgnN at this
    repeat' split at this
    all_goals omega
  have HN : Hid (m = Pl.sgnN (s.size - i) c (Pl.nb (s.data.toList.drop i) 1) (Pl.nb (s.data.toList.drop i) 2) (Pl.nb (s.data.toList.drop i) 3)) := by
    have := HM.out
    rw [if_neg (by omega)] at this
    exact this
  clear HM
  by_cases c2 : c < 194
  · have d1 : decide ((c : Int) < 128) = false := decide_eq_false (by omega)
    have d2 : decide ((194 : Int) ≤ (c : Int)) = false := decide_eq_false (by omega)
    have d3 : decide ((224 : Int) ≤ (c : Int)) = false := decide_eq_false (by omega)
    have d4 : decide ((240 : Int) ≤ (c : Int)) = false := decide_eq_false (by omega)
    go_enter Tryd.func17, Tryd.ntmps17
    go_wp2
    go_ret
    refine ⟨Sz.ret ?_, rfl⟩
    have := HN.out
    unfold Pl.sgnN at this
    repeat' split at this
    all_goals omega
  by_cases c3 : c < 224
  · exact Sz.class2 s i hi hs w c m e0 (by omega) c3 HN
  by_cases c4 : c < 240
  · exact Sz.class3 s i hi hs w c m e0 (by omega) c4 HN
  by_cases c5 : c < 245
  · exact Sz.class4 s i hi hs w c m e0 (by omega) c5 HN
  have d1 : decide ((c : Int) < 128) = false := decide_eq_false (by omega)
  have d2 : decide ((194 : Int) ≤ (c : Int)) = true := decide_eq_true (by omega)
  have d3 : decide ((c : Int) ≤ 223) = false := decide_eq_false (by omega)
  have d4 : decide ((224 : Int) ≤ (c : Int)) = true := decide_eq_true (by omega)
  have d5 : decide ((c : Int) ≤ 239) = false := decide_eq_false (by omega)
  have d6 : decide ((240 : Int) ≤ (c : Int)) = true := decide_eq_true (by omega)
  have d7 : decide ((c : Int) ≤ 244) = false := decide_eq_false (by omega)
  go_enter Tryd.func17, Tryd.ntmps17
  go_wp2
  go_ret
  refine ⟨Sz.ret ?_, rfl⟩
  have := HN.out
  unfold Pl.sgnN at this
  repeat' split at this
  all_goals omega

/-- what the two tests behind Size ask, together -/
theorem Sz.both (l : List UInt8) : (Pl.siz l = 0 ∨ Pl.nb l 0 = 0) ↔ Pl.sgn l = 0 := by
  unfold Pl.siz
  constructor
  · rintro (h | h)
    · split at h
      · omega
      · exact h
    · unfold Pl.sgn Pl.sgnN; rw [if_pos h]
  · intro h
    by_cases h0 : Pl.nb l 0 = 0
    · exact .inr h0
    · left; rw [if_neg h0]; exact h
theorem Sz.same (l : List UInt8) (h : Pl.sgn l ≠ 0) : Pl.siz l = Pl.sgn l := by
  unfold Pl.siz
  by_cases h0 : Pl.nb l 0 = 0
  · exact absurd ((Sz.both l).1 (.inr h0)) h
  · rw [if_neg h0]

theorem Sz.low (c : UInt8) (w : World) :
    Calls Tryd.prog 16 #[.int .u8 c.toNat] w fun e w' => e = .returned (.int .u8 (Pl.lowB c).toNat) ∧ w' = w := by
  have hc := c.toNat_lt
  have hl := Pl.lowB_toNat c
  generalize (Pl.lowB c).toNat = m at *
  generalize c.toNat = k at *
  by_cases h1 : 65 ≤ k
  · by_cases h2 : k ≤ 90
    · rw [if_pos ⟨h1, h2⟩] at hl
      subst hl
      go_enter Tryd.func16, Tryd.ntmps16
      go_wp2
      go_ret
      exact ⟨by simp, rfl⟩
    · rw [if_neg (by omega)] at hl
      subst hl
      go_enter Tryd.func16, Tryd.ntmps16
      go_wp2
      go_ret
      exact ⟨rfl, rfl⟩
  · rw [if_neg (by omega)] at hl
    subst hl
    go_enter Tryd.func16, Tryd.ntmps16
    go_wp2
    go_ret
    exact ⟨rfl, rfl⟩

end Go.Proofs.YtiajclmhimkpnaaDoor

/-
  THE WALK of stolelaw12.FilterBytes: it returns true.
-/
import Derived.Test.YtbhmepedegbgjaaFAw
import Derived.Deep.Cut
namespace Go.Proofs.Ytbhmepedegbgjaa
open Go.RowKit
theorem Fb.conv {w : World} {g n : Nat} {cs : Array Value} (l : List UInt8) (h : Bs.Box w g cs 5) (hn : l.length = n) (hc : ∀ (j : Nat) (c : UInt8), l[j]? = some c → cs[j]? = some (Value.int .u8 (c.toNat : Int))) : (convert 25 9 (.slice (some ⟨g, 0, none⟩) n n)).run Try.prog w = .ok (.string ⟨l.toArray⟩) w := by
  subst hn
  exact run_convert_bytes_back (P := Try.prog) w 25 9 5 ⟨g, 0, none⟩ l.length l Try.underlying25 Try.underlying5 Try.underlying9 (fun j hj => by
    rw [Addr.add_lit, Nat.zero_add]
    exact h.cell j (hc j _ (List.getElem?_eq_getElem hj)))
theorem Fb.and8 (x : Int) : ∃ K : UInt8, Go.bits .and .i64 x 255 = (K.toNat : Int) := by
  have hm : (BitVec.ofInt 64 255).toNat = 2 ^ 8 - 1 := by decide
  have key : (BitVec.ofInt 64 x &&& BitVec.ofInt 64 255).toNat = (x % ((2 ^ 64 : Nat) : Int)).toNat % 2 ^ 8 := by
    rw [BitVec.toNat_and, BitVec.toNat_ofInt, hm, Nat.and_two_pow_sub_one_eq_mod]
  have h : Go.bits .and .i64 x 255 = x % 256 := by
    show IntKind.i64.wrap ((BitVec.ofInt 64 x &&& BitVec.ofInt 64 255).toNat : Nat) = x % 256
    rw [key, IntKind.wrap_i64]
    omega
  have e : (UInt8.ofNat (x % 256).toNat).toNat = (x % 256).toNat := by
    rw [UInt8.toNat_ofNat']
    omega
  exact ⟨UInt8.ofNat (x % 256).toNat, by rw [h, e]; omega⟩
theorem Fb.ok (K : UInt8) : Cf.ok K = decide ((48 ≤ K.toNat ∧ K.toNat ≤ 57) ∨ (65 ≤ K.toNat ∧ K.toNat ≤ 90) ∨ (97 ≤ K.toNat ∧ K.toNat ≤ 122) ∨ K.toNat = 32 ∨ K.toNat = 35 ∨ K.toNat = 37 ∨ K.toNat = 46 ∨ K.toNat = 44 ∨ K.toNat = 45) :=
  eq_of_beq (Ug.all (p := fun K => Cf.ok K == decide ((48 ≤ K.toNat ∧ K.toNat ≤ 57) ∨ (65 ≤ K.toNat ∧ K.toNat ≤ 90) ∨ (97 ≤ K.toNat ∧ K.toNat ≤ 122) ∨ K.toNat = 32 ∨ K.toNat = 35 ∨ K.toNat = 37 ∨ K.toNat = 46 ∨ K.toNat = 44 ∨ K.toNat = 45)) (by decide +kernel) K)
theorem Fb.all1 (K : UInt8) : Cf.all ((⟨#[49]⟩ : ByteArray) ++ ⟨#[K]⟩ ++ ⟨#[112, 120]⟩) = Cf.ok K := by
  rw [Cf.all_append, Cf.all_append, show Cf.all ⟨#[49]⟩ = true by decide, show Cf.all ⟨#[112, 120]⟩ = true by decide]
  show (true && (Cf.ok K && true) && true) = Cf.ok K
  simp
theorem Fb.all2 (s : ByteArray) (K : UInt8) : Cf.all (s ++ ⟨#[K]⟩) = (Cf.all s && Cf.ok K) := by
  rw [Cf.all_append]
  show (Cf.all s && (Cf.ok K && true)) = _
  simp
set_option maxRecDepth 100000 in
set_option maxHeartbeats 4000000 in
theorem Law.filterBytes (c : Int) (s : ByteArray) (w : World) (hs : s.size ≤ 140737488355328) : Calls Try.prog 4 #[.int .i64 c, .string s] w fun e w' => e = .returned (.bool true) ∧ Below w.heap.size w w' := by
  obtain ⟨K, hK⟩ := Fb.and8 c
  have hz : (s ++ ⟨#[K]⟩).size = s.size + 1 := ByteArray.size_append
  have c1 := fun u => Cp.filter (⟨#[49]⟩ ++ ⟨#[K]⟩ ++ ⟨#[112, 120]⟩) u (by show 4 ≤ _; decide)
  have c2 := fun u => Cp.filter (s ++ ⟨#[K]⟩) u (by omega)
  have HA1 := Lib.hid (Fb.all1 K)
  have HA2 := Lib.hid (Fb.all2 s K)
  have aw := fun u => Fa.awake u
  have er := fun u => Fa.errno 0 u
  have k8 : (K.toNat : Int) % 256 = (K.toNat : Int) := by have := K.toNat_lt; omega
  have cv := fun (W : World) => Fb.conv (n := 1) [K] (Bs.Box.new W #[.int .u8 (K.toNat : Int)] 5 _ rfl) rfl (fun j c hc => by
    match j, hc with
    | 0, hc =>
      injection hc with hc
      rw [← hc]
      rfl)
  obtain ⟨P0, hP0⟩ : ∃ P0 : Bool, P0 = Cf.ok K := ⟨_, rfl⟩
  have HP0 : Hid (P0 = decide ((48 ≤ K.toNat ∧ K.toNat ≤ 57) ∨ (65 ≤ K.toNat ∧ K.toNat ≤ 90) ∨ (97 ≤ K.toNat ∧ K.toNat ≤ 122) ∨ K.toNat = 32 ∨ K.toNat = 35 ∨ K.toNat = 37 ∨ K.toNat = 46 ∨ K.toNat = 44 ∨ K.toNat = 45)) := hP0.trans (Fb.ok K)
  rw [← hP0] at HA1 HA2
  clear hP0
  go_enter Try.func4, Try.ntmps4
  go_upto_region 5 with (first | (go_at_call 7; refine (aw _).mono ?_; rintro e w1 ⟨rfl, b1⟩; have B1 := Lib.hid b1; clear b1 aw))
  have B2 := Lib.hid (B1.out.alloc B1.out.size (.cells #[.int .u8 (K.toNat : Int)] 5))
  clear cv B1
  generalize w1.alloc (.cells #[.int .u8 (K.toNat : Int)] 5) = w2 at *
  go_cut [7] from 18 (fun pv wx => pv = .bool P0 ∧ wx = w2)
  case first =>
    clear c1 c2 HA1 HA2 er
    have hr : (K.toNat < 48 ∧ K.toNat ≠ 32 ∧ K.toNat ≠ 35 ∧ K.toNat ≠ 37 ∧ K.toNat ≠ 46 ∧ K.toNat ≠ 44 ∧ K.toNat ≠ 45) ∨ ((48 ≤ K.toNat ∧ K.toNat ≤ 57)) ∨ ((58 ≤ K.toNat ∧ K.toNat < 65)) ∨ ((65 ≤ K.toNat ∧ K.toNat ≤ 90)) ∨ ((91 ≤ K.toNat ∧ K.toNat < 97)) ∨ ((97 ≤ K.toNat ∧ K.toNat ≤ 122)) ∨ (123 ≤ K.toNat) ∨ (K.toNat = 32) ∨ (K.toNat = 35) ∨ (K.toNat = 37) ∨ (K.toNat = 46) ∨ (K.toNat = 44) ∨ (K.toNat = 45) := by omega
    rcases hr with hr | hr | hr | hr | hr | hr | hr | hr | hr | hr | hr | hr | hr
    · have g48 : decide ((48 : Int) ≤ (K.toNat : Int)) = false := decide_eq_false (by omega)
      have gn48 : decide (48 ≤ K.toNat) = false := decide_eq_false (by omega)
      have g65 : decide ((65 : Int) ≤ (K.toNat : Int)) = false := decide_eq_false (by omega)
      have gn65 : decide (65 ≤ K.toNat) = false := decide_eq_false (by omega)
      have g97 : decide ((97 : Int) ≤ (K.toNat : Int)) = false := decide_eq_false (by omega)
      have gn97 : decide (97 ≤ K.toNat) = false := decide_eq_false (by omega)
      have l57 : decide ((K.toNat : Int) ≤ 57) = true := decide_eq_true (by omega)
      have ln57 : decide (K.toNat ≤ 57) = true := decide_eq_true (by omega)
      have l90 : decide ((K.toNat : Int) ≤ 90) = true := decide_eq_true (by omega)
      have ln90 : decide (K.toNat ≤ 90) = true := decide_eq_true (by omega)
      have l122 : decide ((K.toNat : Int) ≤ 122) = true := decide_eq_true (by omega)
      have ln122 : decide (K.toNat ≤ 122) = true := decide_eq_true (by omega)
      have e32 : ((K.toNat : Int) == 32) = false := beq_eq_false_iff_ne.2 (by omega)
      have e35 : ((K.toNat : Int) == 35) = false := beq_eq_false_iff_ne.2 (by omega)
      have e37 : ((K.toNat : Int) == 37) = false := beq_eq_false_iff_ne.2 (by omega)
      have e46 : ((K.toNat : Int) == 46) = false := beq_eq_false_iff_ne.2 (by omega)
      have e44 : ((K.toNat : Int) == 44) = false := beq_eq_false_iff_ne.2 (by omega)
      have e45 : ((K.toNat : Int) == 45) = false := beq_eq_false_iff_ne.2 (by omega)
      have HP : Hid (P0 = false) := by unfold Hid; rw [HP0.out]; exact decide_eq_false (by omega)
      clear hr
      go_wp2_with fail
      go_meet
      case rel => exact ⟨by rw [HP.out], by first | rfl | trivial⟩
    · have g48 : decide ((48 : Int) ≤ (K.toNat : Int)) = true := decide_eq_true (by omega)
      have gn48 : decide (48 ≤ K.toNat) = true := decide_eq_true (by omega)
      have g65 : decide ((65 : Int) ≤ (K.toNat : Int)) = false := decide_eq_false (by omega)
      have gn65 : decide (65 ≤ K.toNat) = false := decide_eq_false (by omega)
      have g97 : decide ((97 : Int) ≤ (K.toNat : Int)) = false := decide_eq_false (by omega)
      have gn97 : decide (97 ≤ K.toNat) = false := decide_eq_false (by omega)
      have l57 : decide ((K.toNat : Int) ≤ 57) = true := decide_eq_true (by omega)
      have ln57 : decide (K.toNat ≤ 57) = true := decide_eq_true (by omega)
      have l90 : decide ((K.toNat : Int) ≤ 90) = true := decide_eq_true (by omega)
      have ln90 : decide (K.toNat ≤ 90) = true := decide_eq_true (by omega)
      have l122 : decide ((K.toNat : Int) ≤ 122) = true := decide_eq_true (by omega)
      have ln122 : decide (K.toNat ≤ 122) = true := decide_eq_true (by omega)
      have e32 : ((K.toNat : Int) == 32) = false := beq_eq_false_iff_ne.2 (by omega)
      have e35 : ((K.toNat : Int) == 35) = false := beq_eq_false_iff_ne.2 (by omega)
      have e37 : ((K.toNat : Int) == 37) = false := beq_eq_false_iff_ne.2 (by omega)
      have e46 : ((K.toNat : Int) == 46) = false := beq_eq_false_iff_ne.2 (by omega)
      have e44 : ((K.toNat : Int) == 44) = false := beq_eq_false_iff_ne.2 (by omega)
      have e45 : ((K.toNat : Int) == 45) = false := beq_eq_false_iff_ne.2 (by omega)
      have HP : Hid (P0 = true) := by unfold Hid; rw [HP0.out]; exact decide_eq_true (by omega)
      clear hr
      go_wp2_with fail
      go_meet
      case rel => exact ⟨by rw [HP.out], by first | rfl | trivial⟩
    · have g48 : decide ((48 : Int) ≤ (K.toNat : Int)) = true := decide_eq_true (by omega)
      have gn48 : decide (48 ≤ K.toNat) = true := decide_eq_true (by omega)
      have g65 : decide ((65 : Int) ≤ (K.toNat : Int)) = false := decide_eq_false (by omega)
      have gn65 : decide (65 ≤ K.toNat) = false := decide_eq_false (by omega)
      have g97 : decide ((97 : Int) ≤ (K.toNat : Int)) = false := decide_eq_false (by omega)
      have gn97 : decide (97 ≤ K.toNat) = false := decide_eq_false (by omega)
      have l57 : decide ((K.toNat : Int) ≤ 57) = false := decide_eq_false (by omega)
      have ln57 : decide (K.toNat ≤ 57) = false := decide_eq_false (by omega)
      have l90 : decide ((K.toNat : Int) ≤ 90) = true := decide_eq_true (by omega)
      have ln90 : decide (K.toNat ≤ 90) = true := decide_eq_true (by omega)
      have l122 : decide ((K.toNat : Int) ≤ 122) = true := decide_eq_true (by omega)
      have ln122 : decide (K.toNat ≤ 122) = true := decide_eq_true (by omega)
      have e32 : ((K.toNat : Int) == 32) = false := beq_eq_false_iff_ne.2 (by omega)
      have e35 : ((K.toNat : Int) == 35) = false := beq_eq_false_iff_ne.2 (by omega)
      have e37 : ((K.toNat : Int) == 37) = false := beq_eq_false_iff_ne.2 (by omega)
      have e46 : ((K.toNat : Int) == 46) = false := beq_eq_false_iff_ne.2 (by omega)
      have e44 : ((K.toNat : Int) == 44) = false := beq_eq_false_iff_ne.2 (by omega)
      have e45 : ((K.toNat : Int) == 45) = false := beq_eq_false_iff_ne.2 (by omega)
      have HP : Hid (P0 = false) := by unfold Hid; rw [HP0.out]; exact decide_eq_false (by omega)
      clear hr
      go_wp2_with fail
      go_meet
      case rel => exact ⟨by rw [HP.out], by first | rfl | trivial⟩
    · have g48 : decide ((48 : Int) ≤ (K.toNat : Int)) = true := decide_eq_true (by omega)
      have gn48 : decide (48 ≤ K.toNat) = true := decide_eq_true (by omega)
      have g65 : decide ((65 : Int) ≤ (K.toNat : Int)) = true := decide_eq_true (by omega)
      have gn65 : decide (65 ≤ K.toNat) = true := decide_eq_true (by omega)
      have g97 : decide ((97 : Int) ≤ (K.toNat : Int)) = false := decide_eq_false (by omega)
      have gn97 : decide (97 ≤ K.toNat) = false := decide_eq_false (by omega)
      have l57 : decide ((K.toNat : Int) ≤ 57) = false := decide_eq_false (by omega)
      have ln57 : decide (K.toNat ≤ 57) = false := decide_eq_false (by omega)
      have l90 : decide ((K.toNat : Int) ≤ 90) = true := decide_eq_true (by omega)
      have ln90 : decide (K.toNat ≤ 90) = true := decide_eq_true (by omega)
      have l122 : decide ((K.toNat : Int) ≤ 122) = true := decide_eq_true (by omega)
      have ln122 : decide (K.toNat ≤ 122) = true := decide_eq_true (by omega)
      have e32 : ((K.toNat : Int) == 32) = false := beq_eq_false_iff_ne.2 (by omega)
      have e35 : ((K.toNat : Int) == 35) = false := beq_eq_false_iff_ne.2 (by omega)
      have e37 : ((K.toNat : Int) == 37) = false := beq_eq_false_iff_ne.2 (by omega)
      have e46 : ((K.toNat : Int) == 46) = false := beq_eq_false_iff_ne.2 (by omega)
      have e44 : ((K.toNat : Int) == 44) = false := beq_eq_false_iff_ne.2 (by omega)
      have e45 : ((K.toNat : Int) == 45) = false := beq_eq_false_iff_ne.2 (by omega)
      have HP : Hid (P0 = true) := by unfold Hid; rw [HP0.out]; exact decide_eq_true (by omega)
      clear hr
      go_wp2_with fail
      go_meet
      case rel => exact ⟨by rw [HP.out], by first | rfl | trivial⟩
    · have g48 : decide ((48 : Int) ≤ (K.toNat : Int)) = true := decide_eq_true (by omega)
      have gn48 : decide (48 ≤ K.toNat) = true := decide_eq_true (by omega)
      have g65 : decide ((65 : Int) ≤ (K.toNat : Int)) = true := decide_eq_true (by omega)
      have gn65 : decide (65 ≤ K.toNat) = true := decide_eq_true (by omega)
      have g97 : decide ((97 : Int) ≤ (K.toNat : Int)) = false := decide_eq_false (by omega)
      have gn97 : decide (97 ≤ K.toNat) = false := decide_eq_false (by omega)
      have l57 : decide ((K.toNat : Int) ≤ 57) = false := decide_eq_false (by omega)
      have ln57 : decide (K.toNat ≤ 57) = false := decide_eq_false (by omega)
      have l90 : decide ((K.toNat : Int) ≤ 90) = false := decide_eq_false (by omega)
      have ln90 : decide (K.toNat ≤ 90) = false := decide_eq_false (by omega)
      have l122 : decide ((K.toNat : Int) ≤ 122) = true := decide_eq_true (by omega)
      have ln122 : decide (K.toNat ≤ 122) = true := decide_eq_true (by omega)
      have e32 : ((K.toNat : Int) == 32) = false := beq_eq_false_iff_ne.2 (by omega)
      have e35 : ((K.toNat : Int) == 35) = false := beq_eq_false_iff_ne.2 (by omega)
      have e37 : ((K.toNat : Int) == 37) = false := beq_eq_false_iff_ne.2 (by omega)
      have e46 : ((K.toNat : Int) == 46) = false := beq_eq_false_iff_ne.2 (by omega)
      have e44 : ((K.toNat : Int) == 44) = false := beq_eq_false_iff_ne.2 (by omega)
      have e45 : ((K.toNat : Int) == 45) = false := beq_eq_false_iff_ne.2 (by omega)
      have HP : Hid (P0 = false) := by unfold Hid; rw [HP0.out]; exact decide_eq_false (by omega)
      clear hr
      go_wp2_with fail
      go_meet
      case rel => exact ⟨by rw [HP.out], by first | rfl | trivial⟩
    · have g48 : decide ((48 : Int) ≤ (K.toNat : Int)) = true := decide_eq_true (by omega)
      have gn48 : decide (48 ≤ K.toNat) = true := decide_eq_true (by omega)
      have g65 : decide ((65 : Int) ≤ (K.toNat : Int)) = true := decide_eq_true (by omega)
      have gn65 : decide (65 ≤ K.toNat) = true := decide_eq_true (by omega)
      have g97 : decide ((97 : Int) ≤ (K.toNat : Int)) = true := decide_eq_true (by omega)
      have gn97 : decide (97 ≤ K.toNat) = true := decide_eq_true (by omega)
      have l57 : decide ((K.toNat : Int) ≤ 57) = false := decide_eq_false (by omega)
      have ln57 : decide (K.toNat ≤ 57) = false := decide_eq_false (by omega)
      have l90 : decide ((K.toNat : Int) ≤ 90) = false := decide_eq_false (by omega)
      have ln90 : decide (K.toNat ≤ 90) = false := decide_eq_false (by omega)
      have l122 : decide ((K.toNat : Int) ≤ 122) = true := decide_eq_true (by omega)
      have ln122 : decide (K.toNat ≤ 122) = true := decide_eq_true (by omega)
      have e32 : ((K.toNat : Int) == 32) = false := beq_eq_false_iff_ne.2 (by omega)
      have e35 : ((K.toNat : Int) == 35) = false := beq_eq_false_iff_ne.2 (by omega)
      have e37 : ((K.toNat : Int) == 37) = false := beq_eq_false_iff_ne.2 (by omega)
      have e46 : ((K.toNat : Int) == 46) = false := beq_eq_false_iff_ne.2 (by omega)
      have e44 : ((K.toNat : Int) == 44) = false := beq_eq_false_iff_ne.2 (by omega)
      have e45 : ((K.toNat : Int) == 45) = false := beq_eq_false_iff_ne.2 (by omega)
      have HP : Hid (P0 = true) := by unfold Hid; rw [HP0.out]; exact decide_eq_true (by omega)
      clear hr
      go_wp2_with fail
      go_meet
      case rel => exact ⟨by rw [HP.out], by first | rfl | trivial⟩
    · have g48 : decide ((48 : Int) ≤ (K.toNat : Int)) = true := decide_eq_true (by omega)
      have gn48 : decide (48 ≤ K.toNat) = true := decide_eq_true (by omega)
      have g65 : decide ((65 : Int) ≤ (K.toNat : Int)) = true := decide_eq_true (by omega)
      have gn65 : decide (65 ≤ K.toNat) = true := decide_eq_true (by omega)
      have g97 : decide ((97 : Int) ≤ (K.toNat : Int)) = true := decide_eq_true (by omega)
      have gn97 : decide (97 ≤ K.toNat) = true := decide_eq_true (by omega)
      have l57 : decide ((K.toNat : Int) ≤ 57) = false := decide_eq_false (by omega)
      have ln57 : decide (K.toNat ≤ 57) = false := decide_eq_false (by omega)
      have l90 : decide ((K.toNat : Int) ≤ 90) = false := decide_eq_false (by omega)
      have ln90 : decide (K.toNat ≤ 90) = false := decide_eq_false (by omega)
      have l122 : decide ((K.toNat : Int) ≤ 122) = false := decide_eq_false (by omega)
      have ln122 : decide (K.toNat ≤ 122) = false := decide_eq_false (by omega)
      have e32 : ((K.toNat : Int) == 32) = false := beq_eq_false_iff_ne.2 (by omega)
      have e35 : ((K.toNat : Int) == 35) = false := beq_eq_false_iff_ne.2 (by omega)
      have e37 : ((K.toNat : Int) == 37) = false := beq_eq_false_iff_ne.2 (by omega)
      have e46 : ((K.toNat : Int) == 46) = false := beq_eq_false_iff_ne.2 (by omega)
      have e44 : ((K.toNat : Int) == 44) = false := beq_eq_false_iff_ne.2 (by omega)
      have e45 : ((K.toNat : Int) == 45) = false := beq_eq_false_iff_ne.2 (by omega)
      have HP : Hid (P0 = false) := by unfold Hid; rw [HP0.out]; exact decide_eq_false (by omega)
      clear hr
      go_wp2_with fail
      go_meet
      case rel => exact ⟨by rw [HP.out], by first | rfl | trivial⟩
    · have g48 : decide ((48 : Int) ≤ (K.toNat : Int)) = false := decide_eq_false (by omega)
      have gn48 : decide (48 ≤ K.toNat) = false := decide_eq_false (by omega)
      have g65 : decide ((65 : Int) ≤ (K.toNat : Int)) = false := decide_eq_false (by omega)
      have gn65 : decide (65 ≤ K.toNat) = false := decide_eq_false (by omega)
      have g97 : decide ((97 : Int) ≤ (K.toNat : Int)) = false := decide_eq_false (by omega)
      have gn97 : decide (97 ≤ K.toNat) = false := decide_eq_false (by omega)
      have l57 : decide ((K.toNat : Int) ≤ 57) = true := decide_eq_true (by omega)
      have ln57 : decide (K.toNat ≤ 57) = true := decide_eq_true (by omega)
      have l90 : decide ((K.toNat : Int) ≤ 90) = true := decide_eq_true (by omega)
      have ln90 : decide (K.toNat ≤ 90) = true := decide_eq_true (by omega)
      have l122 : decide ((K.toNat : Int) ≤ 122) = true := decide_eq_true (by omega)
      have ln122 : decide (K.toNat ≤ 122) = true := decide_eq_true (by omega)
      have e32 : ((K.toNat : Int) == 32) = true := beq_iff_eq.2 (by omega)
      have e35 : ((K.toNat : Int) == 35) = false := beq_eq_false_iff_ne.2 (by omega)
      have e37 : ((K.toNat : Int) == 37) = false := beq_eq_false_iff_ne.2 (by omega)
      have e46 : ((K.toNat : Int) == 46) = false := beq_eq_false_iff_ne.2 (by omega)
      have e44 : ((K.toNat : Int) == 44) = false := beq_eq_false_iff_ne.2 (by omega)
      have e45 : ((K.toNat : Int) == 45) = false := beq_eq_false_iff_ne.2 (by omega)
      have HP : Hid (P0 = true) := by unfold Hid; rw [HP0.out]; exact decide_eq_true (by omega)
      clear hr
      go_wp2_with fail
      go_meet
      case rel => exact ⟨by rw [HP.out], by first | rfl | trivial⟩
    · have g48 : decide ((48 : Int) ≤ (K.toNat : Int)) = false := decide_eq_false (by omega)
      have gn48 : decide (48 ≤ K.toNat) = false := decide_eq_false (by omega)
      have g65 : decide ((65 : Int) ≤ (K.toNat : Int)) = false := decide_eq_false (by omega)
      have gn65 : decide (65 ≤ K.toNat) = false := decide_eq_false (by omega)
      have g97 : decide ((97 : Int) ≤ (K.toNat : Int)) = false := decide_eq_false (by omega)
      have gn97 : decide (97 ≤ K.toNat) = false := decide_eq_false (by omega)
      have l57 : decide ((K.toNat : Int) ≤ 57) = true := decide_eq_true (by omega)
      have ln57 : decide (K.toNat ≤ 57) = true := decide_eq_true (by omega)
      have l90 : decide ((K.toNat : Int) ≤ 90) = true := decide_eq_true (by omega)
      have ln90 : decide (K.toNat ≤ 90) = true := decide_eq_true (by omega)
      have l122 : decide ((K.toNat : Int) ≤ 122) = true := decide_eq_true (by omega)
      have ln122 : decide (K.toNat ≤ 122) = true := decide_eq_true (by omega)
      have e32 : ((K.toNat : Int) == 32) = false := beq_eq_false_iff_ne.2 (by omega)
      have e35 : ((K.toNat : Int) == 35) = true := beq_iff_eq.2 (by omega)
      have e37 : ((K.toNat : Int) == 37) = false := beq_eq_false_iff_ne.2 (by omega)
      have e46 : ((K.toNat : Int) == 46) = false := beq_eq_false_iff_ne.2 (by omega)
      have e44 : ((K.toNat : Int) == 44) = false := beq_eq_false_iff_ne.2 (by omega)
      have e45 : ((K.toNat : Int) == 45) = false := beq_eq_false_iff_ne.2 (by omega)
      have HP : Hid (P0 = true) := by unfold Hid; rw [HP0.out]; exact decide_eq_true (by omega)
      clear hr
      go_wp2_with fail
      go_meet
      case rel => exact ⟨by rw [HP.out], by first | rfl | trivial⟩
    · have g48 : decide ((48 : Int) ≤ (K.toNat : Int)) = false := decide_eq_false (by omega)
      have gn48 : decide (48 ≤ K.toNat) = false := decide_eq_false (by omega)
      have g65 : decide ((65 : Int) ≤ (K.toNat : Int)) = false := decide_eq_false (by omega)
      have gn65 : decide (65 ≤ K.toNat) = false := decide_eq_false (by omega)
      have g97 : decide ((97 : Int) ≤ (K.toNat : Int)) = false := decide_eq_false (by omega)
      have gn97 : decide (97 ≤ K.toNat) = false := decide_eq_false (by omega)
      have l57 : decide ((K.toNat : Int) ≤ 57) = true := decide_eq_true (by omega)
      have ln57 : decide (K.toNat ≤ 57) = true := decide_eq_true (by omega)
      have l90 : decide ((K.toNat : Int) ≤ 90) = true := decide_eq_true (by omega)
      have ln90 : decide (K.toNat ≤ 90) = true := decide_eq_true (by omega)
      have l122 : decide ((K.toNat : Int) ≤ 122) = true := decide_eq_true (by omega)
      have ln122 : decide (K.toNat ≤ 122) = true := decide_eq_true (by omega)
      have e32 : ((K.toNat : Int) == 32) = false := beq_eq_false_iff_ne.2 (by omega)
      have e35 : ((K.toNat : Int) == 35) = false := beq_eq_false_iff_ne.2 (by omega)
      have e37 : ((K.toNat : Int) == 37) = true := beq_iff_eq.2 (by omega)
      have e46 : ((K.toNat : Int) == 46) = false := beq_eq_false_iff_ne.2 (by omega)
      have e44 : ((K.toNat : Int) == 44) = false := beq_eq_false_iff_ne.2 (by omega)
      have e45 : ((K.toNat : Int) == 45) = false := beq_eq_false_iff_ne.2 (by omega)
      have HP : Hid (P0 = true) := by unfold Hid; rw [HP0.out]; exact decide_eq_true (by omega)
      clear hr
      go_wp2_with fail
      go_meet
      case rel => exact ⟨by rw [HP.out], by first | rfl | trivial⟩
    · have g48 : decide ((48 : Int) ≤ (K.toNat : Int)) = false := decide_eq_false (by omega)
      have gn48 : decide (48 ≤ K.toNat) = false := decide_eq_false (by omega)
      have g65 : decide ((65 : Int) ≤ (K.toNat : Int)) = false := decide_eq_false (by omega)
      have gn65 : decide (65 ≤ K.toNat) = false := decide_eq_false (by omega)
      have g97 : decide ((97 : Int) ≤ (K.toNat : Int)) = false := decide_eq_false (by omega)
      have gn97 : decide (97 ≤ K.toNat) = false := decide_eq_false (by omega)
      have l57 : decide ((K.toNat : Int) ≤ 57) = true := decide_eq_true (by omega)
      have ln57 : decide (K.toNat ≤ 57) = true := decide_eq_true (by omega)
      have l90 : decide ((K.toNat : Int) ≤ 90) = true := decide_eq_true (by omega)
      have ln90 : decide (K.toNat ≤ 90) = true := decide_eq_true (by omega)
      have l122 : decide ((K.toNat : Int) ≤ 122) = true := decide_eq_true (by omega)
      have ln122 : decide (K.toNat ≤ 122) = true := decide_eq_true (by omega)
      have e32 : ((K.toNat : Int) == 32) = false := beq_eq_false_iff_ne.2 (by omega)
      have e35 : ((K.toNat : Int) == 35) = false := beq_eq_false_iff_ne.2 (by omega)
      have e37 : ((K.toNat : Int) == 37) = false := beq_eq_false_iff_ne.2 (by omega)
      have e46 : ((K.toNat : Int) == 46) = true := beq_iff_eq.2 (by omega)
      have e44 : ((K.toNat : Int) == 44) = false := beq_eq_false_iff_ne.2 (by omega)
      have e45 : ((K.toNat : Int) == 45) = false := beq_eq_false_iff_ne.2 (by omega)
      have HP : Hid (P0 = true) := by unfold Hid; rw [HP0.out]; exact decide_eq_true (by omega)
      clear hr
      go_wp2_with fail
      go_meet
      case rel => exact ⟨by rw [HP.out], by first | rfl | trivial⟩
    · have g48 : decide ((48 : Int) ≤ (K.toNat : Int)) = false := decide_eq_false (by omega)
      have gn48 : decide (48 ≤ K.toNat) = false := decide_eq_false (by omega)
      have g65 : decide ((65 : Int) ≤ (K.toNat : Int)) = false := decide_eq_false (by omega)
      have gn65 : decide (65 ≤ K.toNat) = false := decide_eq_false (by omega)
      have g97 : decide ((97 : Int) ≤ (K.toNat : Int)) = false := decide_eq_false (by omega)
      have gn97 : decide (97 ≤ K.toNat) = false := decide_eq_false (by omega)
      have l57 : decide ((K.toNat : Int) ≤ 57) = true := decide_eq_true (by omega)
      have ln57 : decide (K.toNat ≤ 57) = true := decide_eq_true (by omega)
      have l90 : decide ((K.toNat : Int) ≤ 90) = true := decide_eq_true (by omega)
      have ln90 : decide (K.toNat ≤ 90) = true := decide_eq_true (by omega)
      have l122 : decide ((K.toNat : Int) ≤ 122) = true := decide_eq_true (by omega)
      have ln122 : decide (K.toNat ≤ 122) = true := decide_eq_true (by omega)
      have e32 : ((K.toNat : Int) == 32) = false := beq_eq_false_iff_ne.2 (by omega)
      have e35 : ((K.toNat : Int) == 35) = false := beq_eq_false_iff_ne.2 (by omega)
      have e37 : ((K.toNat : Int) == 37) = false := beq_eq_false_iff_ne.2 (by omega)
      have e46 : ((K.toNat : Int) == 46) = false := beq_eq_false_iff_ne.2 (by omega)
      have e44 : ((K.toNat : Int) == 44) = true := beq_iff_eq.2 (by omega)
      have e45 : ((K.toNat : Int) == 45) = false := beq_eq_false_iff_ne.2 (by omega)
      have HP : Hid (P0 = true) := by unfold Hid; rw [HP0.out]; exact decide_eq_true (by omega)
      clear hr
      go_wp2_with fail
      go_meet
      case rel => exact ⟨by rw [HP.out], by first | rfl | trivial⟩
    · have g48 : decide ((48 : Int) ≤ (K.toNat : Int)) = false := decide_eq_false (by omega)
      have gn48 : decide (48 ≤ K.toNat) = false := decide_eq_false (by omega)
      have g65 : decide ((65 : Int) ≤ (K.toNat : Int)) = false := decide_eq_false (by omega)
      have gn65 : decide (65 ≤ K.toNat) = false := decide_eq_false (by omega)
      have g97 : decide ((97 : Int) ≤ (K.toNat : Int)) = false := decide_eq_false (by omega)
      have gn97 : decide (97 ≤ K.toNat) = false := decide_eq_false (by omega)
      have l57 : decide ((K.toNat : Int) ≤ 57) = true := decide_eq_true (by omega)
      have ln57 : decide (K.toNat ≤ 57) = true := decide_eq_true (by omega)
      have l90 : decide ((K.toNat : Int) ≤ 90) = true := decide_eq_true (by omega)
      have ln90 : decide (K.toNat ≤ 90) = true := decide_eq_true (by omega)
      have l122 : decide ((K.toNat : Int) ≤ 122) = true := decide_eq_true (by omega)
      have ln122 : decide (K.toNat ≤ 122) = true := decide_eq_true (by omega)
      have e32 : ((K.toNat : Int) == 32) = false := beq_eq_false_iff_ne.2 (by omega)
      have e35 : ((K.toNat : Int) == 35) = false := beq_eq_false_iff_ne.2 (by omega)
      have e37 : ((K.toNat : Int) == 37) = false := beq_eq_false_iff_ne.2 (by omega)
      have e46 : ((K.toNat : Int) == 46) = false := beq_eq_false_iff_ne.2 (by omega)
      have e44 : ((K.toNat : Int) == 44) = false := beq_eq_false_iff_ne.2 (by omega)
      have e45 : ((K.toNat : Int) == 45) = true := beq_iff_eq.2 (by omega)
      have HP : Hid (P0 = true) := by unfold Hid; rw [HP0.out]; exact decide_eq_true (by omega)
      clear hr
      go_wp2_with fail
      go_meet
      case rel => exact ⟨by rw [HP.out], by first | rfl | trivial⟩
  case rest =>
    obtain ⟨rfl, hw⟩ := hcut
    have hw := hw.symm
    subst hw
    clear HP0
    cases P0 with
    | true =>
      have e1 := Cf.filt_ok HA1.out
      rw [e1] at c1
      rw [Bool.and_true] at HA2
      cases ha : Cf.all s with
      | true =>
        rw [ha] at HA2
        rw [Cf.filt_ok HA2.out] at c2
        clear HA1 HA2 ha e1
        go_wp2_with (first | (go_at_call 5; refine (c1 _).mono ?_; rintro e w3 ⟨rfl, b3⟩; have B3 := Lib.hid (Wk.below_step B2.out b3); clear b3 c1) | (go_at_call 5; refine (c2 _).mono ?_; rintro e w4 ⟨rfl, b4⟩; have B4 := Lib.hid (Wk.below_step B3.out b4); clear b4 c2) | (go_at_call 8; refine (er _).mono ?_; rintro e w9 ⟨rfl, hw⟩; have hw := hw.symm; subst hw))
        go_ret
        exact ⟨rfl, B4.out⟩
      | false =>
        rw [ha] at HA2
        rw [Cf.filt_bad HA2.out] at c2
        have n1 := Cf.ne_Z HA2.out
        clear HA1 HA2 ha e1
        go_wp2_with (first | (go_at_call 5; refine (c1 _).mono ?_; rintro e w3 ⟨rfl, b3⟩; have B3 := Lib.hid (Wk.below_step B2.out b3); clear b3 c1) | (go_at_call 5; refine (c2 _).mono ?_; rintro e w4 ⟨rfl, b4⟩; have B4 := Lib.hid (Wk.below_step B3.out b4); clear b4 c2) | (go_at_call 8; refine (er _).mono ?_; rintro e w9 ⟨rfl, hw⟩; have hw := hw.symm; subst hw))
        go_ret
        exact ⟨rfl, B4.out⟩
    | false =>
      rw [Bool.and_false] at HA2
      rw [Cf.filt_bad HA1.out] at c1
      rw [Cf.filt_bad HA2.out] at c2
      clear HA1 HA2
      go_wp2_with (first | (go_at_call 5; refine (c1 _).mono ?_; rintro e w3 ⟨rfl, b3⟩; have B3 := Lib.hid (Wk.below_step B2.out b3); clear b3 c1) | (go_at_call 5; refine (c2 _).mono ?_; rintro e w4 ⟨rfl, b4⟩; have B4 := Lib.hid (Wk.below_step B3.out b4); clear b4 c2) | (go_at_call 8; refine (er _).mono ?_; rintro e w9 ⟨rfl, hw⟩; have hw := hw.symm; subst hw))
      go_ret
      exact ⟨rfl, B4.out⟩
end Go.Proofs.Ytbhmepedegbgjaa

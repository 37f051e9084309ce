/-
  THE WALK of stolelaw11.EscapeBytes: it returns true.
-/
import Derived.Test.YtiajclmhimkpnaaDoorBVGettoJBack
import Derived.Test.YtiajclmhimkpnaaDoorBEPlaintoVKit
import Derived.Test.YtiajclmhimkpnaaDoorBJSafetoQRow
import Derived.Deep.Cut
namespace Go.Proofs.YtiajclmhimkpnaaDoor
open Go.RowKit
theorem Jb2.conv {w : World} {g n : Nat} {cs : Array Value} (l : List UInt8) (h : Vm.Has w g (.cells cs 5)) (hn : l.length = n) (hc : ∀ (j : Nat) (c : UInt8), l[j]? = some c → cs[j]? = some (Value.int .u8 (c.toNat : Int))) : (convert 35 9 (.slice (some ⟨g, 0, none⟩) n n)).run Tryd.prog w = .ok (.string ⟨l.toArray⟩) w := by
  subst hn
  exact run_convert_bytes_back (P := Tryd.prog) w 35 9 5 ⟨g, 0, none⟩ l.length l Tryd.underlying35 Tryd.underlying5 Tryd.underlying9 (fun j hj => by
    rw [Addr.add_lit, Nat.zero_add]
    exact h.cell j (hc j _ (List.getElem?_eq_getElem hj)))
theorem Jb2.and7 (x : Int) : ∃ K : UInt8, Go.bits .and .i64 x 127 = (K.toNat : Int) ∧ K.toNat < 128 := by
  have hm : (BitVec.ofInt 64 127).toNat = 2 ^ 7 - 1 := by decide
  have key : (BitVec.ofInt 64 x &&& BitVec.ofInt 64 127).toNat = (x % ((2 ^ 64 : Nat) : Int)).toNat % 2 ^ 7 := by
    rw [BitVec.toNat_and, BitVec.toNat_ofInt, hm, Nat.and_two_pow_sub_one_eq_mod]
  have h : Go.bits .and .i64 x 127 = x % 128 := by
    show IntKind.i64.wrap ((BitVec.ofInt 64 x &&& BitVec.ofInt 64 127).toNat : Nat) = x % 128
    rw [key, IntKind.wrap_i64]
    omega
  have e : (UInt8.ofNat (x % 128).toNat).toNat = (x % 128).toNat := by
    rw [UInt8.toNat_ofNat']
    omega
  exact ⟨UInt8.ofNat (x % 128).toNat, by rw [h, e]; omega, by rw [e]; omega⟩
theorem Jb2.and15 (x : Nat) (h : x < 128) : Go.bits .and .i64 (x : Int) 15 = ((x % 16 : Nat) : Int) := by
  have : ∀ x : Fin 128, Go.bits .and .i64 (x.val : Int) 15 = ((x.val % 16 : Nat) : Int) := by decide +kernel
  exact this ⟨x, h⟩
theorem Jb2.dig (k : Nat) (hk : k < 16) (h : k < (⟨#[48, 49, 50, 51, 52, 53, 54, 55, 56, 57, 97, 98, 99, 100, 101, 102]⟩ : ByteArray).size) : (⟨#[48, 49, 50, 51, 52, 53, 54, 55, 56, 57, 97, 98, 99, 100, 101, 102]⟩ : ByteArray)[k]'h = Js.hex k := by
  have : ∀ k : Fin 16, (⟨#[48, 49, 50, 51, 52, 53, 54, 55, 56, 57, 97, 98, 99, 100, 101, 102]⟩ : ByteArray)[k.val]'(by have := k.isLt; show k.val < 16; exact this) = Js.hex k.val := by decide
  exact this ⟨k, hk⟩
/-- a, the byte, z: as the law tells it -/
theorem Jb2.esc (K : UInt8) (h : K.toNat < 128) : Js.esc [97, K, 122] = if K = 0 then [97, 239, 191, 189, 122] else if Js.stays K = true then [97, K, 122] else [97, 92, 117, 48, 48, Js.hex (K.toNat / 16), Js.hex (K.toNat % 16), 122] := by
  have := Js.all (p := fun K => !decide (K.toNat < 128) || decide (Js.esc [97, K, 122] = if K = 0 then [97, 239, 191, 189, 122] else if Js.stays K = true then [97, K, 122] else [97, 92, 117, 48, 48, Js.hex (K.toNat / 16), Js.hex (K.toNat % 16), 122])) (by decide +kernel) K
  simp only [Bool.or_eq_true, Bool.not_eq_true', decide_eq_false_iff_not, decide_eq_true_eq] at this
  exact this.resolve_left (fun q => q h)
theorem Jb2.stays (K : UInt8) (h : K.toNat < 128) : Js.stays K = (decide (48 ≤ K.toNat ∧ K.toNat ≤ 57 ∨ 65 ≤ K.toNat ∧ K.toNat ≤ 90 ∨ 97 ≤ K.toNat ∧ K.toNat ≤ 122) || Js.signs.contains K) := by
  have := Js.all (p := fun K => !decide (K.toNat < 128) || decide (Js.stays K = (decide (48 ≤ K.toNat ∧ K.toNat ≤ 57 ∨ 65 ≤ K.toNat ∧ K.toNat ≤ 90 ∨ 97 ≤ K.toNat ∧ K.toNat ≤ 122) || Js.signs.contains K))) (by decide +kernel) K
  simp only [Bool.or_eq_true, Bool.not_eq_true', decide_eq_false_iff_not] at this
  exact of_decide_eq_true (this.resolve_left (fun q => q h))
theorem Jb2.next (i : Nat) (hi : i < 26) : ∃ Z : UInt8, (∀ h : i < 26, (⟨#[32, 33, 35, 36, 37, 40, 41, 42, 43, 44, 45, 46, 47, 58, 59, 61, 63, 64, 91, 93, 94, 95, 123, 124, 125, 126]⟩ : ByteArray)[i]'h = Z) ∧ ∀ K : UInt8, (Js.signs.take (i + 1)).contains K = ((Js.signs.take i).contains K || decide (Z = K)) := by
  have hl : i < Js.signs.length := hi
  have h1 : ∀ i : Fin 26, (⟨#[32, 33, 35, 36, 37, 40, 41, 42, 43, 44, 45, 46, 47, 58, 59, 61, 63, 64, 91, 93, 94, 95, 123, 124, 125, 126]⟩ : ByteArray)[i.val]'(by have := i.isLt; show i.val < 26; exact this) = Js.signs[i.val]'(by have := i.isLt; show i.val < 26; exact this) := by decide
  refine ⟨Js.signs[i], fun h => h1 ⟨i, h⟩, fun K => ?_⟩
  rw [Bool.eq_iff_iff, List.take_add_one, List.getElem?_eq_getElem hl]
  simp only [Bool.or_eq_true, List.contains_iff_mem, decide_eq_true_eq, Option.toList_some, List.mem_append, List.mem_singleton]
  exact or_congr Iff.rfl eq_comm
theorem Jb2.eq (c d : UInt8) : ((c.toNat : Int) == (d.toNat : Int)) = decide (c = d) := by
  rw [Bool.eq_iff_iff, beq_iff_eq, decide_eq_true_iff]
  exact ⟨fun q => UInt8.toNat_inj.1 (by omega), fun q => by rw [q]⟩
set_option maxRecDepth 100000 in
set_option maxHeartbeats 4000000 in
theorem Law.escapeBytes (c : Int) (w : World) (hT : Lib.Utf8Tabs 1 2 w) : Calls Tryd.prog 5 #[.int .i64 c] w fun e w' => e = .returned (.bool true) ∧ Below w.heap.size w w' := by
  obtain ⟨K, hK, hK7⟩ := Jb2.and7 c
  obtain ⟨X, hX⟩ : ∃ X : ByteArray, X = ⟨(Js.esc ((⟨#[97]⟩ : ByteArray) ++ ⟨#[K]⟩ ++ ⟨#[122]⟩).data.toList).toArray⟩ := ⟨_, rfl⟩
  have HXE : Hid (X = ⟨(Js.esc [97, K, 122]).toArray⟩) := by
    unfold Hid
    rw [hX]
    congr 3
  have c1 := fun u hu => Je.prog (⟨#[97]⟩ ++ ⟨#[K]⟩ ++ ⟨#[122]⟩) hX u hu (by show 3 ≤ _; decide)
  have HT := Lib.hid hT
  have er := fun u => Vn.errno 0 u
  have k8 : (K.toNat : Int) % 256 = (K.toNat : Int) := by omega
  have cv := fun (W : World) => Jb2.conv (n := 1) [K] (Vm.Has.new W (.cells #[.int .u8 (K.toNat : Int)] 5) _ rfl) rfl (fun j c hc => by
    match j, hc with
    | 0, hc =>
      injection hc with hc
      rw [← hc]
      rfl)
  obtain ⟨P0, hP0⟩ : ∃ P0 : Bool, P0 = decide (48 ≤ K.toNat ∧ K.toNat ≤ 57 ∨ 65 ≤ K.toNat ∧ K.toNat ≤ 90 ∨ 97 ≤ K.toNat ∧ K.toNat ≤ 122) := ⟨_, rfl⟩
  have HP0 := Lib.hid hP0
  clear hX hT hP0
  go_enter Tryd.func5, Tryd.ntmps5
  go_upto_region 6 with (first | (go_at_call 8; refine (Je.awake _ HT.out).mono ?_; rintro e w1 ⟨rfl, b1⟩; have B1 := Lib.hid b1; clear b1) | (go_at_call 6; refine (c1 _ (Utf8Tabs_below HT.out (B1.out.alloc B1.out.size _))).mono ?_; rintro e w2 ⟨rfl, b2⟩; have B2 := Lib.hid (Wk.below_step (B1.out.alloc B1.out.size _) b2); clear b2 c1 B1))
  go_cut [6] from 21 (fun pv wx => pv = .bool P0 ∧ wx = w2)
  case first =>
    have hr : K.toNat < 48 ∨ (48 ≤ K.toNat ∧ K.toNat ≤ 57) ∨ (58 ≤ K.toNat ∧ K.toNat < 65) ∨ (65 ≤ K.toNat ∧ K.toNat ≤ 90) ∨ (91 ≤ K.toNat ∧ K.toNat < 97) ∨ (97 ≤ K.toNat ∧ K.toNat ≤ 122) ∨ 123 ≤ K.toNat := by omega
    clear cv
    rcases hr with hr | hr | hr | hr | hr | hr | hr
    · have g48 : decide ((48 : Int) ≤ (K.toNat : Int)) = false := decide_eq_false (by omega)
      have gn48 : decide (48 ≤ K.toNat) = false := decide_eq_false (by omega)
      have l57 : decide ((K.toNat : Int) ≤ 57) = true := decide_eq_true (by omega)
      have ln57 : decide (K.toNat ≤ 57) = true := decide_eq_true (by omega)
      have g65 : decide ((65 : Int) ≤ (K.toNat : Int)) = false := decide_eq_false (by omega)
      have gn65 : decide (65 ≤ K.toNat) = false := decide_eq_false (by omega)
      have l90 : decide ((K.toNat : Int) ≤ 90) = true := decide_eq_true (by omega)
      have ln90 : decide (K.toNat ≤ 90) = true := decide_eq_true (by omega)
      have g97 : decide ((97 : Int) ≤ (K.toNat : Int)) = false := decide_eq_false (by omega)
      have gn97 : decide (97 ≤ K.toNat) = false := decide_eq_false (by omega)
      have l122 : decide ((K.toNat : Int) ≤ 122) = true := decide_eq_true (by omega)
      have ln122 : decide (K.toNat ≤ 122) = true := decide_eq_true (by omega)
      have HP : Hid (P0 = false) := by unfold Hid; rw [HP0.out]; exact decide_eq_false (by omega)
      clear hr
      go_wp2_with fail
      go_meet
      case rel => exact ⟨by rw [HP.out], by first | rfl | trivial⟩
    · have g48 : decide ((48 : Int) ≤ (K.toNat : Int)) = true := decide_eq_true (by omega)
      have gn48 : decide (48 ≤ K.toNat) = true := decide_eq_true (by omega)
      have l57 : decide ((K.toNat : Int) ≤ 57) = true := decide_eq_true (by omega)
      have ln57 : decide (K.toNat ≤ 57) = true := decide_eq_true (by omega)
      have g65 : decide ((65 : Int) ≤ (K.toNat : Int)) = false := decide_eq_false (by omega)
      have gn65 : decide (65 ≤ K.toNat) = false := decide_eq_false (by omega)
      have l90 : decide ((K.toNat : Int) ≤ 90) = true := decide_eq_true (by omega)
      have ln90 : decide (K.toNat ≤ 90) = true := decide_eq_true (by omega)
      have g97 : decide ((97 : Int) ≤ (K.toNat : Int)) = false := decide_eq_false (by omega)
      have gn97 : decide (97 ≤ K.toNat) = false := decide_eq_false (by omega)
      have l122 : decide ((K.toNat : Int) ≤ 122) = true := decide_eq_true (by omega)
      have ln122 : decide (K.toNat ≤ 122) = true := decide_eq_true (by omega)
      have HP : Hid (P0 = true) := by unfold Hid; rw [HP0.out]; exact decide_eq_true (by omega)
      clear hr
      go_wp2_with fail
      go_meet
      case rel => exact ⟨by rw [HP.out], by first | rfl | trivial⟩
    · have g48 : decide ((48 : Int) ≤ (K.toNat : Int)) = true := decide_eq_true (by omega)
      have gn48 : decide (48 ≤ K.toNat) = true := decide_eq_true (by omega)
      have l57 : decide ((K.toNat : Int) ≤ 57) = false := decide_eq_false (by omega)
      have ln57 : decide (K.toNat ≤ 57) = false := decide_eq_false (by omega)
      have g65 : decide ((65 : Int) ≤ (K.toNat : Int)) = false := decide_eq_false (by omega)
      have gn65 : decide (65 ≤ K.toNat) = false := decide_eq_false (by omega)
      have l90 : decide ((K.toNat : Int) ≤ 90) = true := decide_eq_true (by omega)
      have ln90 : decide (K.toNat ≤ 90) = true := decide_eq_true (by omega)
      have g97 : decide ((97 : Int) ≤ (K.toNat : Int)) = false := decide_eq_false (by omega)
      have gn97 : decide (97 ≤ K.toNat) = false := decide_eq_false (by omega)
      have l122 : decide ((K.toNat : Int) ≤ 122) = true := decide_eq_true (by omega)
      have ln122 : decide (K.toNat ≤ 122) = true := decide_eq_true (by omega)
      have HP : Hid (P0 = false) := by unfold Hid; rw [HP0.out]; exact decide_eq_false (by omega)
      clear hr
      go_wp2_with fail
      go_meet
      case rel => exact ⟨by rw [HP.out], by first | rfl | trivial⟩
    · have g48 : decide ((48 : Int) ≤ (K.toNat : Int)) = true := decide_eq_true (by omega)
      have gn48 : decide (48 ≤ K.toNat) = true := decide_eq_true (by omega)
      have l57 : decide ((K.toNat : Int) ≤ 57) = false := decide_eq_false (by omega)
      have ln57 : decide (K.toNat ≤ 57) = false := decide_eq_false (by omega)
      have g65 : decide ((65 : Int) ≤ (K.toNat : Int)) = true := decide_eq_true (by omega)
      have gn65 : decide (65 ≤ K.toNat) = true := decide_eq_true (by omega)
      have l90 : decide ((K.toNat : Int) ≤ 90) = true := decide_eq_true (by omega)
      have ln90 : decide (K.toNat ≤ 90) = true := decide_eq_true (by omega)
      have g97 : decide ((97 : Int) ≤ (K.toNat : Int)) = false := decide_eq_false (by omega)
      have gn97 : decide (97 ≤ K.toNat) = false := decide_eq_false (by omega)
      have l122 : decide ((K.toNat : Int) ≤ 122) = true := decide_eq_true (by omega)
      have ln122 : decide (K.toNat ≤ 122) = true := decide_eq_true (by omega)
      have HP : Hid (P0 = true) := by unfold Hid; rw [HP0.out]; exact decide_eq_true (by omega)
      clear hr
      go_wp2_with fail
      go_meet
      case rel => exact ⟨by rw [HP.out], by first | rfl | trivial⟩
    · have g48 : decide ((48 : Int) ≤ (K.toNat : Int)) = true := decide_eq_true (by omega)
      have gn48 : decide (48 ≤ K.toNat) = true := decide_eq_true (by omega)
      have l57 : decide ((K.toNat : Int) ≤ 57) = false := decide_eq_false (by omega)
      have ln57 : decide (K.toNat ≤ 57) = false := decide_eq_false (by omega)
      have g65 : decide ((65 : Int) ≤ (K.toNat : Int)) = true := decide_eq_true (by omega)
      have gn65 : decide (65 ≤ K.toNat) = true := decide_eq_true (by omega)
      have l90 : decide ((K.toNat : Int) ≤ 90) = false := decide_eq_false (by omega)
      have ln90 : decide (K.toNat ≤ 90) = false := decide_eq_false (by omega)
      have g97 : decide ((97 : Int) ≤ (K.toNat : Int)) = false := decide_eq_false (by omega)
      have gn97 : decide (97 ≤ K.toNat) = false := decide_eq_false (by omega)
      have l122 : decide ((K.toNat : Int) ≤ 122) = true := decide_eq_true (by omega)
      have ln122 : decide (K.toNat ≤ 122) = true := decide_eq_true (by omega)
      have HP : Hid (P0 = false) := by unfold Hid; rw [HP0.out]; exact decide_eq_false (by omega)
      clear hr
      go_wp2_with fail
      go_meet
      case rel => exact ⟨by rw [HP.out], by first | rfl | trivial⟩
    · have g48 : decide ((48 : Int) ≤ (K.toNat : Int)) = true := decide_eq_true (by omega)
      have gn48 : decide (48 ≤ K.toNat) = true := decide_eq_true (by omega)
      have l57 : decide ((K.toNat : Int) ≤ 57) = false := decide_eq_false (by omega)
      have ln57 : decide (K.toNat ≤ 57) = false := decide_eq_false (by omega)
      have g65 : decide ((65 : Int) ≤ (K.toNat : Int)) = true := decide_eq_true (by omega)
      have gn65 : decide (65 ≤ K.toNat) = true := decide_eq_true (by omega)
      have l90 : decide ((K.toNat : Int) ≤ 90) = false := decide_eq_false (by omega)
      have ln90 : decide (K.toNat ≤ 90) = false := decide_eq_false (by omega)
      have g97 : decide ((97 : Int) ≤ (K.toNat : Int)) = true := decide_eq_true (by omega)
      have gn97 : decide (97 ≤ K.toNat) = true := decide_eq_true (by omega)
      have l122 : decide ((K.toNat : Int) ≤ 122) = true := decide_eq_true (by omega)
      have ln122 : decide (K.toNat ≤ 122) = true := decide_eq_true (by omega)
      have HP : Hid (P0 = true) := by unfold Hid; rw [HP0.out]; exact decide_eq_true (by omega)
      clear hr
      go_wp2_with fail
      go_meet
      case rel => exact ⟨by rw [HP.out], by first | rfl | trivial⟩
    · have g48 : decide ((48 : Int) ≤ (K.toNat : Int)) = true := decide_eq_true (by omega)
      have gn48 : decide (48 ≤ K.toNat) = true := decide_eq_true (by omega)
      have l57 : decide ((K.toNat : Int) ≤ 57) = false := decide_eq_false (by omega)
      have ln57 : decide (K.toNat ≤ 57) = false := decide_eq_false (by omega)
      have g65 : decide ((65 : Int) ≤ (K.toNat : Int)) = true := decide_eq_true (by omega)
      have gn65 : decide (65 ≤ K.toNat) = true := decide_eq_true (by omega)
      have l90 : decide ((K.toNat : Int) ≤ 90) = false := decide_eq_false (by omega)
      have ln90 : decide (K.toNat ≤ 90) = false := decide_eq_false (by omega)
      have g97 : decide ((97 : Int) ≤ (K.toNat : Int)) = true := decide_eq_true (by omega)
      have gn97 : decide (97 ≤ K.toNat) = true := decide_eq_true (by omega)
      have l122 : decide ((K.toNat : Int) ≤ 122) = false := decide_eq_false (by omega)
      have ln122 : decide (K.toNat ≤ 122) = false := decide_eq_false (by omega)
      have HP : Hid (P0 = false) := by unfold Hid; rw [HP0.out]; exact decide_eq_false (by omega)
      clear hr
      go_wp2_with fail
      go_meet
      case rel => exact ⟨by rw [HP.out], by first | rfl | trivial⟩
  case rest =>
    obtain ⟨rfl, hw⟩ := hcut
    have hw := hw.symm
    subst hw
    have HS := Lib.hid (Jb2.stays K hK7)
    have HE := Lib.hid (Jb2.esc K hK7)
    go_wp2_with fail
    go_loopw [6, 8] (fun pv ix wr => ∃ (i : Nat) (p : Bool), i ≤ 26 ∧ pv = .bool p ∧ ix = .int .i64 (i : Int) ∧ Hid (p = (P0 || (Js.signs.take i).contains K)) ∧ wr = w2) (fun _ ix _ => 26 - (intOf ix).toNat)
    case atStart => exact ⟨0, P0, Nat.zero_le _, rfl, rfl, by unfold Hid; simp, rfl⟩
    case round =>
      obtain ⟨i, p, hi, rfl, rfl, HP, hw⟩ := hrel
      have hw := hw.symm
      subst hw
      by_cases hlt : i < 26
      · have d1 : decide ((i : Int) < 26) = true := decide_eq_true (by omega)
        have d1n : decide (i < 26) = true := decide_eq_true hlt
        obtain ⟨Z, hZ, hZK⟩ := Jb2.next i hlt
        have e := Jb2.eq Z K
        have z8 := Z.toNat_lt
        have wz : wrap64 (Z.toNat : Int) = (Z.toNat : Int) := by unfold wrap64; omega
        have HN : Hid ((p || decide (Z = K)) = (P0 || (Js.signs.take (i + 1)).contains K)) := by
          unfold Hid
          rw [hZK K, HP.out, Bool.or_assoc]
        clear hZK HP HS HE HP0 HXE
        generalize decide (Z = K) = Q at *
        cases p
        · go_wp2_with fail
          go_roundw
          case rel => exact ⟨i + 1, Q, by omega, rfl, by go_num, HN, by first | rfl | trivial⟩
          case measure => simp [intOf]; omega
        · go_wp2_with fail
          go_roundw
          case rel => exact ⟨i + 1, true, by omega, rfl, by go_num, HN, by first | rfl | trivial⟩
          case measure => simp [intOf]; omega
      · have d1 : decide ((i : Int) < 26) = false := decide_eq_false (by omega)
        have d1n : decide (i < 26) = false := decide_eq_false hlt
        have HPS : Hid (p = Js.stays K) := by
          have e26 : i = 26 := by omega
          subst e26
          unfold Hid
          rw [HS.out, HP.out, HP0.out]
          rfl
        clear HP HS HP0
        by_cases h0 : K = 0
        · have k0 : ((K.toNat : Int) == 0) = true := by rw [h0]; rfl
          have hXX : X = ⟨#[97, 239, 191, 189, 122]⟩ := by rw [HXE.out, HE.out, if_pos h0]
          clear h0 HXE HE HPS
          subst hXX
          go_wp2_with (go_at_call 11; refine (er _).mono ?_; rintro e w' ⟨rfl, hw⟩; have hw := hw.symm; subst hw)
          go_ret
          exact ⟨rfl, B2.out⟩
        · have k0 : ((K.toNat : Int) == 0) = false := by
            rw [show (0 : Int) = ((0 : UInt8).toNat : Int) from rfl, Jb2.eq]
            exact decide_eq_false h0
          cases hst : Js.stays K
          · have hp : p = false := by rw [HPS.out, hst]
            subst hp
            have hXX : X = ⟨#[97, 92, 117, 48, 48]⟩ ++ ⟨#[Js.hex (K.toNat / 16), Js.hex (K.toNat % 16)]⟩ ++ ⟨#[122]⟩ := by
              rw [HXE.out, HE.out, if_neg h0, hst]
              rfl
            clear HXE HE HPS hst h0
            obtain ⟨a, ha, ha16⟩ : ∃ a : Nat, (K.toNat : Int) / 16 = (a : Int) ∧ a = K.toNat / 16 := ⟨K.toNat / 16, by omega, rfl⟩
            obtain ⟨b, hb, hb16⟩ : ∃ b : Nat, Go.bits .and .i64 (K.toNat : Int) 15 = (b : Int) ∧ b = K.toNat % 16 := ⟨K.toNat % 16, Jb2.and15 _ hK7, rfl⟩
            have la : a < 16 := by omega
            have lb : b < 16 := by omega
            have da : ∀ h : a < 16, (⟨#[48, 49, 50, 51, 52, 53, 54, 55, 56, 57, 97, 98, 99, 100, 101, 102]⟩ : ByteArray)[a]'h = Js.hex a := fun h => Jb2.dig a la h
            have db : ∀ h : b < 16, (⟨#[48, 49, 50, 51, 52, 53, 54, 55, 56, 57, 97, 98, 99, 100, 101, 102]⟩ : ByteArray)[b]'h = Js.hex b := fun h => Jb2.dig b lb h
            rw [← ha16, ← hb16] at hXX
            clear ha16 hb16 cv
            have cv := Jb2.conv (n := 2) [Js.hex a, Js.hex b] (show Vm.Has (w2.alloc (.cells #[.int .u8 ((Js.hex a).toNat : Int), .int .u8 ((Js.hex b).toNat : Int)] 5)).drew w2.heap.size (.cells #[.int .u8 ((Js.hex a).toNat : Int), .int .u8 ((Js.hex b).toNat : Int)] 5) from Vm.Has.new w2 _ _ rfl) rfl (fun j c hc => by
              match j, hc with
              | 0, hc => injection hc with hc; rw [← hc]; rfl
              | 1, hc => injection hc with hc; rw [← hc]; rfl)
            subst hXX
            go_upto_region 16 with fail
            go_region
            all_goals go_wp2
            all_goals go_ret
            all_goals exact ⟨rfl, (B2.out.alloc B2.out.size _).drew⟩
          · have hp : p = true := by rw [HPS.out, hst]
            subst hp
            have hXX : X = ⟨#[97]⟩ ++ ⟨#[K]⟩ ++ ⟨#[122]⟩ := by
              rw [HXE.out, HE.out, if_neg h0, if_pos hst]
              rfl
            clear HXE HE HPS hst h0
            subst hXX
            go_wp2_with fail
            go_ret
            exact ⟨rfl, B2.out⟩
end Go.Proofs.YtiajclmhimkpnaaDoor

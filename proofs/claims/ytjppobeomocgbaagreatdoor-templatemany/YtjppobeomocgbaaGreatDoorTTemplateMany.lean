/-
  THE WALK of stolelaw16.TemplateMany: it returns true.
-/
import Derived.Test.YtjppobeomocgbaaGreatDoorTMParsetoGBits
import Derived.Test.YtjppobeomocgbaaGreatDoorTMMany
import Derived.Test.YtjppobeomocgbaaGreatDoorTTemplateForms
namespace Go.Proofs.YtjppobeomocgbaaGreatDoor
open Go.RowKit
set_option maxRecDepth 100000 in
set_option maxHeartbeats 4000000 in
theorem Law.templateMany (many : Int) (w : World) (hT : Mp.T w) : Calls Tryz.prog 7 #[.int .i64 many] w fun e w' => e = .returned (.bool true) ∧ Below w.heap.size w w' := by
  have aw := Mw.awake w hT
  obtain ⟨q, hq, hz⟩ : ∃ q : Nat, q < 20 ∧ wrap64 ((IntKind.u64.wrap many).tmod 20) = (q : Int) := by
    have h1 : 0 ≤ IntKind.u64.wrap many := by
      rw [IntKind.wrap_u64]
      omega
    have h2 : (IntKind.u64.wrap many).tmod 20 = IntKind.u64.wrap many % 20 := Int.tmod_eq_emod_of_nonneg h1
    refine ⟨(IntKind.u64.wrap many % 20).toNat, by omega, ?_⟩
    rw [h2]
    unfold wrap64
    omega
  obtain ⟨k, hk⟩ : ∃ k : Nat, k = 505 + q := ⟨_, rfl⟩
  have ek : wrap64 (505 + (q : Int)) = (k : Int) := by rw [hk]; unfold wrap64; omega
  have ek2 : (505 : Int) + (q : Int) = (k : Int) := by omega
  have hk6 : k ≤ 600 := by omega
  have ps := fun s u (h : Mp.T u) => Mp.parse s u h
  have HT := Lib.hid hT
  have er := fun x u => Iw.num x u
  clear hT hk
  go_enter Tryz.func7, Tryz.ntmps7
  go_wp2_with (first | (go_at_call 13; refine aw.mono ?_; rintro e w1 ⟨rfl, b1⟩; have B1 := Lib.hid b1; clear b1 aw))
  have HB1 : Hid (Below w.heap.size w w1) := B1
  go_loopw [4, 5] (fun sv iv wr => ∃ (i : Nat) (S : ByteArray), i ≤ k ∧ sv = .string S ∧ iv = .int .i64 (i : Int) ∧ Hid (S.data.toList = My.src i) ∧ Hid (Below w.heap.size w wr)) (fun _ iv _ => k - (intOf iv).toNat)
  case atStart => exact ⟨0, ⟨#[]⟩, Nat.zero_le _, rfl, rfl, rfl, HB1⟩
  case round =>
    clear HB1 B1
    obtain ⟨i, S, hi, rfl, rfl, HS, HB⟩ := hrel
    have hsz : S.size = 6 * i := by rw [← Wk.len_data, HS.out, My.src_len]
    by_cases hlt : i < k
    · have dlt : decide ((i : Int) < (k : Int)) = true := decide_eq_true (by omega)
      have HS2 : Hid ((S ++ ⟨#[116, 123, 123, 46, 125, 125]⟩ : ByteArray).data.toList = My.src (i + 1)) := by
        unfold Hid
        rw [Lf.append, HS.out, My.src_succ]
      have hz2 : (S ++ ⟨#[116, 123, 123, 46, 125, 125]⟩ : ByteArray).size = S.size + 6 := by rw [ByteArray.size_append]; rfl
      go_wp2_with fail
      go_roundw
      case rel => exact ⟨i + 1, _, by omega, rfl, by go_num, HS2, HB⟩
      case measure => simp [intOf]; omega
    · have ei : i = k := by omega
      subst ei
      have dlt : decide ((i : Int) < (i : Int)) = false := decide_eq_false (by omega)
      have pr := ps S
      rw [My.parse S i HS.out hk6] at pr
      clear ps HS hlt
      by_cases hc : 1024 < 2 * i
      · rw [if_pos hc] at pr
        have d2 : decide ((1024 : Int) < 2 * (i : Int)) = true := decide_eq_true (by omega)
        have w2 : wrap64 (2 * (i : Int)) = 2 * (i : Int) := by unfold wrap64; omega
        go_wp2_with (first | (go_at_call 8; refine Calls.mono (pr _ (HT.out.on HB.out)) ?_; rintro e w2 ⟨v2, rfl, l2, b2⟩; obtain ⟨a2, d2, hv⟩ := Tr.form l2; subst hv; have B2 := Lib.hid (HB.out.trans (b2.mono HB.out.size)); clear b2 l2 pr) | (go_at_call 11; refine (er _ _).mono ?_; rintro e w9 ⟨rfl, hw⟩; have hw := hw.symm; subst hw))
        go_ret
        exact ⟨rfl, B2.out⟩
      · rw [if_neg hc] at pr
        have d2 : decide ((1024 : Int) < 2 * (i : Int)) = false := decide_eq_false (by omega)
        have w2 : wrap64 (2 * (i : Int)) = 2 * (i : Int) := by unfold wrap64; omega
        have hlen := My.len i
        go_wp2_with (first | (go_at_call 8; refine Calls.mono (pr _ (HT.out.on HB.out)) ?_; rintro e w2 ⟨v2, rfl, l2, b2⟩; obtain ⟨a2, d2, hv, hd1, hd2, hx⟩ := It.get l2; subst hv; rw [hlen] at hd1; rw [hlen]; have HX := Lib.hid hx; have B2 := Lib.hid (HB.out.trans (b2.mono HB.out.size)); clear b2 l2 pr hx) | (go_at_call 11; refine (er _ _).mono ?_; rintro e w9 ⟨rfl, hw⟩; have hw := hw.symm; subst hw))
        go_loopw [8] (fun jv u => ∃ j : Nat, j ≤ i ∧ jv = .int .i64 (j : Int) ∧ u = w2) (fun jv _ => i - (intOf jv).toNat)
        case atStart => exact ⟨0, Nat.zero_le _, rfl, rfl⟩
        case round =>
          obtain ⟨j, hj, rfl, hu⟩ := hrel
          have hu := hu.symm
          subst hu
          by_cases hjl : j < i
          · have dj : decide ((j : Int) < (i : Int)) = true := decide_eq_true (by omega)
            obtain ⟨b, o, pv, xv, yv, rfl, _, c0, c1, _⟩ := HX.out (2 * j) _ _ _ _ _ (My.at0 hjl)
            obtain ⟨b', o', pv', xv', yv', e', _, k0, _⟩ := HX.out (2 * j + 1) _ _ _ _ _ (My.at1 hjl)
            injection e' with e'
            injection e' with e1 e2
            subst e1 e2
            have q0 : wrap64 (2 * (j : Int)) = 2 * (j : Int) := by unfold wrap64; omega
            have q2 : wrap64 (2 * (j : Int) + 1) = 2 * (j : Int) + 1 := by unfold wrap64; omega
            have h1 : 2 * j < d2 := by omega
            have h2 : 2 * j + 1 < d2 := by omega
            have hl1 : 2 * j < 2 * i := by omega
            have hl2 : 2 * j + 1 < 2 * i := by omega
            clear HX HT hd1 hd2 hlen er hu
            go_wp2_with fail
            go_roundw
            case rel => exact ⟨j + 1, by omega, by go_num, by first | rfl | trivial⟩
            case measure => simp [intOf]; omega
          · have dj : decide ((j : Int) < (i : Int)) = false := decide_eq_false (by omega)
            clear HX
            go_wp2_with fail
            go_ret
            exact ⟨rfl, B2.out⟩
end Go.Proofs.YtjppobeomocgbaaGreatDoor

/-
  THE WALK of stolelaw1.UtfLowers: for any two texts it returns true, and turns nothing that was there.
-/
import Derived.Test.YthoneoemfkpgmaaDoorAwake
import Derived.Deep.QuietTactic
import Derived.BigQuiet
namespace Go.Proofs.YthoneoemfkpgmaaDoor
open Go.RowKit

theorem Wk.bytes_ext {a b : ByteArray} (h : a.data.toList = b.data.toList) : a = b := ByteArray.ext (Array.toList_inj.1 h)
/-- a text that is lowered already -/
theorem Wk.lower_again (l : List UInt8) (x : ByteArray) (hx : (⟨(Pl.lowL l).toArray⟩ : ByteArray) = x) (w : World) (hs : x.size ≤ 281474976710656) :
    Calls Tryd.prog 12 #[.string x] w fun e w' => e = .returned (.string x) ∧ Below w.heap.size w w' := by
  have h := Wk.lower x w hs
  have e : (⟨(Pl.lowL x.data.toList).toArray⟩ : ByteArray) = x := by
    subst hx
    exact Wk.bytes_ext (Pl.low_low l)
  rwa [e] at h
theorem Wk.cat_data (s t : ByteArray) : (s ++ t).data.toList = s.data.toList ++ t.data.toList := by
  rw [ByteArray.data_append, Array.toList_append]
theorem Wk.cat_size (s t : ByteArray) : (s ++ t).size = s.size + t.size := by
  rw [← Wk.len_data, Wk.cat_data, List.length_append, Wk.len_data, Wk.len_data]
theorem Wk.lower_cat (s t x y : ByteArray) (hx : (⟨(Pl.lowL s.data.toList).toArray⟩ : ByteArray) = x) (hy : (⟨(Pl.lowL t.data.toList).toArray⟩ : ByteArray) = y) (w : World) (hs : s.size + t.size ≤ 281474976710656) :
    Calls Tryd.prog 12 #[.string (s ++ t)] w fun e w' => e = .returned (.string (x ++ y)) ∧ Below w.heap.size w w' := by
  have h := Wk.lower (s ++ t) w (by rw [Wk.cat_size]; exact hs)
  have e : (⟨(Pl.lowL (s ++ t).data.toList).toArray⟩ : ByteArray) = x ++ y := by
    subst hx; subst hy
    refine Wk.bytes_ext ?_
    rw [Wk.cat_data, Wk.cat_data, Pl.low_append]
  rwa [e] at h
theorem Wk.below_drews {B : Nat} {w wr : World} (h : Below B w wr) : ∀ n, Below B w (wr.drewN n)
  | 0 => h
  | n + 1 => (Wk.below_drews h n).drew

set_option maxHeartbeats 1000000 in
theorem Law.lowers (s t : ByteArray) (w : World) (hT : Lib.Utf8Tabs 0 1 w) (hs : s.size ≤ 140737488351232) (ht : t.size ≤ 140737488351232) :
    Calls Tryd.prog 5 #[.string s, .string t] w fun e w' => e = .returned (.bool true) ∧ Below w.heap.size w w' := by
  obtain ⟨x, hx⟩ : ∃ x : ByteArray, (⟨(Pl.lowL s.data.toList).toArray⟩ : ByteArray) = x := ⟨_, rfl⟩
  have HX : Hid ((⟨(Pl.lowL s.data.toList).toArray⟩ : ByteArray) = x) := hx
  have hxs : x.size = s.size := by
    rw [← hx, ← Wk.len_data, ← Wk.len_data]; exact Pl.low_length _
  clear hx
  obtain ⟨y, hy⟩ : ∃ y : ByteArray, (⟨(Pl.lowL t.data.toList).toArray⟩ : ByteArray) = y := ⟨_, rfl⟩
  have HY : Hid ((⟨(Pl.lowL t.data.toList).toArray⟩ : ByteArray) = y) := hy
  have hys : y.size = t.size := by
    rw [← hy, ← Wk.len_data, ← Wk.len_data]; exact Pl.low_length _
  clear hy
  go_enter Tryd.func5, Tryd.ntmps5
  go_wp2_with fail
  refine (Wk.awake w hT).mono ?_
  rintro e w1 ⟨rfl, b1⟩
  go_wp2_with fail
  refine (Wk.lower s w1 (by omega)).mono ?_
  rintro e w2 ⟨rfl, b2⟩
  rw [HX.out]
  have b2' := Wk.below_step b1 b2
  clear b1 b2
  go_wp2_with fail
  refine (Wk.lower_again _ x HX.out w2 (by omega)).mono ?_
  rintro e w3 ⟨rfl, b3⟩
  have b3' := Wk.below_step b2' b3
  clear b2' b3
  go_wp2_with fail
  refine (Wk.lower_cat s t x y HX.out HY.out w3 (by omega)).mono ?_
  rintro e w4 ⟨rfl, b4⟩
  have b4' := Wk.below_step b3' b4
  clear b3' b4
  go_wp2_with fail
  refine (Wk.lower t w4 (by omega)).mono ?_
  rintro e w5 ⟨rfl, b5⟩
  rw [HY.out]
  have b5' := Wk.below_step b4' b5
  clear b4' b5
  go_wp2
  go_loopw [6] (fun i wr => ∃ k : Nat, k ≤ s.size ∧ i = .int .i64 k ∧ Below w.heap.size w wr) (fun i _ => s.size - (intOf i).toNat)
  case atStart => exact ⟨0, Nat.zero_le _, rfl, b5'⟩
  case round =>
    clear b5'
    obtain ⟨k, hk, rfl, hb⟩ := hrel
    by_cases hlt : k < s.size
    · have hxk : (x[k]'(by omega)).toNat = if 65 ≤ s[k].toNat ∧ s[k].toNat ≤ 90 then s[k].toNat + 32 else s[k].toNat := by
        rw [← Pl.lowB_toNat]
        congr 1
        have e := HX.out
        have h1 : x.data.toList[k]'(by rw [Wk.len_data]; omega) = Pl.lowB (s.data.toList[k]'(by rw [Wk.len_data]; omega)) := by
          subst e
          simp [Pl.lowL]
        exact h1
      by_cases h65 : 65 ≤ s[k].toNat ∧ s[k].toNat ≤ 90
      · rw [if_pos h65] at hxk
        obtain ⟨h1, h2⟩ := h65
        have d1 : decide ((65 : Int) ≤ (s[k].toNat : Int)) = true := decide_eq_true (by omega)
        have d2 : decide ((s[k].toNat : Int) ≤ 90) = true := decide_eq_true (by omega)
        go_wp2
        go_quiet (fail)
        go_wp2
        go_roundw
        case rel => exact ⟨k + 1, by omega, by go_num, Wk.below_drews hb nq⟩
        case measure => simp [intOf]; omega
      · rw [if_neg h65] at hxk
        by_cases h1 : 65 ≤ s[k].toNat
        · have d1 : decide ((65 : Int) ≤ (s[k].toNat : Int)) = true := decide_eq_true (by omega)
          have d2 : decide ((s[k].toNat : Int) ≤ 90) = false := decide_eq_false (by omega)
          go_wp2
          go_quiet (fail)
          go_wp2
          go_roundw
          case rel => exact ⟨k + 1, by omega, by go_num, Wk.below_drews hb nq⟩
          case measure => simp [intOf]; omega
        · have d1 : decide ((65 : Int) ≤ (s[k].toNat : Int)) = false := decide_eq_false (by omega)
          go_wp2
          go_quiet (fail)
          go_wp2
          go_roundw
          case rel => exact ⟨k + 1, by omega, by go_num, Wk.below_drews hb nq⟩
          case measure => simp [intOf]; omega
    · go_wp2
      go_ret
      exact ⟨rfl, hb⟩
end Go.Proofs.YthoneoemfkpgmaaDoor

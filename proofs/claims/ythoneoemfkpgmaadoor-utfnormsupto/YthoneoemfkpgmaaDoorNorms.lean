/-
  THE WALK of stolelaw1.UtfNorms: for any two texts of up to 2^40 bytes it returns true, and turns nothing that was there.
-/
import Derived.Test.YthoneoemfkpgmaaDoorAwake
namespace Go.Proofs.YthoneoemfkpgmaaDoor
open Go.RowKit

theorem Wk.ext {a b : ByteArray} (h : a.data.toList = b.data.toList) : a = b := ByteArray.ext (Array.toList_inj.1 h)
theorem Wk.cat2_data (s t : ByteArray) : (s ++ t).data.toList = s.data.toList ++ t.data.toList := by
  rw [ByteArray.data_append, Array.toList_append]
theorem Wk.cat2_size (s t : ByteArray) : (s ++ t).size = s.size + t.size := by
  rw [← Wk.len_data, Wk.cat2_data, List.length_append, Wk.len_data, Wk.len_data]

/-- May, Norm of what is normed; Norm of it and more behind -/
theorem Wk.may_normed (s x : ByteArray) (hx : (⟨(Pl.normL s.data.toList).toArray⟩ : ByteArray) = x) (w : World) (hT : Lib.Utf8Tabs 0 1 w) (hs : x.size ≤ 35184372088832) :
    Calls Tryd.prog 8 #[.string x] w fun e w' => e = .returned (.bool true) ∧ Below w.heap.size w w' := by
  have h := Wk.may x w hT (by unfold maxLen; omega)
  have e : Pl.mayL x.data.toList = true := by
    subst hx
    exact Pl.may_norm _
  rwa [e] at h
theorem Wk.norm_normed (s x : ByteArray) (hx : (⟨(Pl.normL s.data.toList).toArray⟩ : ByteArray) = x) (w : World) (hT : Lib.Utf8Tabs 0 1 w) (hs : x.size ≤ 35184372088832) :
    Calls Tryd.prog 10 #[.string x] w fun e w' => e = .returned (.string x) ∧ Below w.heap.size w w' := by
  have h := Wk.norm x w hT hs
  have e : (⟨(Pl.normL x.data.toList).toArray⟩ : ByteArray) = x := by
    subst hx
    exact Wk.ext (Pl.norm_norm _)
  rwa [e] at h
theorem Wk.norm_behind (s t x y : ByteArray) (hx : (⟨(Pl.normL s.data.toList).toArray⟩ : ByteArray) = x) (hy : (⟨(Pl.normL t.data.toList).toArray⟩ : ByteArray) = y) (w : World) (hT : Lib.Utf8Tabs 0 1 w) (hs : x.size + t.size ≤ 35184372088832) :
    Calls Tryd.prog 10 #[.string (x ++ t)] w fun e w' => e = .returned (.string (x ++ y)) ∧ Below w.heap.size w w' := by
  have h := Wk.norm (x ++ t) w hT (by rw [Wk.cat2_size]; exact hs)
  have e : (⟨(Pl.normL (x ++ t).data.toList).toArray⟩ : ByteArray) = x ++ y := by
    subst hx; subst hy
    refine Wk.ext ?_
    rw [Wk.cat2_data, Wk.cat2_data]
    exact Pl.norm_append _ _ (Pl.may_norm _)
  rwa [e] at h
theorem Wk.may_same (s x : ByteArray) (hx : x.data.toList = Pl.normL s.data.toList) (w : World) (hT : Lib.Utf8Tabs 0 1 w) (hs : s.size ≤ 35184372088832) :
    Calls Tryd.prog 8 #[.string s] w fun e w' => e = .returned (.bool (x.toList == s.toList)) ∧ Below w.heap.size w w' := by
  have h := Wk.may s w hT (by unfold maxLen; omega)
  have e : Pl.mayL s.data.toList = (x.toList == s.toList) := by
    rw [Lib.toList_data, Lib.toList_data, hx, Bool.eq_iff_iff, beq_iff_eq]
    exact (Pl.norm_eq_iff _).symm
  rwa [e] at h

set_option maxHeartbeats 1000000 in
theorem Law.norms (s t : ByteArray) (w : World) (hT : Lib.Utf8Tabs 0 1 w) (hs : s.size ≤ 1099511627776) (ht : t.size ≤ 1099511627776) :
    Calls Tryd.prog 4 #[.string s, .string t] w fun e w' => e = .returned (.bool true) ∧ Below w.heap.size w w' := by
  obtain ⟨x, hx⟩ : ∃ x : ByteArray, (⟨(Pl.normL s.data.toList).toArray⟩ : ByteArray) = x := ⟨_, rfl⟩
  have HX : Hid ((⟨(Pl.normL s.data.toList).toArray⟩ : ByteArray) = x) := hx
  have hxd : x.data.toList = Pl.normL s.data.toList := by rw [← hx]
  have hx1 : x.size ≤ 3 * s.size := by
    rw [← Wk.len_data, ← Wk.len_data, hxd]; exact Pl.norm_short _
  have hx2 : s.size ≤ x.size := by
    rw [← Wk.len_data, ← Wk.len_data, hxd]; exact Pl.norm_long _
  have HD : Hid (x.data.toList = Pl.normL s.data.toList) := hxd
  clear hx hxd
  obtain ⟨y, hy⟩ : ∃ y : ByteArray, (⟨(Pl.normL t.data.toList).toArray⟩ : ByteArray) = y := ⟨_, rfl⟩
  have HY : Hid ((⟨(Pl.normL t.data.toList).toArray⟩ : ByteArray) = y) := hy
  have hy1 : y.size ≤ 3 * t.size := by
    have hyd : y.data.toList = Pl.normL t.data.toList := by rw [← hy]
    rw [← Wk.len_data, ← Wk.len_data, hyd]; exact Pl.norm_short _
  clear hy
  go_enter Tryd.func4, Tryd.ntmps4
  go_wp2_with fail
  refine (Wk.awake w hT).mono ?_
  rintro e w1 ⟨rfl, b1⟩
  have t1 := Utf8Tabs_below hT b1
  go_wp2_with fail
  refine (Wk.norm s w1 t1 (by omega)).mono ?_
  rintro e w2 ⟨rfl, b2⟩
  rw [HX.out]
  have t2 := Utf8Tabs_below t1 b2
  have b2' := Wk.below_step b1 b2
  clear b1 b2 t1
  go_wp2_with fail
  refine (Wk.may_normed s x HX.out w2 t2 (by omega)).mono ?_
  rintro e w3 ⟨rfl, b3⟩
  have t3 := Utf8Tabs_below t2 b3
  have b3' := Wk.below_step b2' b3
  clear b2' b3 t2
  go_wp2_with fail
  refine (Wk.norm_normed s x HX.out w3 t3 (by omega)).mono ?_
  rintro e w4 ⟨rfl, b4⟩
  have t4 := Utf8Tabs_below t3 b4
  have b4' := Wk.below_step b3' b4
  clear b3' b4 t3
  go_wp2_with fail
  refine (Wk.may_same s x HD.out w4 t4 (by omega)).mono ?_
  rintro e w5 ⟨rfl, b5⟩
  have t5 := Utf8Tabs_below t4 b5
  have b5' := Wk.below_step b4' b5
  clear b4' b5 t4
  go_wp2_with fail
  refine (Wk.norm_behind s t x y HX.out HY.out w5 t5 (by omega)).mono ?_
  rintro e w6 ⟨rfl, b6⟩
  have t6 := Utf8Tabs_below t5 b6
  have b6' := Wk.below_step b5' b6
  clear b5' b6 t5
  go_wp2_with fail
  refine (Wk.norm t w6 t6 (by omega)).mono ?_
  rintro e w7 ⟨rfl, b7⟩
  rw [HY.out]
  have b7' := Wk.below_step b6' b7
  clear b6' b7 t6
  go_wp2
  go_ret
  exact ⟨rfl, b7'⟩
end Go.Proofs.YthoneoemfkpgmaaDoor

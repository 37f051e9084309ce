/-
  THE WALK of stolelaw2.RefSafe: for any two texts of up to 2^30 bytes it returns true, and turns nothing that was there.
-/
import Derived.Test.YtpehplamidbkeaaDoorRefPlain
import Derived.Test.YtpehplamidbkeaaDoorRefNorm
namespace Go.Proofs.YtpehplamidbkeaaDoor
open Go.RowKit

/-- the norm of x is y -/
theorem Sz.norm_to (x y : ByteArray) (h : Pl.normL x.data.toList = y.data.toList) (w : World) (hs : x.size ≤ 35184372088832) :
    Calls Tryd.prog 14 #[.string x] w fun e w' => e = .returned (.string y) ∧ Below w.heap.size w w' := by
  have c := Sz.norm x w hs
  have e : (⟨(Pl.normL x.data.toList).toArray⟩ : ByteArray) = y := Wk.ext h
  rwa [e] at c
theorem Wk.size_le {x : ByteArray} {l : List UInt8} {n : Nat} (h : l = x.data.toList) (hl : l.length ≤ n) : x.size ≤ n := by
  rw [← Wk.len_data, ← h]; exact hl
/-- what a text is normed to, encoded to, decoded to -/
theorem Wk.ex_norm (s : ByteArray) : ∃ y : ByteArray, Hid (Pl.normL s.data.toList = y.data.toList) ∧ y.size ≤ 3 * s.size :=
  ⟨⟨(Pl.normL s.data.toList).toArray⟩, rfl, by have := Pl.norm_short s.data.toList; rw [Wk.len_data] at this; exact Wk.size_le rfl this⟩
theorem Wk.ex_enc (s : ByteArray) : ∃ y : ByteArray, Hid (Pl.encL s.data.toList = y.data.toList) ∧ y.size ≤ 18 * s.size :=
  ⟨⟨(Pl.encL s.data.toList).toArray⟩, rfl, by have := Pl.encL_len s.data.toList; rw [Wk.len_data] at this; exact Wk.size_le rfl this⟩
theorem Wk.ex_dec (s : ByteArray) : ∃ y : ByteArray, Hid (Pl.decL s.data.toList = y.data.toList) ∧ y.size ≤ 4 * s.size :=
  ⟨⟨(Pl.decL s.data.toList).toArray⟩, rfl, by have := Pl.decL_len s.data.toList; rw [Wk.len_data] at this; exact Wk.size_le rfl this⟩

set_option maxHeartbeats 1000000 in
theorem Law.refSafe (s t : ByteArray) (w : World) (hT : Lib.Utf8Tabs 1 2 w) (hs : s.size ≤ 1073741824) (ht : t.size ≤ 1073741824) :
    Calls Tryd.prog 8 #[.string s, .string t] w fun e w' => e = .returned (.bool true) ∧ Below w.heap.size w w' := by
  obtain ⟨n, HNo, hn⟩ := Wk.ex_norm s
  obtain ⟨x, HX, hx⟩ := Wk.ex_enc s
  obtain ⟨y, HY, hy⟩ := Wk.ex_enc x
  obtain ⟨d, HD, hd⟩ := Wk.ex_dec t
  have H1 : Hid (Pl.decL y.data.toList = x.data.toList) := by
    show _ = _
    rw [← HY.out, Pl.dec_enc', ← HX.out, Pl.norm_of_may _ (Pl.may_enc _)]
  have H2 : Hid (Pl.decL x.data.toList = n.data.toList) := by
    show _ = _
    rw [← HX.out, Pl.dec_enc', HNo.out]
  have H3 : Hid (Pl.decL (x ++ t).data.toList = (n ++ d).data.toList) := by
    show _ = _
    rw [Wk.cat2_data, Wk.cat2_data, ← HX.out, Pl.dec_enc, HNo.out, HD.out]
  have hc1 := Wk.cat2_size x t
  have hc2 := Wk.cat2_size n d
  go_enter Tryd.func8, Tryd.ntmps8
  go_wp2_with fail
  refine (Aw.awake w hT).mono ?_
  rintro e w1 ⟨rfl, b1⟩
  have t1 := Utf8Tabs_below hT b1
  go_wp2_with fail
  refine (Re.enc_to s x HX.out w1 t1 (by omega)).mono ?_
  rintro e w2 ⟨rfl, b2⟩
  have t2 := Utf8Tabs_below t1 b2
  have b2' := Wk.below_step b1 b2
  clear b1 b2 t1
  go_wp2_with fail
  refine (Re.enc_to x y HY.out w2 t2 (by omega)).mono ?_
  rintro e w3 ⟨rfl, b3⟩
  have t3 := Utf8Tabs_below t2 b3
  have b3' := Wk.below_step b2' b3
  clear b2' b3 t2
  go_wp2_with fail
  refine (Rr.dec_to y x H1.out w3 (by omega)).mono ?_
  rintro e w4 ⟨rfl, b4⟩
  have t4 := Utf8Tabs_below t3 b4
  have b4' := Wk.below_step b3' b4
  clear b3' b4 t3
  go_wp2_with fail
  refine (Rr.dec_to x n H2.out w4 (by omega)).mono ?_
  rintro e w5 ⟨rfl, b5⟩
  have t5 := Utf8Tabs_below t4 b5
  have b5' := Wk.below_step b4' b5
  clear b4' b5 t4
  go_wp2_with fail
  refine (Sz.norm_to s n HNo.out w5 (by omega)).mono ?_
  rintro e w6 ⟨rfl, b6⟩
  have t6 := Utf8Tabs_below t5 b6
  have b6' := Wk.below_step b5' b6
  clear b5' b6 t5
  go_wp2_with fail
  refine (Re.enc_to s x HX.out w6 t6 (by omega)).mono ?_
  rintro e w7 ⟨rfl, b7⟩
  have b7' := Wk.below_step b6' b7
  clear b6' b7 t6
  go_wp2_with fail
  refine (Rr.dec_to (x ++ t) (n ++ d) H3.out w7 (by omega)).mono ?_
  rintro e w8 ⟨rfl, b8⟩
  have b8' := Wk.below_step b7' b8
  clear b7' b8
  go_wp2_with fail
  refine (Sz.norm_to s n HNo.out w8 (by omega)).mono ?_
  rintro e w9 ⟨rfl, b9⟩
  have b9' := Wk.below_step b8' b9
  clear b8' b9
  go_wp2_with fail
  refine (Rr.dec_to t d HD.out w9 (by omega)).mono ?_
  rintro e wa ⟨rfl, ba⟩
  have ba' := Wk.below_step b9' ba
  clear b9' ba
  go_wp2_with fail
  refine (Wk.num wa).mono ?_
  rintro e wb ⟨rfl, rfl⟩
  go_wp2
  go_ret
  exact ⟨rfl, ba'⟩
end Go.Proofs.YtpehplamidbkeaaDoor

/-
  THE WALK of stolelaw2.RefBack: for any two texts of up to 2^30 bytes it returns true, and turns nothing that was there.
-/
import Derived.Test.YtpehplamidbkeaaDoorRefSafe
namespace Go.Proofs.YtpehplamidbkeaaDoor
open Go.RowKit

set_option maxRecDepth 100000 in
set_option maxHeartbeats 1000000 in
theorem Law.refBack (s t : ByteArray) (w : World) (hT : Lib.Utf8Tabs 1 2 w) (hs : s.size ≤ 1073741824) (ht : t.size ≤ 1073741824) :
    Calls Tryd.prog 4 #[.string s, .string t] w fun e w' => e = .returned (.bool true) ∧ Below w.heap.size w w' := by
  obtain ⟨n, HNo, hn⟩ := Wk.ex_norm s
  obtain ⟨m, HMo, hm⟩ := Wk.ex_norm t
  obtain ⟨x, HX, hx⟩ := Wk.ex_enc s
  obtain ⟨y, HY, hy⟩ := Wk.ex_enc t
  have HS : Hid (∀ d ∈ x.data.toList, d ≠ 60 ∧ d ≠ 62 ∧ d ≠ 34 ∧ d ≠ 39 ∧ d ≠ 13 ∧ d ≠ 0) := by
    show ∀ d ∈ _, _
    rw [← HX.out]; exact Pl.enc_safe _
  have H2 : Hid (Pl.decL x.data.toList = n.data.toList) := by
    show _ = _
    rw [← HX.out, Pl.dec_enc', HNo.out]
  have H3 : Hid (Pl.encL (n ++ t).data.toList = (x ++ y).data.toList) := by
    show _ = _
    rw [Wk.cat2_data, Wk.cat2_data, ← HNo.out, Pl.enc_append, HX.out, HY.out]
  have H4 : Hid (Pl.decL (x ++ y).data.toList = (n ++ m).data.toList) := by
    show _ = _
    rw [Wk.cat2_data, Wk.cat2_data, ← HX.out, Pl.dec_enc, HNo.out, ← HY.out, Pl.dec_enc', HMo.out]
  have hc1 := Wk.cat2_size n t
  have hc2 := Wk.cat2_size x y
  have hc3 := Wk.cat2_size n m
  go_enter Tryd.func4, Tryd.ntmps4
  go_wp2_with fail
  refine (Aw.awake w hT).mono ?_
  rintro e w1 ⟨rfl, b1⟩
  have t1 := Utf8Tabs_below hT b1
  go_wp2_with fail
  refine (Re.enc_to s x HX.out w1 t1 (by omega)).mono ?_
  rintro e w2 ⟨rfl, b2⟩
  have t2 := Utf8Tabs_below t1 b2
  have b2' := Wk.below_step b1 b2
  clear b1 b2 t1
  go_wp2_with fail
  go_loop [6] (fun i => ∃ k : Nat, k ≤ x.size ∧ i = .int .i64 k) (fun i => x.size - (intOf i).toNat)
  case atStart => exact ⟨0, Nat.zero_le _, rfl⟩
  case round =>
    obtain ⟨k, hk, rfl⟩ := hrel
    by_cases hlt : k < x.size
    · obtain ⟨c, hc⟩ : ∃ c, x[k] = c := ⟨_, rfl⟩
      have hcn : x[k].toNat = c.toNat := by rw [hc]
      obtain ⟨g1, g2, g3, g4, g5, g6⟩ := HS.out c (by rw [← hc]; exact List.mem_of_getElem? (Rd.get_at x k hlt))
      have b60 : ((c.toNat : Int) == 60) = false := Re.beq_false c 60 60 rfl g1
      have b62 : ((c.toNat : Int) == 62) = false := Re.beq_false c 62 62 rfl g2
      have b34 : ((c.toNat : Int) == 34) = false := Re.beq_false c 34 34 rfl g3
      have b39 : ((c.toNat : Int) == 39) = false := Re.beq_false c 39 39 rfl g4
      have b13 : ((c.toNat : Int) == 13) = false := Re.beq_false c 13 13 rfl g5
      have b00 : ((c.toNat : Int) == 0) = false := Re.beq_false c 0 0 rfl g6
      clear g1 g2 g3 g4 g5 g6 hc HS H2 H3 H4 HNo HMo HX HY hc1 hc2 hc3
      go_wp2_with fail
      go_round
      case rel => exact ⟨k + 1, by omega, by go_num⟩
      case measure => simp [intOf]; omega
    · clear HS
      go_wp2_with fail
      refine (Rr.dec_to x n H2.out w2 (by omega)).mono ?_
      rintro e w3 ⟨rfl, b3⟩
      have t3 := Utf8Tabs_below t2 b3
      have b3' := Wk.below_step b2' b3
      clear b2' b3 t2
      go_wp2_with fail
      refine (Sz.norm_to s n HNo.out w3 (by omega)).mono ?_
      rintro e w4 ⟨rfl, b4⟩
      have t4 := Utf8Tabs_below t3 b4
      have b4' := Wk.below_step b3' b4
      clear b3' b4 t3
      go_wp2_with fail
      refine (Sz.norm_to s n HNo.out w4 (by omega)).mono ?_
      rintro e w5 ⟨rfl, b5⟩
      have t5 := Utf8Tabs_below t4 b5
      have b5' := Wk.below_step b4' b5
      clear b4' b5 t4
      go_wp2_with fail
      refine (Re.enc_to (n ++ t) (x ++ y) H3.out w5 t5 (by omega)).mono ?_
      rintro e w6 ⟨rfl, b6⟩
      have t6 := Utf8Tabs_below t5 b6
      have b6' := Wk.below_step b5' b6
      clear b5' b6 t5
      go_wp2_with fail
      refine (Re.enc_to t y HY.out w6 t6 (by omega)).mono ?_
      rintro e w7 ⟨rfl, b7⟩
      have t7 := Utf8Tabs_below t6 b7
      have b7' := Wk.below_step b6' b7
      clear b6' b7 t6
      go_wp2_with fail
      refine (Re.enc_to t y HY.out w7 t7 (by omega)).mono ?_
      rintro e w8 ⟨rfl, b8⟩
      have b8' := Wk.below_step b7' b8
      clear b7' b8 t7
      go_wp2_with fail
      refine (Rr.dec_to (x ++ y) (n ++ m) H4.out w8 (by omega)).mono ?_
      rintro e w9 ⟨rfl, b9⟩
      have b9' := Wk.below_step b8' b9
      clear b8' b9
      go_wp2_with fail
      refine (Sz.norm_to s n HNo.out w9 (by omega)).mono ?_
      rintro e wa ⟨rfl, ba⟩
      have ba' := Wk.below_step b9' ba
      clear b9' ba
      go_wp2_with fail
      refine (Sz.norm_to t m HMo.out wa (by omega)).mono ?_
      rintro e wb ⟨rfl, bb⟩
      have bb' := Wk.below_step ba' bb
      clear ba' bb
      go_wp2
      go_ret
      exact ⟨rfl, bb'⟩
end Go.Proofs.YtpehplamidbkeaaDoor

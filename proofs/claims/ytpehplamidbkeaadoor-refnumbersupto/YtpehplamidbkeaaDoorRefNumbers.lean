/-
  THE WALK of stolelaw2.RefNumbers: for any number and any text of up to 2^30 bytes it returns true, and turns nothing that was there.
-/
import Derived.Test.YtpehplamidbkeaaDoorRDecimal
import Derived.Test.YtpehplamidbkeaaDoorRefSafe
namespace Go.Proofs.YtpehplamidbkeaaDoor
open Go.RowKit

def Nu.hex : ByteArray := ⟨#[48, 49, 50, 51, 52, 53, 54, 55, 56, 57, 97, 66, 99, 68, 101, 70]⟩
theorem Nu.hex_dig : ∀ i : Fin 16, Pl.dig (Nu.hex[i.val]'(by have := i.isLt; show i.val < 16; omega)) = i.val := by decide
theorem Nu.at (z : Nat) (h : z % 16 < Nu.hex.size) : Pl.dig (Nu.hex[z % 16]'h) = z % 16 := Nu.hex_dig ⟨z % 16, Nat.mod_lt _ (by decide)⟩
theorem Nu.ten (k : Nat) (D : ByteArray) (R : ByteArray) (t u : List UInt8) (h : Pl.Digs 10 7 k D.data.toList) (hR : R.data.toList = Pl.runeL k) (ht : Pl.decL t = u) : Pl.decL ([38, 35] ++ D.data.toList ++ [59] ++ t) = R.data.toList ++ u := by
  have := Pl.ref_dec D.data.toList t h.digs h.long h.short
  rw [h.val, ← hR, ht] at this
  simpa using this
theorem Nu.sixteen (k : Nat) (x : UInt8) (H : ByteArray) (R : ByteArray) (hx : x = 120 ∨ x = 88) (h : Pl.Digs 16 6 k H.data.toList) (hR : R.data.toList = Pl.runeL k) : Pl.decL ([38, 35, x] ++ H.data.toList ++ [59]) = R.data.toList := by
  have := Pl.ref_hex x H.data.toList [] hx h.digs h.long h.short
  rw [h.val, ← hR, Pl.decL_nil, List.append_nil] at this
  simpa using this
theorem Nu.open_ (k : Nat) (H : ByteArray) (h : Pl.Digs 16 6 k H.data.toList) : Pl.decL ([38, 35, 120] ++ H.data.toList) = [38, 35, 120] ++ H.data.toList := by
  refine Pl.dec_plain _ ?_
  intro hm
  rcases List.mem_append.1 hm with hm | hm
  · revert hm; decide
  · exact absurd (h.digs 59 hm) (by decide)
theorem Nu.size_of {D : ByteArray} {b m k : Nat} (h : Pl.Digs b m k D.data.toList) : D.size ≤ m := by rw [← Wk.len_data]; exact h.short
theorem Nu.rune (k : Nat) (w : World) : ∃ R : ByteArray, R.data.toList = Pl.runeL k ∧ R.size ≤ 4 ∧ Calls Tryd.prog 15 #[.int .i64 (k : Int)] w fun e w' => ∃ v, e = .returned v ∧ (convert 27 9 v).run Tryd.prog w' = .ok (.string R) w' ∧ Below w.heap.size w w' :=
  ⟨⟨(Pl.runeL k).toArray⟩, rfl, Pl.runeL_len k, (Ru.rune k w).mono fun _ _ ⟨v, he, ho, hb⟩ => ⟨v, he, Rn.conv ho, hb⟩⟩
theorem Nu.decimal (k : Nat) (hk : k < 10000000) (w : World) : Calls Tryd.prog 16 #[.int .i64 (k : Int)] w fun e w' => ∃ D : ByteArray, e = .returned (.string D) ∧ Hid (Pl.Digs 10 7 k D.data.toList) ∧ D.size ≤ 7 ∧ Below w.heap.size w w' :=
  (Dm.decimal k hk w).mono fun _ _ ⟨l, he, hd, hb⟩ => ⟨⟨l.toArray⟩, he, hd, Nu.size_of (D := ⟨l.toArray⟩) hd, hb⟩

set_option maxRecDepth 100000 in
set_option maxHeartbeats 2000000 in
theorem Law.refNumbers (x : Int) (t : ByteArray) (w : World) (hT : Lib.Utf8Tabs 1 2 w) (ht : t.size ≤ 1073741824) :
    Calls Tryd.prog 5 #[.int .i64 x, .string t] w fun e w' => e = .returned (.bool true) ∧ Below w.heap.size w w' := by
  obtain ⟨k, hk⟩ : ∃ k : Nat, x % 2097152 = (k : Int) := ⟨(x % 2097152).toNat, by omega⟩
  have hk2 : k < 2097152 := by omega
  have hx : bits .and .i64 x 2097151 = (k : Int) := (Bt.and21 x).trans hk
  clear hk
  go_enter Tryd.func5, Tryd.ntmps5
  go_wp2_with fail
  refine (Aw.awake w hT).mono ?_
  rintro e w1 ⟨rfl, b1⟩
  have t1 := Utf8Tabs_below hT b1
  go_wp2_with fail
  go_loopw [6, 7] (fun h y wr => ∃ (z : Nat) (H : ByteArray), h = .string H ∧ y = .int .i64 z ∧ z ≤ k ∧ H.size ≤ 6 ∧ Below w1.heap.size w1 wr ∧ Hid (Pl.Half 16 6 k z H.data.toList)) (fun h y _ => 2 * (intOf y).toNat + (match h with | .string H => if H.size = 0 then 1 else 0 | _ => 0))
  case atStart => exact ⟨k, ⟨#[]⟩, rfl, rfl, Nat.le_refl _, by decide, Below.refl _ _, ⟨(by simp), (by simp [Pl.val]), (by simp; omega), (by simp)⟩⟩
  case round =>
    obtain ⟨z, H, rfl, rfl, hzk, hH6, hb, HH⟩ := hrel
    by_cases hgo : 0 < z ∨ H.size = 0
    · have hzl : z % 16 < (⟨#[48, 49, 50, 51, 52, 53, 54, 55, 56, 57, 97, 66, 99, 68, 101, 70]⟩ : ByteArray).size := Nat.mod_lt _ (by decide)
      obtain ⟨c, hc⟩ : ∃ c, (⟨#[48, 49, 50, 51, 52, 53, 54, 55, 56, 57, 97, 66, 99, 68, 101, 70]⟩ : ByteArray)[z % 16]'hzl = c := ⟨_, rfl⟩
      have hd : Pl.dig c = z % 16 := by rw [← hc]; exact Nu.at z hzl
      have ha : bits .and .i64 (z : Int) 15 = ((z % 16 : Nat) : Int) := by rw [Bt.and4]; omega
      have hlt : H.data.toList.length < 6 := HH.out.lt (by decide) (hgo.imp_right fun h => List.eq_nil_of_length_eq_zero (by rw [Wk.len_data]; exact h))
      rw [Wk.len_data] at hlt
      have hst := HH.out.step (by decide) (by rw [Wk.len_data]; exact hlt) c hd
      have hb' := hb.alloc hb.size (.cells #[.int .u8 c.toNat] 5)
      have hconv := Rn.conv (acc := [c]) (Dm.one wr w1.heap.size c.toNat hb.size)
      obtain ⟨P, hP⟩ : ∃ P : ByteArray, P = ⟨[c].toArray⟩ := ⟨_, rfl⟩
      have hPd : P.data.toList = [c] := by rw [hP]
      have hPs : P.size = 1 := by rw [hP]; rfl
      rw [← hP] at hconv
      have hsz := Wk.cat2_size P H
      have HS : Hid (Pl.Half 16 6 k (z / 16) (P ++ H).data.toList) := by
        show Pl.Half _ _ _ _ _
        rw [Wk.cat2_data, hPd]; exact hst
      clear hd hst hP hPd HH
      by_cases hz : 0 < z
      · clear hgo
        go_wp2_with fail
        go_roundw
        case rel => exact ⟨z / 16, P ++ H, rfl, by go_num, by omega, by omega, hb', HS⟩
        case measure =>
          simp [intOf, hsz, hPs]
          omega
      · have h0 : H.size = 0 := by omega
        have hE := Rt.empty H h0
        have hE' : H.toList.isEmpty = true := by rw [hE]; rfl
        clear hgo
        go_wp2_with fail
        go_roundw
        case rel => exact ⟨z / 16, P ++ H, rfl, by go_num, by omega, by omega, hb', HS⟩
        case measure =>
          simp [intOf, hsz, hPs, h0]
          omega
    · have hz0 : z = 0 := by omega
      have hpos : 0 < H.size := by omega
      subst hz0
      have hE := Rt.nonempty H hpos
      have hE' : H.toList.isEmpty = false := by rw [List.isEmpty_eq_false_iff]; exact hE
      have HF : Hid (Pl.Digs 16 6 k H.data.toList) := HH.out.fin (by rw [← Lib.toList_data]; exact hE)
      have B1 := Wk.below_step b1 hb
      have T1 := Utf8Tabs_below t1 hb
      clear HH b1 t1 hb hx hgo
      obtain ⟨R, hR, hR4, cr⟩ := Nu.rune k wr
      have HR : Hid (R.data.toList = Pl.runeL k) := hR
      clear hR
      go_wp2_with fail
      refine cr.mono ?_
      rintro e w2 ⟨v, rfl, hconv, b2⟩
      have B2 := Wk.below_step B1 b2
      have T2 := Utf8Tabs_below T1 b2
      clear B1 b2 T1 cr
      go_wp2_with fail
      refine (Nu.decimal k (by omega) w2).mono ?_
      rintro e w3 ⟨D, rfl, HD, hD7, b3⟩
      have B3 := Wk.below_step B2 b3
      have T3 := Utf8Tabs_below T2 b3
      clear B2 b3 T2 hconv
      obtain ⟨A0, eA0⟩ : ∃ v : ByteArray, ⟨#[38, 35]⟩ ++ D = v := ⟨_, rfl⟩
      have zA0 : A0.size = D.size + 2 := by
        rw [← eA0, Wk.cat2_size]
        first | omega | (simp only [ByteArray.size, List.size_toArray, List.length_cons, List.length_nil] at *; try omega)
      obtain ⟨A, eA⟩ : ∃ v : ByteArray, A0 ++ ⟨#[59]⟩ = v := ⟨_, rfl⟩
      have zA : A.size = D.size + 3 := by
        rw [← eA, Wk.cat2_size]
        first | omega | (simp only [ByteArray.size, List.size_toArray, List.length_cons, List.length_nil] at *; try omega)
      obtain ⟨X0, eX0⟩ : ∃ v : ByteArray, ⟨#[38, 35, 120]⟩ ++ H = v := ⟨_, rfl⟩
      have zX0 : X0.size = H.size + 3 := by
        rw [← eX0, Wk.cat2_size]
        first | omega | (simp only [ByteArray.size, List.size_toArray, List.length_cons, List.length_nil] at *; try omega)
      obtain ⟨X, eX⟩ : ∃ v : ByteArray, X0 ++ ⟨#[59]⟩ = v := ⟨_, rfl⟩
      have zX : X.size = H.size + 4 := by
        rw [← eX, Wk.cat2_size]
        first | omega | (simp only [ByteArray.size, List.size_toArray, List.length_cons, List.length_nil] at *; try omega)
      obtain ⟨Y0, eY0⟩ : ∃ v : ByteArray, ⟨#[38, 35, 88]⟩ ++ H = v := ⟨_, rfl⟩
      have zY0 : Y0.size = H.size + 3 := by
        rw [← eY0, Wk.cat2_size]
        first | omega | (simp only [ByteArray.size, List.size_toArray, List.length_cons, List.length_nil] at *; try omega)
      obtain ⟨Y, eY⟩ : ∃ v : ByteArray, Y0 ++ ⟨#[59]⟩ = v := ⟨_, rfl⟩
      have zY : Y.size = H.size + 4 := by
        rw [← eY, Wk.cat2_size]
        first | omega | (simp only [ByteArray.size, List.size_toArray, List.length_cons, List.length_nil] at *; try omega)
      obtain ⟨R1, eR1⟩ : ∃ v : ByteArray, R ++ ⟨#[60]⟩ = v := ⟨_, rfl⟩
      have zR1 : R1.size = R.size + 1 := by
        rw [← eR1, Wk.cat2_size]
        first | omega | (simp only [ByteArray.size, List.size_toArray, List.length_cons, List.length_nil] at *; try omega)
      have HA : Hid (Pl.decL A.data.toList = R.data.toList) := by
        have := Nu.ten k D R [] [] HD.out HR.out rfl
        show _ = _
        rw [← eA, ← eA0, Wk.cat2_data, Wk.cat2_data]
        simpa using this
      have HXX : Hid (Pl.decL X.data.toList = R.data.toList) := by
        show _ = _
        rw [← eX, ← eX0, Wk.cat2_data, Wk.cat2_data]
        exact Nu.sixteen k 120 H R (.inl rfl) HF.out HR.out
      have HYY : Hid (Pl.decL Y.data.toList = R.data.toList) := by
        show _ = _
        rw [← eY, ← eY0, Wk.cat2_data, Wk.cat2_data]
        exact Nu.sixteen k 88 H R (.inr rfl) HF.out HR.out
      have HX0 : Hid (Pl.decL X0.data.toList = X0.data.toList) := by
        show _ = _
        rw [← eX0, Wk.cat2_data]
        exact Nu.open_ k H HF.out
      clear HD HF
      go_wp2_with fail
      refine (Rr.dec_to A R HA.out w3 (by omega)).mono ?_
      rintro e w4 ⟨rfl, b4⟩
      have B4 := Wk.below_step B3 b4
      have T4 := Utf8Tabs_below T3 b4
      clear B3 b4 T3
      go_wp2_with fail
      refine (Rr.dec_to X R HXX.out w4 (by omega)).mono ?_
      rintro e w5 ⟨rfl, b5⟩
      have B5 := Wk.below_step B4 b5
      have T5 := Utf8Tabs_below T4 b5
      clear B4 b5 T4
      go_wp2_with fail
      refine (Rr.dec_to Y R HYY.out w5 (by omega)).mono ?_
      rintro e w6 ⟨rfl, b6⟩
      have B6 := Wk.below_step B5 b6
      have T6 := Utf8Tabs_below T5 b6
      clear B5 b6 T5
      go_wp2_with fail
      refine (Nu.decimal k (by omega) w6).mono ?_
      rintro e w7 ⟨E, rfl, HEd, hE7, b7⟩
      have B7 := Wk.below_step B6 b7
      have T7 := Utf8Tabs_below T6 b7
      clear B6 b7 T6
      obtain ⟨E0, eE0⟩ : ∃ v : ByteArray, ⟨#[38, 35]⟩ ++ E = v := ⟨_, rfl⟩
      have zE0 : E0.size = E.size + 2 := by
        rw [← eE0, Wk.cat2_size]
        first | omega | (simp only [ByteArray.size, List.size_toArray, List.length_cons, List.length_nil] at *; try omega)
      obtain ⟨E1, eE1⟩ : ∃ v : ByteArray, E0 ++ ⟨#[59]⟩ = v := ⟨_, rfl⟩
      have zE1 : E1.size = E.size + 3 := by
        rw [← eE1, Wk.cat2_size]
        first | omega | (simp only [ByteArray.size, List.size_toArray, List.length_cons, List.length_nil] at *; try omega)
      obtain ⟨E2, eE2⟩ : ∃ v : ByteArray, E1 ++ ⟨#[38, 108, 116, 59]⟩ = v := ⟨_, rfl⟩
      have zE2 : E2.size = E.size + 7 := by
        rw [← eE2, Wk.cat2_size]
        first | omega | (simp only [ByteArray.size, List.size_toArray, List.length_cons, List.length_nil] at *; try omega)
      have HE2 : Hid (Pl.decL E2.data.toList = R1.data.toList) := by
        have := Nu.ten k E R [38, 108, 116, 59] [60] HEd.out HR.out (by decide +kernel)
        show _ = _
        rw [← eE2, ← eE1, ← eE0, ← eR1, Wk.cat2_data, Wk.cat2_data, Wk.cat2_data, Wk.cat2_data]
        exact this
      clear HEd
      go_wp2_with fail
      refine (Rr.dec_to E2 R1 HE2.out w7 (by omega)).mono ?_
      rintro e w8 ⟨rfl, b8⟩
      have B8 := Wk.below_step B7 b8
      have T8 := Utf8Tabs_below T7 b8
      clear B7 b8 T7
      go_wp2_with fail
      refine (Rr.dec_to X0 X0 HX0.out w8 (by omega)).mono ?_
      rintro e w9 ⟨rfl, b9⟩
      have B9 := Wk.below_step B8 b9
      have T9 := Utf8Tabs_below T8 b9
      clear B8 b9 T8
      go_wp2_with fail
      refine (Rr.dec_to ⟨#[38, 35, 59, 38, 35, 120, 59, 38, 59]⟩ ⟨#[38, 35, 59, 38, 35, 120, 59, 38, 59]⟩ (by decide +kernel) w9 (by decide)).mono ?_
      rintro e wa ⟨rfl, ba⟩
      have BA := Wk.below_step B9 ba
      have TA := Utf8Tabs_below T9 ba
      clear B9 ba T9
      by_cases ht0 : t.size = 0
      · have hte := Rt.empty t ht0
        have hte' : t.toList.isEmpty = true := by rw [hte]; rfl
        clear ht0
        go_wp2
        go_ret
        exact ⟨rfl, BA⟩
      · have hte := Rt.nonempty t (by omega)
        have hte' : t.toList.isEmpty = false := by rw [List.isEmpty_eq_false_iff]; exact hte
        obtain ⟨n, HNo, hn⟩ := Wk.ex_norm t
        obtain ⟨y, HY, hy⟩ := Wk.ex_enc t
        obtain ⟨L1, eL1⟩ : ∃ v : ByteArray, ⟨#[60]⟩ ++ y = v := ⟨_, rfl⟩
        have zL1 : L1.size = y.size + 1 := by
          rw [← eL1, Wk.cat2_size]
          first | omega | (simp only [ByteArray.size, List.size_toArray, List.length_cons, List.length_nil] at *; try omega)
        obtain ⟨L2, eL2⟩ : ∃ v : ByteArray, ⟨#[60]⟩ ++ n = v := ⟨_, rfl⟩
        have zL2 : L2.size = n.size + 1 := by
          rw [← eL2, Wk.cat2_size]
          first | omega | (simp only [ByteArray.size, List.size_toArray, List.length_cons, List.length_nil] at *; try omega)
        have HL : Hid (Pl.decL L1.data.toList = L2.data.toList) := by
          show _ = _
          rw [← eL1, ← eL2, Wk.cat2_data, Wk.cat2_data, ← HY.out, ← HNo.out]
          show Pl.decL (60 :: Pl.encL t.data.toList) = 60 :: Pl.normL t.data.toList
          rw [Pl.decL_other 60 _ (by decide), Pl.dec_enc']
        clear ht0
        go_wp2_with fail
        refine (Re.enc_to t y HY.out wa TA (by omega)).mono ?_
        rintro e wb ⟨rfl, bb⟩
        have BB := Wk.below_step BA bb
        clear BA bb TA
        go_wp2_with fail
        refine (Rr.dec_to L1 L2 HL.out wb (by omega)).mono ?_
        rintro e wc ⟨rfl, bc⟩
        have BC := Wk.below_step BB bc
        clear BB bc
        go_wp2_with fail
        refine (Sz.norm_to t n HNo.out wc (by omega)).mono ?_
        rintro e wd ⟨rfl, bd⟩
        have BD := Wk.below_step BC bd
        clear BC bd
        go_wp2
        go_ret
        exact ⟨rfl, BD⟩
end Go.Proofs.YtpehplamidbkeaaDoor

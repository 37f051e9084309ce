/-
  THE WALK of stolelaw9.UrlTwice: for any text of up to 2^30 bytes it returns true.
-/
import Derived.Test.YtfjhbhddfpkebaaDoorQTo
namespace Go.Proofs.YtfjhbhddfpkebaaDoor
open Go.RowKit
theorem Ug.pl_step {l : List UInt8} {i : Nat} {c : UInt8} (h : l[i]? = some c) : (l.take (i + 1)).all (fun d => decide (d ≠ 37)) = ((l.take i).all (fun d => decide (d ≠ 37)) && decide (c ≠ 37)) := by
  have hl := (List.getElem?_eq_some_iff.1 h).1
  have e := (List.getElem?_eq_some_iff.1 h).2
  rw [List.take_succ_eq_append_getElem hl, e, List.all_append]
  simp
set_option maxRecDepth 100000 in
set_option maxHeartbeats 2000000 in
theorem Law.urlTwice (s : ByteArray) (w : World) (hT : Ut w) (hs : s.size ≤ 1073741824) : Calls Tryd.prog 8 #[.string s] w fun e w' => e = .returned (.bool true) ∧ Below w.heap.size w w' := by
  obtain ⟨x, HX, hx⟩ := Wk.ex_start s
  obtain ⟨y, HY, hy⟩ := Wk.ex_part s
  obtain ⟨z, HZ, hz⟩ := Wk.ex_part y
  have HXX : Hid (Ug.start x.data.toList = x.data.toList) := by unfold Hid; rw [← HX.out]; exact Ug.start_start _
  have HP : Hid (z = y ↔ ∀ d ∈ y.data.toList, d ≠ 37) := by
    unfold Hid
    have := Ug.part_part s.data.toList
    rw [HY.out, HZ.out] at this
    rw [← this]
    exact ⟨fun q => by rw [q], Wk.ext⟩
  have c1 := fun u hT => Up.start_to HX.out u hT (by omega)
  have c2 := fun u hT => Up.part_to HY.out u hT (by omega)
  have c3 := fun u hT => Up.start_to HXX.out u hT (by omega)
  have c4 := fun u hT => Up.part_to HZ.out u hT (by omega)
  clear HX HY HZ HXX
  go_enter Tryd.func8, Tryd.ntmps8
  go_wp2_with fail
  refine (Ua.awake w hT).mono ?_
  rintro e w1 ⟨rfl, b1⟩
  have t1 := Utf8Tabs_below hT b1
  go_wp2_with fail
  refine (c1 w1 t1).mono ?_
  rintro e w2 ⟨rfl, b2⟩
  have t2 := Utf8Tabs_below t1 b2
  have b2' := Wk.below_step b1 b2
  clear b1 b2 t1
  go_wp2_with fail
  refine (c2 w2 t2).mono ?_
  rintro e w3 ⟨rfl, b3⟩
  have t3 := Utf8Tabs_below t2 b3
  have b3' := Wk.below_step b2' b3
  clear b2' b3 t2 c1 c2
  go_wp2_with fail
  go_loopw [5, 6] (fun bv ix wr => ∃ i : Nat, i ≤ y.size ∧ ix = .int .i64 (i : Int) ∧ bv = .bool ((y.data.toList.take i).all fun d => decide (d ≠ 37)) ∧ wr = w3) (fun _ ix _ => y.size - (intOf ix).toNat)
  case atStart => exact ⟨0, Nat.zero_le _, rfl, rfl, rfl⟩
  case round =>
    obtain ⟨i, hi, rfl, rfl, hw⟩ := hrel
    have hw := hw.symm
    subst hw
    by_cases hlt : i < y.size
    · have d1 : decide ((i : Int) < (y.size : Int)) = true := decide_eq_true (by omega)
      have HS := Lib.hid (Ug.pl_step (Qr.at hlt))
      generalize (y.data.toList.take i).all (fun d => decide (d ≠ 37)) = b at *
      clear c3 c4
      cases b
      · go_wp2
        go_roundw
        case rel => exact ⟨i + 1, by omega, by go_num, by rw [HS.out]; rfl, by first | rfl | trivial⟩
        case measure => simp [intOf]; omega
      · by_cases h37 : y[i] = 37
        · have n1 : ((y[i].toNat : Int) != 37) = false := Qs.ne_false (d := 37) h37
          have e : (true && decide (y[i] ≠ 37)) = false := by simp [h37]
          have HS := Lib.hid (HS.out.trans e)
          clear e
          clear h37
          go_wp2
          go_roundw
          case rel => exact ⟨i + 1, by omega, by go_num, by rw [HS.out], by first | rfl | trivial⟩
          case measure => simp [intOf]; omega
        · have n1 : ((y[i].toNat : Int) != 37) = true := Qs.ne_true (d := 37) h37
          have e : (true && decide (y[i] ≠ 37)) = true := by simp [h37]
          have HS := Lib.hid (HS.out.trans e)
          clear e
          clear h37
          go_wp2
          go_roundw
          case rel => exact ⟨i + 1, by omega, by go_num, by rw [HS.out], by first | rfl | trivial⟩
          case measure => simp [intOf]; omega
    · have e : i = y.size := by omega
      subst e
      have d1 : decide ((y.size : Int) < (y.size : Int)) = false := decide_eq_false (by omega)
      have HPP : Hid (z = y ↔ (y.data.toList.take y.size).all (fun d => decide (d ≠ 37)) = true) := by
        unfold Hid
        rw [HP.out, List.take_of_length_le (by rw [Wk.len_data]; exact Nat.le_refl _), List.all_eq_true]
        exact ⟨fun q d hd => decide_eq_true (q d hd), fun q d hd => of_decide_eq_true (q d hd)⟩
      clear HP
      generalize (y.data.toList.take y.size).all (fun d => decide (d ≠ 37)) = b at *
      have z2 : (z.toList == y.toList) = b := by
        have h := HPP.out
        cases b
        · have hn : ¬ z = y := fun q => Bool.false_ne_true (h.1 q)
          refine beq_eq_false_iff_ne.2 fun q => hn (Wk.ext ?_)
          rw [ByteArray.toList_eq, ByteArray.toList_eq] at q
          exact q
        · rw [h.2 rfl]
          exact beq_self_eq_true _
      have hb : (b == b) = true := by cases b <;> rfl
      clear HPP
      go_wp2_with fail
      refine (c3 _ t3).mono ?_
      rintro e w4 ⟨rfl, b4⟩
      have t4 := Utf8Tabs_below t3 b4
      have b4' := Wk.below_step b3' b4
      clear b3' b4 t3
      go_wp2_with fail
      refine (c4 _ t4).mono ?_
      rintro e w5 ⟨rfl, b5⟩
      have b5' := Wk.below_step b4' b5
      clear b4' b5 t4
      go_wp2_with fail
      refine (Wk.num _).mono ?_
      rintro e w6 ⟨rfl, rfl⟩
      go_wp2
      go_ret
      exact ⟨rfl, b5'⟩
end Go.Proofs.YtfjhbhddfpkebaaDoor

/-
  THE WALK of stolelaw9.UrlSafe: for any two texts of up to 2^30 bytes it returns true.
-/
import Derived.Test.YtfjhbhddfpkebaaDoorQTo
namespace Go.Proofs.YtfjhbhddfpkebaaDoor
open Go.RowKit
theorem Qr.mem {T : ByteArray} {i : Nat} (h : i < T.size) : T[i] ∈ T.data.toList := List.mem_of_getElem? (Qr.at h)
theorem Ug.safe_parts {c : UInt8} (h : Ug.safe c = true) : (33 ≤ c.toNat ∧ c.toNat < 127) ∧ ¬ c = 34 ∧ ¬ c = 39 ∧ ¬ c = 60 ∧ ¬ c = 62 := by
  unfold Ug.safe at h
  simpa [Bool.and_eq_true, and_assoc] using h
theorem Ug.sober_parts {c : UInt8} (h : Ug.sober c = true) : Ug.safe c = true ∧ ¬ c = 58 ∧ ¬ c = 47 ∧ ¬ c = 63 ∧ ¬ c = 35 ∧ ¬ c = 38 := by
  unfold Ug.sober at h
  simpa [Bool.and_eq_true, and_assoc] using h
set_option maxRecDepth 100000 in
set_option maxHeartbeats 4000000 in
theorem Law.urlSafe (s t : ByteArray) (w : World) (hT : Ut w) (hs : s.size ≤ 1073741824) (ht : t.size ≤ 1073741824) : Calls Tryd.prog 4 #[.string s, .string t] w fun e w' => e = .returned (.bool true) ∧ Below w.heap.size w w' := by
  obtain ⟨x, HX, hx⟩ := Wk.ex_start s
  obtain ⟨y, HY, hy⟩ := Wk.ex_part t
  have HXS : Hid (∀ d ∈ x.data.toList, Ug.safe d = true) := fun d hd => by
    rw [← HX.out] at hd
    exact (Ug.more_safe d (Ug.start_stays _ d hd)).1
  have HYS : Hid (∀ d ∈ y.data.toList, Ug.sober d = true) := fun d hd => by
    rw [← HY.out] at hd
    exact Ug.pct_part _ d hd
  have HYN : Hid (Ug.scheme y.data.toList = none) := by unfold Hid; rw [← HY.out]; exact Ug.part_scheme _
  have HBO : Hid (∀ b, Ug.scheme (x ++ y).data.toList = some b → Ug.scheme x.data.toList = some b) := fun b hb => by
    rw [Wk.cat2_data, ← HX.out, ← HY.out] at hb
    rw [← HX.out]
    exact Ug.both hb
  have HSC : Hid (Ug.scheme x.data.toList = none ∨ ∃ a, Ug.scheme x.data.toList = some a ∧ Ug.known a = true) := by
    unfold Hid
    rw [← HX.out]
    exact Ug.start_scheme _
  have hcs := Wk.cat2_size x y
  have c1 := fun u hT => Up.start_to HX.out u hT (by omega)
  have c2 := fun u hT => Up.part_to HY.out u hT (by omega)
  have c4 := fun u => Up.none HYN.out u (by omega)
  clear HX HY HYN
  have HC : Hid ((∃ a : ByteArray, Ug.scheme x.data.toList = some a.data.toList ∧ (a = ⟨#[104, 116, 116, 112]⟩ ∨ a = ⟨#[104, 116, 116, 112, 115]⟩ ∨ a = ⟨#[109, 97, 105, 108, 116, 111]⟩ ∨ a = ⟨#[116, 101, 108]⟩)) ∨ (Ug.scheme x.data.toList = none)) := by
    rcases HSC.out with q | ⟨a, q, k⟩
    · exact .inr q
    · refine .inl ⟨⟨a.toArray⟩, q, ?_⟩
      unfold Ug.known at k
      simp only [Bool.or_eq_true, decide_eq_true_eq] at k
      rcases k with ((k | k) | k) | k
      · exact .inl (Wk.ext k)
      · exact .inr (.inl (Wk.ext k))
      · exact .inr (.inr (.inl (Wk.ext k)))
      · exact .inr (.inr (.inr (Wk.ext k)))
  clear HSC
  have hend : ∀ (o : Option (List UInt8)), Ug.scheme x.data.toList = o → Ug.scheme (x ++ y).data.toList = none ∨ Ug.scheme (x ++ y).data.toList = o := fun o ho => by
    cases hq : Ug.scheme (x ++ y).data.toList with
    | none => exact .inl rfl
    | some b => exact .inr ((HBO.out b hq).symm.trans ho)
  clear HBO
  rcases HC.out with ⟨a, hsc, ha⟩ | hsc
  · have HE := Lib.hid (hend _ hsc)
    have c3 := fun u => Up.some hsc u (by omega)
    have c5 := fun (h : Ug.scheme (x ++ y).data.toList = some a.data.toList) u => Up.some h u (by omega)
    have c6 := fun (h : Ug.scheme (x ++ y).data.toList = none) u => Up.none h u (by omega)
    clear hend HC hsc
    rcases ha with rfl | rfl | rfl | rfl
    all_goals
      go_enter Tryd.func4, Tryd.ntmps4
      go_wp2_with fail
      refine (Ua.awake w hT).mono ?_
      rintro e w1 ⟨rfl, b1⟩
      have t1 := Utf8Tabs_below hT b1
      go_wp2_with fail
      refine (c1 w1 t1).mono ?_
      rintro e w2 ⟨rfl, b2⟩
      have t2 := Utf8Tabs_below t1 b2
      have b2' := Wk.below_step b1 b2
      clear b1 b2 t1
      go_wp2_with fail
      refine (c2 w2 t2).mono ?_
      rintro e w3 ⟨rfl, b3⟩
      have b3' := Wk.below_step b2' b3
      clear b2' b3 t2
      go_wp2_with fail
      refine (c3 w3).mono ?_
      rintro e w4 ⟨rfl, b4⟩
      have b4' := Wk.below_step b3' b4
      clear b3' b4
      go_wp2_with fail
      refine (c4 w4).mono ?_
      rintro e w5 ⟨rfl, b5⟩
      have b5' := Wk.below_step b4' b5
      clear b4' b5 c1 c2 c3 c4
      go_wp2_with fail
      go_loopw [11] (fun ix wr => ∃ i : Nat, i ≤ x.size ∧ ix = .int .i64 (i : Int) ∧ wr = w5) (fun ix _ => x.size - (intOf ix).toNat)
      case atStart => exact ⟨0, Nat.zero_le _, rfl, rfl⟩
      case round =>
        obtain ⟨i, hi, rfl, hw⟩ := hrel
        have hw := hw.symm
        subst hw
        by_cases hlt : i < x.size
        · have hS := Ug.safe_parts (HXS.out _ (Qr.mem hlt))
          have d1 : decide ((i : Int) < (x.size : Int)) = true := decide_eq_true (by omega)
          have e1 : decide ((x[i].toNat : Int) ≤ 32) = false := decide_eq_false (by omega)
          have e2 : decide ((x[i].toNat : Int) ≥ 127) = false := decide_eq_false (by omega)
          have e3 : ((x[i].toNat : Int) == 34) = false := Qs.eq_false (d := 34) hS.2.1
          have e4 : ((x[i].toNat : Int) == 39) = false := Qs.eq_false (d := 39) hS.2.2.1
          have e5 : ((x[i].toNat : Int) == 60) = false := Qs.eq_false (d := 60) hS.2.2.2.1
          have e6 : ((x[i].toNat : Int) == 62) = false := Qs.eq_false (d := 62) hS.2.2.2.2
          have hS := hS.1
          clear c5 c6
          go_wp2
          go_roundw
          case rel => exact ⟨i + 1, by omega, by go_num, by first | rfl | trivial⟩
          case measure => simp [intOf]; omega
        · have e : i = x.size := by omega
          subst e
          have d1 : decide ((x.size : Int) < (x.size : Int)) = false := decide_eq_false (by omega)
          go_wp2_with fail
          go_loopw [12] (fun ix wr => ∃ i : Nat, i ≤ y.size ∧ ix = .int .i64 (i : Int) ∧ wr = w5) (fun ix _ => y.size - (intOf ix).toNat)
          case atStart => exact ⟨0, Nat.zero_le _, rfl, rfl⟩
          case round =>
            obtain ⟨i, hi, rfl, hw⟩ := hrel
            have hw := hw.symm
            subst hw
            by_cases hlt : i < y.size
            · have hS := Ug.sober_parts (HYS.out _ (Qr.mem hlt))
              have hP := Ug.safe_parts hS.1
              have d1 : decide ((i : Int) < (y.size : Int)) = true := decide_eq_true (by omega)
              have e1 : ((y[i].toNat : Int) == 58) = false := Qs.eq_false (d := 58) hS.2.1
              have e2 : ((y[i].toNat : Int) == 47) = false := Qs.eq_false (d := 47) hS.2.2.1
              have e3 : ((y[i].toNat : Int) == 63) = false := Qs.eq_false (d := 63) hS.2.2.2.1
              have e4 : ((y[i].toNat : Int) == 35) = false := Qs.eq_false (d := 35) hS.2.2.2.2.1
              have e5 : ((y[i].toNat : Int) == 38) = false := Qs.eq_false (d := 38) hS.2.2.2.2.2
              have e6 : decide ((y[i].toNat : Int) ≤ 32) = false := decide_eq_false (by omega)
              have e7 : decide ((y[i].toNat : Int) ≥ 127) = false := decide_eq_false (by omega)
              have e8 : ((y[i].toNat : Int) == 34) = false := Qs.eq_false (d := 34) hP.2.1
              have e9 : ((y[i].toNat : Int) == 39) = false := Qs.eq_false (d := 39) hP.2.2.1
              have hP := hP.1
              clear c5 c6 hS
              go_wp2
              go_roundw
              case rel => exact ⟨i + 1, by omega, by go_num, by first | rfl | trivial⟩
              case measure => simp [intOf]; omega
            · have e : i = y.size := by omega
              subst e
              have d1 : decide ((y.size : Int) < (y.size : Int)) = false := decide_eq_false (by omega)
              rcases HE.out with h | h
              · have c6 := c6 h
                clear c5 h
                go_wp2_with fail
                refine (c6 _).mono ?_
                rintro e w6 ⟨rfl, b6⟩
                have b6' := Wk.below_step b5' b6
                clear b5' b6 c6
                go_wp2
                go_ret
                exact ⟨rfl, b6'⟩
              · have c5 := c5 h
                clear c6 h
                go_wp2_with fail
                refine (c5 _).mono ?_
                rintro e w6 ⟨rfl, b6⟩
                have b6' := Wk.below_step b5' b6
                clear b5' b6 c5
                go_wp2
                go_ret
                exact ⟨rfl, b6'⟩
  · have HE := Lib.hid (hend _ hsc)
    have c3 := fun u => Up.none hsc u (by omega)
    have c5 := fun (h : Ug.scheme (x ++ y).data.toList = none) u => Up.none h u (by omega)
    have c6 := fun (h : Ug.scheme (x ++ y).data.toList = none) u => Up.none h u (by omega)
    clear hend HC hsc
    go_enter Tryd.func4, Tryd.ntmps4
    go_wp2_with fail
    refine (Ua.awake w hT).mono ?_
    rintro e w1 ⟨rfl, b1⟩
    have t1 := Utf8Tabs_below hT b1
    go_wp2_with fail
    refine (c1 w1 t1).mono ?_
    rintro e w2 ⟨rfl, b2⟩
    have t2 := Utf8Tabs_below t1 b2
    have b2' := Wk.below_step b1 b2
    clear b1 b2 t1
    go_wp2_with fail
    refine (c2 w2 t2).mono ?_
    rintro e w3 ⟨rfl, b3⟩
    have b3' := Wk.below_step b2' b3
    clear b2' b3 t2
    go_wp2_with fail
    refine (c3 w3).mono ?_
    rintro e w4 ⟨rfl, b4⟩
    have b4' := Wk.below_step b3' b4
    clear b3' b4
    go_wp2_with fail
    refine (c4 w4).mono ?_
    rintro e w5 ⟨rfl, b5⟩
    have b5' := Wk.below_step b4' b5
    clear b4' b5 c1 c2 c3 c4
    go_wp2_with fail
    go_loopw [11] (fun ix wr => ∃ i : Nat, i ≤ x.size ∧ ix = .int .i64 (i : Int) ∧ wr = w5) (fun ix _ => x.size - (intOf ix).toNat)
    case atStart => exact ⟨0, Nat.zero_le _, rfl, rfl⟩
    case round =>
      obtain ⟨i, hi, rfl, hw⟩ := hrel
      have hw := hw.symm
      subst hw
      by_cases hlt : i < x.size
      · have hS := Ug.safe_parts (HXS.out _ (Qr.mem hlt))
        have d1 : decide ((i : Int) < (x.size : Int)) = true := decide_eq_true (by omega)
        have e1 : decide ((x[i].toNat : Int) ≤ 32) = false := decide_eq_false (by omega)
        have e2 : decide ((x[i].toNat : Int) ≥ 127) = false := decide_eq_false (by omega)
        have e3 : ((x[i].toNat : Int) == 34) = false := Qs.eq_false (d := 34) hS.2.1
        have e4 : ((x[i].toNat : Int) == 39) = false := Qs.eq_false (d := 39) hS.2.2.1
        have e5 : ((x[i].toNat : Int) == 60) = false := Qs.eq_false (d := 60) hS.2.2.2.1
        have e6 : ((x[i].toNat : Int) == 62) = false := Qs.eq_false (d := 62) hS.2.2.2.2
        have hS := hS.1
        clear c5 c6
        go_wp2
        go_roundw
        case rel => exact ⟨i + 1, by omega, by go_num, by first | rfl | trivial⟩
        case measure => simp [intOf]; omega
      · have e : i = x.size := by omega
        subst e
        have d1 : decide ((x.size : Int) < (x.size : Int)) = false := decide_eq_false (by omega)
        go_wp2_with fail
        go_loopw [12] (fun ix wr => ∃ i : Nat, i ≤ y.size ∧ ix = .int .i64 (i : Int) ∧ wr = w5) (fun ix _ => y.size - (intOf ix).toNat)
        case atStart => exact ⟨0, Nat.zero_le _, rfl, rfl⟩
        case round =>
          obtain ⟨i, hi, rfl, hw⟩ := hrel
          have hw := hw.symm
          subst hw
          by_cases hlt : i < y.size
          · have hS := Ug.sober_parts (HYS.out _ (Qr.mem hlt))
            have hP := Ug.safe_parts hS.1
            have d1 : decide ((i : Int) < (y.size : Int)) = true := decide_eq_true (by omega)
            have e1 : ((y[i].toNat : Int) == 58) = false := Qs.eq_false (d := 58) hS.2.1
            have e2 : ((y[i].toNat : Int) == 47) = false := Qs.eq_false (d := 47) hS.2.2.1
            have e3 : ((y[i].toNat : Int) == 63) = false := Qs.eq_false (d := 63) hS.2.2.2.1
            have e4 : ((y[i].toNat : Int) == 35) = false := Qs.eq_false (d := 35) hS.2.2.2.2.1
            have e5 : ((y[i].toNat : Int) == 38) = false := Qs.eq_false (d := 38) hS.2.2.2.2.2
            have e6 : decide ((y[i].toNat : Int) ≤ 32) = false := decide_eq_false (by omega)
            have e7 : decide ((y[i].toNat : Int) ≥ 127) = false := decide_eq_false (by omega)
            have e8 : ((y[i].toNat : Int) == 34) = false := Qs.eq_false (d := 34) hP.2.1
            have e9 : ((y[i].toNat : Int) == 39) = false := Qs.eq_false (d := 39) hP.2.2.1
            have hP := hP.1
            clear c5 c6 hS
            go_wp2
            go_roundw
            case rel => exact ⟨i + 1, by omega, by go_num, by first | rfl | trivial⟩
            case measure => simp [intOf]; omega
          · have e : i = y.size := by omega
            subst e
            have d1 : decide ((y.size : Int) < (y.size : Int)) = false := decide_eq_false (by omega)
            rcases HE.out with h | h
            · have c6 := c6 h
              clear c5 h
              go_wp2_with fail
              refine (c6 _).mono ?_
              rintro e w6 ⟨rfl, b6⟩
              have b6' := Wk.below_step b5' b6
              clear b5' b6 c6
              go_wp2
              go_ret
              exact ⟨rfl, b6'⟩
            · have c5 := c5 h
              clear c6 h
              go_wp2_with fail
              refine (c5 _).mono ?_
              rintro e w6 ⟨rfl, b6⟩
              have b6' := Wk.below_step b5' b6
              clear b5' b6 c5
              go_wp2
              go_ret
              exact ⟨rfl, b6'⟩
end Go.Proofs.YtfjhbhddfpkebaaDoor

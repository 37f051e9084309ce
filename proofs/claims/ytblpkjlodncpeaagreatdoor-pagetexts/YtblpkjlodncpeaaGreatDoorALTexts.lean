/-
  THE WALK of stolelaw8.PageTexts.
-/
import Derived.Test.YtblpkjlodncpeaaGreatDoorALAwtoKBulk
namespace Go.Proofs.YtblpkjlodncpeaaGreatDoor
open Go.RowKit
theorem Lt.ne_true {c d : UInt8} (h : ¬ c = d) : ((c.toNat : Int) != (d.toNat : Int)) = true := by rw [bne, Tp.eq_false h]; rfl
theorem Lt.ne_false {c d : UInt8} (h : c = d) : ((c.toNat : Int) != (d.toNat : Int)) = false := by rw [bne, Tp.eq_true h]; rfl
theorem Lt.conv (u : World) (c : UInt8) : (convert 43 9 (.slice (some ⟨u.heap.size, 0, none⟩) 1 1)).run Tryz.prog (u.alloc (.cells #[.int .u8 (c.toNat : Int)] 5)) = .ok (.string ⟨#[c]⟩) (u.alloc (.cells #[.int .u8 (c.toNat : Int)] 5)) :=
  Dm.conv (acc := [c]) (World.ownsRow_lit (base := 0) (e := 5) (size := 1) u #[.int .u8 (c.toNat : Int)] 1 (Nat.zero_le _) (by decide) rfl)
set_option maxRecDepth 100000 in
set_option maxHeartbeats 8000000 in
theorem Law.pageTexts (s t : ByteArray) (m : Int) (w : World) (hm : w.cell? ⟨1, 0, none⟩ = some (.int .i64 m)) (htab : Pq.Tab w) (hs : s.size ≤ reachBytes) (ht : t.size ≤ reachBytes) :
    Calls Tryz.prog 4 #[.string s, .string t] w fun e w' => e = .returned (.bool true) ∧ Below w.heap.size w w' := by
  have aw := A8.awake m w hm htab
  have HTB := Lib.hid htab
  obtain ⟨ns, k, hI⟩ := Kp.ex s
  have hmx : s.size ≤ maxLen := by unfold reachBytes at hs; unfold maxLen; omega
  have ht63 : t.size ≤ 9223372036854775807 := by unfold reachBytes at ht; omega
  have pa := fun u hu => Pq.parse m s ns k hI u hmx (Tp.keep (W := w) (w1 := u) hu hm)
  have HM := Lib.hid hm
  have HI := Lib.hid hI
  clear hm hs ht htab
  by_cases hk : k = 0
  · subst hk
    have hsz := (hI.ok rfl).1
    have HMAY := Lib.hid (hI.may rfl)
    have hlen := hI.len
    have HSB := Lib.hid (Kb.page hI)
    clear hI
    go_enter Tryz.func4, Tryz.ntmps4
    go_upto_region 7 with (first | (go_at_call 17; refine aw.mono ?_; rintro e w1 ⟨rfl, q1⟩; clear aw; have HB1 := Lib.hid q1; have pa := pa w1 q1; clear q1) | (go_at_call 7; refine pa.mono ?_; rintro e w2 ⟨a2, d2, rfl, l2, b2⟩; clear pa; have HB2 := Lib.hid (HB1.out.trans (b2.mono HB1.out.size)); have sa := Pq.skeleton ns a2 d2 w2 (l2.on fun j hj => ⟨hj.2.1, rfl⟩) (by omega) HSB.out (HTB.out.on HB2.out); clear l2 b2) | (go_at_call 14; refine (A8.num _ _).mono ?_; rintro e w' ⟨rfl, hw⟩; have hw := hw.symm; subst hw) | (go_at_call 9; refine sa.mono ?_; rintro e w3 ⟨b3, hc⟩; clear sa; have he : e = .returned (.tuple #[.string ⟨(Sk.skel ns).toArray⟩, .int .i64 0]) := (by rcases hc with q | q; exact absurd HMAY.out q.1; exact q.2); subst he; have HB3 := Lib.hid (HB2.out.trans (b3.mono HB2.out.size)); clear hc b3))
    go_wp2_with fail
    go_loopw [9, 10] (fun x ix wr => ∃ (i : Nat) (T : ByteArray), i ≤ t.size ∧ i ≤ 40 ∧ x = .string T ∧ ix = .int .i64 (i : Int) ∧ T.size ≤ i ∧ Hid (∀ c ∈ T.data.toList, c ≠ 60) ∧ Hid (Below w.heap.size w wr)) (fun _ ix _ => 40 - (intOf ix).toNat)
    case atStart => exact ⟨0, ⟨#[]⟩, Nat.zero_le _, Nat.zero_le _, rfl, rfl, Nat.le_refl _, (fun c hc => by cases hc), HB3.out⟩
    case round =>
      clear HB3
      obtain ⟨i, T, hi, hi40, rfl, rfl, hT, HT, HB⟩ := hrel
      by_cases hlt : i < t.size ∧ i < 40
      · obtain ⟨hlt, hl40⟩ := hlt
        have d1 : decide ((i : Int) < (t.size : Int)) = true := decide_eq_true (by omega)
        have d2 : decide ((i : Int) < 40) = true := decide_eq_true (by omega)
        by_cases c1 : t[i] = 60
        · have t1 : ((t[i].toNat : Int) != 60) = false := Lt.ne_false c1
          clear c1
          go_wp2
          go_roundw
          case rel => exact ⟨i + 1, T, by omega, by omega, rfl, by go_num, by omega, HT, HB⟩
          case measure => simp [intOf]; omega
        · have t1 : ((t[i].toNat : Int) != 60) = true := Lt.ne_true c1
          by_cases c2 : t[i] = 62
          · have t2 : ((t[i].toNat : Int) != 62) = false := Lt.ne_false c2
            clear c1 c2
            go_wp2
            go_roundw
            case rel => exact ⟨i + 1, T, by omega, by omega, rfl, by go_num, by omega, HT, HB⟩
            case measure => simp [intOf]; omega
          · have t2 : ((t[i].toNat : Int) != 62) = true := Lt.ne_true c2
            have hcv := Lt.conv wr t[i]
            have hz1 : (⟨#[t[i]]⟩ : ByteArray).size = 1 := rfl
            have hz2 : (T ++ (⟨#[t[i]]⟩ : ByteArray)).size = T.size + 1 := by rw [ByteArray.size_append]; rfl
            have HT2 : Hid (∀ c ∈ (T ++ (⟨#[t[i]]⟩ : ByteArray)).data.toList, c ≠ 60) := fun c hc => by
              rw [ByteArray.data_append, Array.toList_append] at hc
              rcases List.mem_append.1 hc with q | q
              · exact HT.out c q
              · rw [List.mem_singleton.1 q]; exact c1
            have HBA : Hid (∀ o, Below w.heap.size w (wr.alloc o)) := fun o => HB.out.alloc HB.out.size _
            clear c1 c2
            go_wp2
            go_roundw
            case rel => exact ⟨i + 1, _, by omega, by omega, rfl, by go_num, by omega, HT2, HBA.out _⟩
            case measure => simp [intOf]; omega
      · have HX : Hid (∀ c ∈ ((⟨#[120]⟩ : ByteArray) ++ T).data.toList, c ≠ 60) := fun c hc => by
          rw [ByteArray.data_append, Array.toList_append] at hc
          rcases List.mem_append.1 hc with q | q
          · rw [List.mem_singleton.1 q]; decide
          · exact HT.out c q
        have hz0 : (⟨#[120]⟩ : ByteArray).size = 1 := rfl
        have hz1 : ((⟨#[120]⟩ : ByteArray) ++ T).size = T.size + 1 := by rw [ByteArray.size_append]; show 1 + _ = _; omega
        obtain ⟨P0, hP0⟩ : ∃ P0, (⟨#[120]⟩ : ByteArray) ++ T = P0 := ⟨_, rfl⟩
        rw [hP0] at hz1 HX
        have hz2 : (P0 ++ s).size = P0.size + s.size := ByteArray.size_append
        obtain ⟨P1, hP1⟩ : ∃ P1, P0 ++ s = P1 := ⟨_, rfl⟩
        have hPS : ∀ {ms : List Nd}, Kp.Is P1 ms 0 → Sk.skel ms = Sk.skel ns := fun h2 => Kp.ahead (t := P0) HX.out HI.out (by rw [hP1]; exact h2)
        rw [hP1] at hz2
        obtain ⟨ms, g, hI2⟩ := Kp.ex P1
        have pb := Pq.parse m P1 ms g hI2 wr (by unfold maxLen; omega) (by rw [HB.out.cell (World.block_lt_of_cell? _ _ HM.out)]; exact HM.out)
        have hlen2 := hI2.len
        have HSB2 := Lib.hid (Kb.page hI2)
        have HEND : Hid ((g = 0 ∧ Sk.May ms ∧ Sk.skel ms = Sk.skel ns) ∨ (g ≠ 0)) := by
          by_cases hg : g = 0
          · subst hg
            exact .inl ⟨rfl, hI2.may rfl, hPS hI2⟩
          · exact .inr hg
        have HE40 : Hid (i < t.size → i = 40) := fun q => by omega
        clear hPS hI2 HX HT hlt
        by_cases q : i < t.size
        · have e40 := HE40.out q
          subst e40
          have d1 : decide ((40 : Int) < (t.size : Int)) = true := decide_eq_true (by omega)
          rw [show ((40 : Nat) : Int) = 40 from rfl]
          clear HE40
          rcases HEND.out with ⟨rfl, hmay2, hsk⟩ | hg
          · have HOK : Hid (Sk.May ms ∧ Sk.skel ms = Sk.skel ns) := ⟨hmay2, hsk⟩
            clear hmay2 hsk HEND
            generalize Sk.skel ns = SK at *
            have te : ((⟨SK.toArray⟩ : ByteArray).toList == (⟨SK.toArray⟩ : ByteArray).toList) = true := by simp
            go_wp2_with (first | (go_at_call 7; refine pb.mono ?_; rintro e w5 ⟨a5, d5, rfl, l5, b5⟩; clear pb; have HB5 := Lib.hid (HB.out.trans (b5.mono HB.out.size)); have sb := Pq.skeleton ms a5 d5 w5 (l5.on fun j hj => ⟨hj.2.1, rfl⟩) (by omega) HSB2.out (HTB.out.on HB5.out); clear l5 b5) | (go_at_call 9; refine sb.mono ?_; rintro e w6 ⟨b6, hc⟩; clear sb; have he : e = .returned (.tuple #[.string ⟨(SK).toArray⟩, .int .i64 0]) := (by rcases hc with q | q; exact absurd HOK.out.1 q.1; rw [← HOK.out.2]; exact q.2); subst he; have HB6 := Lib.hid (HB5.out.trans (b6.mono HB5.out.size)); clear hc b6) | (go_at_call 14; refine (A8.num _ _).mono ?_; rintro e w' ⟨rfl, hw⟩; have hw := hw.symm; subst hw))
            go_ret
            exact ⟨rfl, HB6.out⟩
          · have tg : (g != 0) = true := bne_iff_ne.2 hg
            clear hg HEND
            go_wp2_with (first | (go_at_call 7; refine pb.mono ?_; rintro e w5 ⟨a5, d5, rfl, l5, b5⟩; clear pb; have HB5 := Lib.hid (HB.out.trans (b5.mono HB.out.size)); have sb := Pq.skeleton ms a5 d5 w5 (l5.on fun j hj => ⟨hj.2.1, rfl⟩) (by omega) HSB2.out (HTB.out.on HB5.out); clear l5 b5) | (go_at_call 9; refine sb.mono ?_; rintro e w6 ⟨b6, hc⟩; clear sb; obtain ⟨s6, g6, he⟩ : ∃ (s6 : ByteArray) (g6 : Int), e = .returned (.tuple #[.string s6, .int .i64 g6]) := (by rcases hc with q | q; exact ⟨_, _, q.2⟩; exact ⟨_, _, q.2⟩); subst he; have HB6 := Lib.hid (HB5.out.trans (b6.mono HB5.out.size)); clear hc b6) | (go_at_call 14; refine (A8.num _ _).mono ?_; rintro e w' ⟨rfl, hw⟩; have hw := hw.symm; subst hw))
            go_ret
            exact ⟨rfl, HB6.out⟩
        · have d1 : decide ((i : Int) < (t.size : Int)) = false := decide_eq_false (by omega)
          clear HE40
          rcases HEND.out with ⟨rfl, hmay2, hsk⟩ | hg
          · have HOK : Hid (Sk.May ms ∧ Sk.skel ms = Sk.skel ns) := ⟨hmay2, hsk⟩
            clear hmay2 hsk HEND
            generalize Sk.skel ns = SK at *
            have te : ((⟨SK.toArray⟩ : ByteArray).toList == (⟨SK.toArray⟩ : ByteArray).toList) = true := by simp
            go_wp2_with (first | (go_at_call 7; refine pb.mono ?_; rintro e w5 ⟨a5, d5, rfl, l5, b5⟩; clear pb; have HB5 := Lib.hid (HB.out.trans (b5.mono HB.out.size)); have sb := Pq.skeleton ms a5 d5 w5 (l5.on fun j hj => ⟨hj.2.1, rfl⟩) (by omega) HSB2.out (HTB.out.on HB5.out); clear l5 b5) | (go_at_call 9; refine sb.mono ?_; rintro e w6 ⟨b6, hc⟩; clear sb; have he : e = .returned (.tuple #[.string ⟨(SK).toArray⟩, .int .i64 0]) := (by rcases hc with q | q; exact absurd HOK.out.1 q.1; rw [← HOK.out.2]; exact q.2); subst he; have HB6 := Lib.hid (HB5.out.trans (b6.mono HB5.out.size)); clear hc b6) | (go_at_call 14; refine (A8.num _ _).mono ?_; rintro e w' ⟨rfl, hw⟩; have hw := hw.symm; subst hw))
            go_ret
            exact ⟨rfl, HB6.out⟩
          · have tg : (g != 0) = true := bne_iff_ne.2 hg
            clear hg HEND
            go_wp2_with (first | (go_at_call 7; refine pb.mono ?_; rintro e w5 ⟨a5, d5, rfl, l5, b5⟩; clear pb; have HB5 := Lib.hid (HB.out.trans (b5.mono HB.out.size)); have sb := Pq.skeleton ms a5 d5 w5 (l5.on fun j hj => ⟨hj.2.1, rfl⟩) (by omega) HSB2.out (HTB.out.on HB5.out); clear l5 b5) | (go_at_call 9; refine sb.mono ?_; rintro e w6 ⟨b6, hc⟩; clear sb; obtain ⟨s6, g6, he⟩ : ∃ (s6 : ByteArray) (g6 : Int), e = .returned (.tuple #[.string s6, .int .i64 g6]) := (by rcases hc with q | q; exact ⟨_, _, q.2⟩; exact ⟨_, _, q.2⟩); subst he; have HB6 := Lib.hid (HB5.out.trans (b6.mono HB5.out.size)); clear hc b6) | (go_at_call 14; refine (A8.num _ _).mono ?_; rintro e w' ⟨rfl, hw⟩; have hw := hw.symm; subst hw))
            go_ret
            exact ⟨rfl, HB6.out⟩
  · have hns := hI.bad hk
    subst hns
    have k1 : (k != 0) = true := bne_iff_ne.2 hk
    clear hk hI
    go_enter Tryz.func4, Tryz.ntmps4
    go_wp2_with (first | (go_at_call 17; refine aw.mono ?_; rintro e w1 ⟨rfl, q1⟩; clear aw; have HB1 := Lib.hid q1; have pa := pa w1 q1; clear q1) | (go_at_call 7; refine pa.mono ?_; rintro e w2 ⟨a2, d2, rfl, l2, b2⟩; clear pa; have HB2 := Lib.hid (HB1.out.trans (b2.mono HB1.out.size)); clear l2 b2) | (go_at_call 14; refine (A8.num _ _).mono ?_; rintro e w' ⟨rfl, hw⟩; have hw := hw.symm; subst hw))
    go_ret
    exact ⟨rfl, HB2.out⟩
end Go.Proofs.YtblpkjlodncpeaaGreatDoor

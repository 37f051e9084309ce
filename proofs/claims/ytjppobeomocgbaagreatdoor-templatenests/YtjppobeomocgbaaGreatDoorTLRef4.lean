/-
  THE WALK of stoleref13.Split.
-/
import Derived.Test.YtjppobeomocgbaaGreatDoorTLSplittoGLet
import Derived.Test.YtjppobeomocgbaaGreatDoorTLRef3
import Derived.Test.YtjppobeomocgbaaGreatDoorTGLines
import Derived.Deep.CutBlock
namespace Go.Proofs.YtjppobeomocgbaaGreatDoor
open Go.RowKit
def Lr.ans (G : Option (List Pc)) : List Pc × Int :=
  match G with
  | none => ([], 1300)
  | some ps => Lx.limits ps
def Lr.mea (z : Nat) (pv tv : Value) : Nat := 2 * (z - (intOf pv).toNat) + (match tv with | .bool true => 1 | _ => 0)
set_option maxRecDepth 100000 in
set_option maxHeartbeats 4000000 in
theorem Lr.split (s : ByteArray) (w : World) : Calls Tryz.prog 18 #[.string s] w fun e w' => ∃ v, e = .returned (.tuple #[v, .int .i64 (Lx.split s).2]) ∧ Pc.Lies w' (fun k => w.heap.size ≤ k ∧ k < w'.heap.size) (Lx.split s).1 v ∧ Below w.heap.size w w' := by
  by_cases hbig : 65536 < s.size
  · have d1 : decide ((65536 : Int) < (s.size : Int)) = true := decide_eq_true (by omega)
    have d1n : decide (65536 < s.size) = true := decide_eq_true hbig
    have e : Lx.split s = ([], 1301) := if_pos hbig
    rw [e]
    clear e
    go_enter Tryz.func18, Tryz.ntmps18
    go_wp2
    go_ret2
    exact ⟨_, rfl, Pc.Lies.nil _ _, Below.refl _ _⟩
  have d0 : decide ((65536 : Int) < (s.size : Int)) = false := decide_eq_false (by omega)
  have d0n : decide (65536 < s.size) = false := decide_eq_false hbig
  have c1 := Rl.lines s w (by omega)
  obtain ⟨G, hG⟩ : ∃ G, Lx.go ((Rd.lines s.data.toList).length + 1) (Rd.lines s.data.toList) 0 false [] = G := ⟨_, rfl⟩
  have e : Lx.split s = Lr.ans G := by
    unfold Lx.split
    rw [if_neg hbig]
    unfold Lx.all
    rw [hG]
    rfl
  rw [e]
  clear e
  have hPL : (Rd.page s).data.toList = Rd.lines s.data.toList := by unfold Rd.page; exact List.toList_toArray
  rw [← hPL] at hG
  have hP : (Rd.page s).size ≤ 65536 := by
    have := Lx.lines_len s.data.toList
    rw [← Wk.len_data, hPL]
    rw [Wk.len_data] at this
    omega
  clear hPL
  generalize Rd.page s = P at *
  rw [Wk.len_data] at hG
  have HG := Lib.hid hG
  clear hG
  go_enter Tryz.func18, Tryz.ntmps18
  go_wp2_with (go_at_call 29; refine c1.mono ?_; rintro e w1 ⟨rfl, b1⟩; have HB1 := Lib.hid b1; clear b1 c1)
  go_loopw [5, 6, 7] (fun ov pv tv wr => ∃ (p n : Nat) (tr : Bool) (out : List Pc), p ≤ P.size ∧ P.size < p + n ∧ pv = .int .i64 (p : Int) ∧ tv = .bool tr ∧ out.length ≤ p ∧ Hid (Lx.go n P.data.toList p tr out = G) ∧ Hid (wr.ownsRow w.heap.size 58 3 ov out.length (Pc.cells out)) ∧ Hid (Below w.heap.size w wr)) (fun _ pv tv _ => Lr.mea P.size pv tv)
  case atStart => exact ⟨0, P.size + 1, false, [], Nat.zero_le _, by omega, rfl, rfl, Nat.zero_le _, HG, World.ownsRow_nil _ _ _ _, HB1⟩
  case round =>
    clear HG HB1
    obtain ⟨p, n, tr, out, hp, hn, rfl, rfl, ho, HG, HR, HB⟩ := hrel
    go_upto_region 6 with fail
    go_cut [24] from 18 to 146 (fun cv wx => cv = .bool (decide (p < P.size) || tr) ∧ wx = wr)
    case first =>
      by_cases hlt : p < P.size
      · have d1 : decide ((p : Int) < (P.size : Int)) = true := decide_eq_true (by omega)
        have d1n : decide (p < P.size) = true := decide_eq_true hlt
        go_wp2_with fail
        go_meet
        case rel => exact ⟨by rw [d1n]; rfl, by first | rfl | trivial⟩
      · have d1 : decide ((p : Int) < (P.size : Int)) = false := decide_eq_false (by omega)
        have d1n : decide (p < P.size) = false := decide_eq_false hlt
        go_wp2_with fail
        go_meet
        case rel => exact ⟨by rw [d1n]; rfl, by first | rfl | trivial⟩
    case rest =>
      obtain ⟨rfl, hw⟩ := hcut
      have hw := hw.symm
      subst hw
      cases hB : (decide (p < P.size) || tr) with
      | false =>
        have h1 : ¬ p < P.size := fun q => by rw [decide_eq_true q] at hB; cases hB
        have h2 : tr = false := by
          cases tr with
          | false => rfl
          | true => rw [Bool.or_true] at hB; cases hB
        have hG : some out = G := by rw [← HG.out, Lx.go_end _ _ _ (by rw [Wk.len_data]; omega)]
        subst hG
        subst h2
        have lm := Lr.limits out _ _ _ (Pc.Lies.own HR.out)
        have HL := Lib.hid (Lm.lim_lies (Pc.Lies.own HR.out))
        clear hB h1 HG HR
        go_wp2_with (go_at_call 35; refine lm.mono ?_; rintro e w2 ⟨rfl, hw⟩; have hw := hw.symm; subst hw)
        go_ret2
        exact ⟨_, rfl, HL.out, HB.out⟩
      | true =>
        go_upto_block 2 with fail
        go_cut [8] from 18 to 146 (fun iv wx => iv = .int .i64 ((Lx.text p (P.data.toList.drop p) : Nat) : Int) ∧ wx = wr)
        case first =>
          go_wp2_with fail
          go_loopw [8] (fun iv wx => ∃ i : Nat, p ≤ i ∧ i ≤ P.size ∧ iv = .int .i64 (i : Int) ∧ Hid (Lx.text p (P.data.toList.drop p) = Lx.text i (P.data.toList.drop i)) ∧ wx = wr) (fun iv _ => P.size - (intOf iv).toNat)
          case atStart => exact ⟨p, Nat.le_refl _, hp, rfl, rfl, rfl⟩
          case round =>
            obtain ⟨i, hpi, hi, rfl, HT, hw⟩ := hrel
            have hw := hw.symm
            subst hw
            by_cases hlt : i < P.size
            · have d1 : decide ((i : Int) < (P.size : Int)) = true := decide_eq_true (by omega)
              by_cases hl2 : i + 1 < P.size
              · have d2 : decide ((P.size : Int) ≤ (i : Int) + 1) = false := decide_eq_false (by omega)
                obtain ⟨q, hcut2, hq⟩ := Lr.cut2 P i (by omega)
                cases h2 : Lx.two P.data.toList i 123 123 with
                | false =>
                  have n0 : ¬ q.toList = [123, 123] := fun z => by rw [(hq _ _).1 z] at h2; cases h2
                  have n1 := beq_eq_false_iff_ne.2 n0
                  have HT2 : Hid (Lx.text p (P.data.toList.drop p) = Lx.text (i + 1) (P.data.toList.drop (i + 1))) := by unfold Hid; rw [HT.out, Lx.text_step hlt, if_neg (by rw [h2]; decide)]
                  clear hq h2 HT
                  go_wp2_with fail
                  go_roundw
                  case rel => exact ⟨i + 1, by omega, by omega, by go_num, HT2, by first | rfl | trivial⟩
                  case measure => simp [intOf]; omega
                | true =>
                  have n0 : q.toList = [123, 123] := (hq _ _).2 h2
                  have n1 : (q.toList == [123, 123]) = true := by rw [n0]; rfl
                  have HT2 : Hid (Lx.text p (P.data.toList.drop p) = i) := by unfold Hid; rw [HT.out, Lx.text_step hlt, if_pos h2]
                  clear hq h2 HT
                  go_wp2_with fail
                  go_meet
                  case rel => exact ⟨by rw [HT2.out], by first | rfl | trivial⟩
              · have d2 : decide ((P.size : Int) ≤ (i : Int) + 1) = true := decide_eq_true (by omega)
                have HT2 : Hid (Lx.text p (P.data.toList.drop p) = Lx.text (i + 1) (P.data.toList.drop (i + 1))) := by unfold Hid; rw [HT.out, Lx.text_step hlt, if_neg (by rw [Lx.two_false (by omega)]; decide)]
                clear HT
                go_wp2_with fail
                go_roundw
                case rel => exact ⟨i + 1, by omega, by omega, by go_num, HT2, by first | rfl | trivial⟩
                case measure => simp [intOf]; omega
            · have d1 : decide ((i : Int) < (P.size : Int)) = false := decide_eq_false (by omega)
              have HT2 : Hid (Lx.text p (P.data.toList.drop p) = i) := by unfold Hid; rw [HT.out, Lx.text_end (by omega)]
              clear HT
              go_wp2_with fail
              go_meet
              case rel => exact ⟨by rw [HT2.out], by first | rfl | trivial⟩
        case rest =>
          obtain ⟨rfl, hw⟩ := hcut
          have hw := hw.symm
          subst hw
          obtain ⟨i, hi⟩ : ∃ i, Lx.text p (P.data.toList.drop p) = i := ⟨_, rfl⟩
          have hpi : p ≤ i ∧ i ≤ P.size := by
            have := Lx.text_ge (P.data.toList.drop p) p
            rw [hi, List.length_drop, Wk.len_data] at this
            omega
          obtain ⟨hpi, hiP⟩ := hpi
          rw [hi]
          have HI := Lib.hid hi
          have HBB := Lib.hid hB
          clear hi hB
          obtain ⟨T, T1, hcutT, HT1, zT, hT1⟩ : ∃ T T1 : ByteArray, (∀ u : World, (Instr.slice 9 (.string P) (some (.int .i64 (p : Int))) (some (.int .i64 (i : Int))) none).run Tryz.prog u = .ok (.string T) u) ∧ Hid (T1.data.toList = if tr = true then Lx.left ((P.data.toList.drop p).take (i - p)) else (P.data.toList.drop p).take (i - p)) ∧ T1.size ≤ i - p ∧ ((tr = true ∧ ∀ u, Calls Tryz.prog 30 #[.string T] u fun e w' => e = .returned (.string T1) ∧ w' = u) ∨ (tr = false ∧ T = T1)) := by
            have hd := Lib.extract_data P p i
            have hz : (P.extract p i).size = i - p := by rw [ByteArray.size_extract]; omega
            have hc : ∀ u : World, (Instr.slice 9 (.string P) (some (.int .i64 (p : Int))) (some (.int .i64 (i : Int))) none).run Tryz.prog u = .ok (.string (P.extract p i)) u := fun u => by
              have h := Wk.run_cut u P (p : Int) (i : Int) (by omega) (by omega) (by omega)
              rw [Int.toNat_natCast, Int.toNat_natCast] at h
              exact h
            cases tr with
            | true =>
              refine ⟨P.extract p i, ⟨(Lx.left (P.extract p i).data.toList).toArray⟩, hc, ?_, ?_, .inl ⟨rfl, fun u => Lr.left _ u (by omega)⟩⟩
              · unfold Hid
                rw [if_pos rfl, ← hd]
              · rw [← hz, ← Wk.len_data, ← Wk.len_data]
                exact Lx.left_len _
            | false =>
              exact ⟨P.extract p i, P.extract p i, hc, by unfold Hid; rw [if_neg (by decide), ← hd], by omega, .inr ⟨rfl, rfl⟩⟩
          go_upto_if 51 with fail
          go_cut [9] from 18 to 146 (fun tv wx => tv = .string T1 ∧ wx = wr)
          case first =>
            rcases hT1 with ⟨rfl, cl⟩ | ⟨rfl, rfl⟩
            · go_wp2_with (go_at_call 30; refine (cl _).mono ?_; rintro e w2 ⟨rfl, hw⟩; have hw := hw.symm; subst hw)
              go_meet
              case rel => exact ⟨rfl, by first | rfl | trivial⟩
            · go_wp2_with fail
              go_meet
              case rel => exact ⟨rfl, by first | rfl | trivial⟩
          case rest =>
            obtain ⟨rfl, hw⟩ := hcut
            have hw := hw.symm
            subst hw
            clear hcutT hT1
            go_upto_if 58 with fail
            have HX0 : Hid (Bs.Box (wr.alloc (.cells #[.int .i64 0, .string ⟨#[]⟩, .bool false, .bool false, .bool false] 84)) wr.heap.size (La.cells none) 84) := Bs.Box.new _ _ _ _ rfl
            have HR0 := Lib.hid (HR.out.alloc (.cells #[.int .i64 0, .string ⟨#[]⟩, .bool false, .bool false, .bool false] 84))
            have HB0 := Lib.hid (HB.out.alloc HB.out.size (.cells #[.int .i64 0, .string ⟨#[]⟩, .bool false, .bool false, .bool false] 84))
            have HV : Hid (∀ k, Value.ownBlock u5 = some k → k < wr.heap.size) := fun k hk => (HR.out.lt k hk).2
            have hgb : w.heap.size ≤ wr.heap.size := HB.out.size
            clear HR HB
            generalize wr.alloc (.cells #[.int .i64 0, .string ⟨#[]⟩, .bool false, .bool false, .bool false] 84) = W1 at *
            generalize wr.heap.size = g at *
            go_cut [9, 12] from 18 to 146 (fun tv _kv wx => ∃ (T2 : ByteArray) (oa : Option La), tv = .string T2 ∧ Hid (Bs.Box wx g (La.cells oa) 84) ∧ Hid (wx.ownsRow w.heap.size 58 3 u5 out.length (Pc.cells out)) ∧ Hid (Below w.heap.size w wx) ∧ T2.size ≤ i - p ∧ Hid (Lx.Mid P.data.toList G p i (n - 1) out T2.data.toList oa))
            case first =>
              by_cases hil : i < P.size
              · have d1 : decide ((i : Int) < (P.size : Int)) = true := decide_eq_true (by omega)
                have htwo := Lx.text_open HI.out (by rw [Wk.len_data]; exact hp) (by rw [Wk.len_data]; exact hil)
                have hi2 : i + 2 ≤ P.size := by have := Lx.two_lt htwo; rw [Wk.len_data] at this; exact this
                clear htwo HBB
                obtain ⟨k0, hk0⟩ : ∃ k0, i + 2 = k0 := ⟨_, rfl⟩
                have HK0 := Lib.hid hk0
                have ek : (i : Int) + 2 = (k0 : Int) := by omega
                have hk0P : k0 ≤ P.size := by omega
                clear hk0
                obtain ⟨m, hm⟩ : ∃ m, Lx.mark P.data.toList k0 = m := ⟨_, rfl⟩
                have HMK := Lib.hid hm
                clear hm
                go_upto_region 18 with fail
                go_cut [78] from 18 to 146 (fun cv wx => cv = .bool m ∧ wx = W1)
                case first =>
                  have hmk := HMK.out
                  rw [Lx.mark_eq] at hmk
                  by_cases h3 : k0 + 1 < P.size
                  · have d3 : decide ((k0 : Int) + 1 < (P.size : Int)) = true := decide_eq_true (by omega)
                    rw [dif_pos h3] at hmk
                    by_cases h45 : P[k0] = 45
                    · have t45 : ((P[k0].toNat : Int) == 45) = true := Tp.eq_true (d := 45) h45
                      rw [decide_eq_true h45, Bool.true_and] at hmk
                      have bl := fun u => Lr.blank P[k0 + 1] u
                      rw [hmk] at bl
                      clear hmk h45 HMK HK0 HI HT1 HG
                      go_wp2_with (go_at_call 31; refine (bl _).mono ?_; rintro e w2 ⟨rfl, hw⟩; have hw := hw.symm; subst hw)
                      go_meet
                      case rel => exact ⟨rfl, by first | rfl | trivial⟩
                    · have t45 : ((P[k0].toNat : Int) == 45) = false := Tp.eq_false (d := 45) h45
                      rw [decide_eq_false h45, Bool.false_and] at hmk
                      subst hmk
                      clear h45 HMK HK0 HI HT1 HG
                      go_wp2_with fail
                      go_meet
                      case rel => exact ⟨rfl, by first | rfl | trivial⟩
                  · have d3 : decide ((k0 : Int) + 1 < (P.size : Int)) = false := decide_eq_false (by omega)
                    rw [dif_neg h3] at hmk
                    subst hmk
                    clear HMK HK0 HI HT1 HG
                    go_wp2_with fail
                    go_meet
                    case rel => exact ⟨rfl, by first | rfl | trivial⟩
                case rest =>
                  obtain ⟨rfl, hw⟩ := hcut
                  have hw := hw.symm
                  subst hw
                  obtain ⟨T2, HT2, zT2, hT2⟩ : ∃ T2 : ByteArray, Hid (T2.data.toList = if m = true then Lx.right T1.data.toList else T1.data.toList) ∧ T2.size ≤ i - p ∧ ((m = true ∧ ∀ u, Calls Tryz.prog 32 #[.string T1] u fun e w' => e = .returned (.string T2) ∧ w' = u) ∨ (m = false ∧ T1 = T2)) := by
                    cases m with
                    | true =>
                      refine ⟨⟨(Lx.right T1.data.toList).toArray⟩, ?_, ?_, .inl ⟨rfl, fun u => Lr.right _ u (by omega)⟩⟩
                      · unfold Hid
                        rw [if_pos rfl]
                      · refine Nat.le_trans ?_ zT
                        rw [← Wk.len_data, ← Wk.len_data]
                        exact Lx.right_len _
                    | false => exact ⟨T1, by unfold Hid; rw [if_neg (by decide)], zT, .inr ⟨rfl, rfl⟩⟩
                  obtain ⟨k1, hk1⟩ : ∃ k1, (if m = true then k0 + 1 else k0) = k1 := ⟨_, rfl⟩
                  have hk1P : k1 ≤ P.size := by
                    have hmk := HMK.out
                    rw [Lx.mark_eq] at hmk
                    cases m with
                    | true =>
                      rw [if_pos rfl] at hk1
                      split at hmk
                      · omega
                      · cases hmk
                    | false =>
                      rw [if_neg (by decide)] at hk1
                      omega
                  have hk10 : k0 ≤ k1 := by rw [← hk1]; split <;> omega
                  have HK1 := Lib.hid hk1
                  clear hk1
                  go_upto_if 78 with fail
                  go_cut [9, 12] from 18 to 146 (fun tv kv wx => tv = .string T2 ∧ kv = .int .i64 (k1 : Int) ∧ wx = W1)
                  case first =>
                    rcases hT2 with ⟨rfl, cr⟩ | ⟨rfl, rfl⟩
                    · have e1 : (k0 : Int) + 1 = (k1 : Int) := by have := HK1.out; rw [if_pos rfl] at this; omega
                      clear HK1 HK0 HMK HI HT1 HG HT2
                      go_wp2_with (go_at_call 32; refine (cr _).mono ?_; rintro e w2 ⟨rfl, hw⟩; have hw := hw.symm; subst hw)
                      go_meet
                      case rel => exact ⟨rfl, by first | rfl | trivial, by first | rfl | trivial⟩
                    · have e1 : k0 = k1 := by have := HK1.out; rw [if_neg (by decide)] at this; exact this
                      clear HK1 HK0 HMK HI HT1 HG HT2
                      subst e1
                      go_wp2_with fail
                      go_meet
                      case rel => exact ⟨rfl, by first | rfl | trivial, by first | rfl | trivial⟩
                  case rest =>
                    clear hT2
                    obtain ⟨rfl, rfl, hw⟩ := hcut
                    have hw := hw.symm
                    subst hw
                    go_upto_block 4 with fail
                    go_cut [12] from 18 to 146 (fun kv wx => kv = .int .i64 ((Lx.skip k1 (P.data.toList.drop k1) : Nat) : Int) ∧ wx = W1)
                    case first =>
                      clear HK1 HK0 HMK HI HT1 HG HT2
                      go_wp2_with fail
                      go_loopw [12] (fun kv wx => ∃ j : Nat, k1 ≤ j ∧ j ≤ P.size ∧ kv = .int .i64 (j : Int) ∧ Hid (Lx.skip k1 (P.data.toList.drop k1) = Lx.skip j (P.data.toList.drop j)) ∧ wx = W1) (fun kv _ => P.size - (intOf kv).toNat)
                      case atStart => exact ⟨k1, Nat.le_refl _, hk1P, rfl, rfl, rfl⟩
                      case round =>
                        obtain ⟨j, hij, hj, rfl, HK, hw⟩ := hrel
                        have hw := hw.symm
                        subst hw
                        by_cases hlj : j < P.size
                        · have d3 : decide ((j : Int) < (P.size : Int)) = true := decide_eq_true (by omega)
                          have bl := fun u => Lr.blank P[j] u
                          have HKS := Lib.hid (Lx.skip_step hlj)
                          cases hb : Lx.blank P[j] with
                          | true =>
                            rw [hb] at bl
                            have HK2 : Hid (Lx.skip k1 (P.data.toList.drop k1) = Lx.skip (j + 1) (P.data.toList.drop (j + 1))) := by
                              unfold Hid
                              rw [HK.out, HKS.out, if_pos hb]
                            clear hb HK HKS
                            go_wp2_with (go_at_call 31; refine (bl _).mono ?_; rintro e w2 ⟨rfl, hw⟩; have hw := hw.symm; subst hw)
                            go_roundw
                            case rel => exact ⟨j + 1, by omega, by omega, by go_num, HK2, by first | rfl | trivial⟩
                            case measure => simp [intOf]; omega
                          | false =>
                            rw [hb] at bl
                            have HK2 : Hid (Lx.skip k1 (P.data.toList.drop k1) = j) := by
                              unfold Hid
                              rw [HK.out, HKS.out, if_neg (by rw [hb]; decide)]
                            clear hb HK HKS
                            go_wp2_with (go_at_call 31; refine (bl _).mono ?_; rintro e w2 ⟨rfl, hw⟩; have hw := hw.symm; subst hw)
                            go_meet
                            case rel => exact ⟨by rw [HK2.out], by first | rfl | trivial⟩
                        · have d3 : decide ((j : Int) < (P.size : Int)) = false := decide_eq_false (by omega)
                          have HK2 : Hid (Lx.skip k1 (P.data.toList.drop k1) = j) := by
                            unfold Hid
                            rw [HK.out, Lx.skip_end (by omega)]
                          clear HK
                          go_wp2_with fail
                          go_meet
                          case rel => exact ⟨by rw [HK2.out], by first | rfl | trivial⟩
                    case rest =>
                      obtain ⟨rfl, hw⟩ := hcut
                      have hw := hw.symm
                      subst hw
                      obtain ⟨k2, hk2⟩ : ∃ k2, Lx.skip k1 (P.data.toList.drop k1) = k2 := ⟨_, rfl⟩
                      have hk21 : k1 ≤ k2 ∧ k2 ≤ P.size := by
                        have := Lx.skip_ge (P.data.toList.drop k1) k1
                        rw [hk2, List.length_drop, Wk.len_data] at this
                        omega
                      obtain ⟨hk21, hk2P⟩ := hk21
                      rw [hk2]
                      have HK2 := Lib.hid hk2
                      clear hk2
                      obtain ⟨c2, hc2⟩ : ∃ c2, Lx.two P.data.toList k2 47 42 = c2 := ⟨_, rfl⟩
                      have HC2 := Lib.hid hc2
                      clear hc2
                      go_upto_region 23 with fail
                      go_cut [107] from 18 to 146 (fun cv wx => cv = .bool c2 ∧ wx = W1)
                      case first =>
                        clear HK2 HK1 HK0 HMK HI HT1 HG HT2
                        by_cases h4 : k2 + 2 ≤ P.size
                        · have d4 : decide ((2 : Int) ≤ (P.size : Int) - (k2 : Int)) = true := decide_eq_true (by omega)
                          obtain ⟨q, hcut2, hq⟩ := Lr.cut2 P k2 h4
                          cases c2 with
                          | true =>
                            have n0 : q.toList = [47, 42] := (hq _ _).2 HC2.out
                            have n1 : (q.toList == [47, 42]) = true := by rw [n0]; rfl
                            clear hq HC2
                            go_wp2_with fail
                            go_meet
                            case rel => exact ⟨by first | rfl | (rw [n1]) | simp [n1], by first | rfl | trivial⟩
                          | false =>
                            have n0 : ¬ q.toList = [47, 42] := fun z => by have := (hq _ _).1 z; rw [HC2.out] at this; cases this
                            have n1 := beq_eq_false_iff_ne.2 n0
                            clear hq HC2
                            go_wp2_with fail
                            go_meet
                            case rel => exact ⟨by first | rfl | (rw [n1]) | simp [n1], by first | rfl | trivial⟩
                        · have d4 : decide ((2 : Int) ≤ (P.size : Int) - (k2 : Int)) = false := decide_eq_false (by omega)
                          have hc : false = c2 := by rw [← HC2.out]; exact (Lx.two_false (by omega) _ _).symm
                          subst hc
                          clear HC2
                          go_wp2_with fail
                          go_meet
                          case rel => exact ⟨rfl, by first | rfl | trivial⟩
                      case rest =>
                        obtain ⟨rfl, hw⟩ := hcut
                        have hw := hw.symm
                        subst hw
                        have cm : c2 = true → ∀ u, Calls Tryz.prog 33 #[.string P, .int .i64 ((k2 : Int) + 2)] u fun e w' => e = .returned (La.val (Lx.act P.data.toList k2)) ∧ Below u.heap.size u w' := fun hc u => by
                          have h2 := HC2.out
                          rw [hc] at h2
                          have h3 := Lx.two_lt h2
                          rw [Wk.len_data] at h3
                          have := Lr.comment P (k2 + 2) u h3 (by omega)
                          rw [show ((k2 + 2 : Nat) : Int) = (k2 : Int) + 2 by omega] at this
                          unfold Lx.act
                          rw [if_pos h2]
                          exact this
                        have pl : c2 = false → ∀ u, Calls Tryz.prog 34 #[.string P, .int .i64 (k2 : Int)] u fun e w' => e = .returned (La.val (Lx.act P.data.toList k2)) ∧ Below u.heap.size u w' := fun hc u => by
                          have h2 := HC2.out
                          rw [hc] at h2
                          unfold Lx.act
                          rw [if_neg (by rw [h2]; decide)]
                          exact Lr.plain P k2 u hk2P (by omega)
                        obtain ⟨oa, hoa⟩ : ∃ oa, Lx.act P.data.toList k2 = oa := ⟨_, rfl⟩
                        rw [hoa] at cm pl
                        have HOA := Lib.hid hoa
                        clear hoa HC2
                        have hmk : Lx.mark P.data.toList (i + 2) = m := by rw [HK0.out]; exact HMK.out
                        have hsk : Lx.skip (if m = true then i + 3 else i + 2) (P.data.toList.drop (if m = true then i + 3 else i + 2)) = k2 := by
                          have e : (if m = true then i + 3 else i + 2) = k1 := by rw [← HK1.out, ← HK0.out]
                          rw [e]
                          exact HK2.out
                        have HX1 : Hid (∀ w5, Below W1.heap.size W1 w5 → Bs.Box w5 g (La.cells none) 84) := fun w5 b5 => HX0.out.on b5 HX0.out.lt
                        cases oa with
                        | none =>
                          have hG : none = G := by rw [← HG.out]; exact (Lx.go_none (by omega) HI.out (by rw [Wk.len_data]; omega) (by rw [Wk.len_data]; exact hil) hmk hsk HOA.out).symm
                          clear HG HI HT1 HT2 HK0 HK1 HK2 HMK HOA hmk hsk HR0 HV HX0
                          subst hG
                          cases c2 with
                          | true =>
                            have cm := cm rfl
                            clear pl
                            go_wp2_with (go_at_call 33; refine (cm _).mono ?_; rintro e w5 ⟨rfl, b5⟩; have HX5 := Lib.hid (HX1.out _ b5); have HB5 := Lib.hid (Wk.below_step HB0.out b5); have y0 : w5.cell? ⟨g, 0, none⟩ = some (.int .i64 0) := HX5.out.cell 0 rfl; have y1 : w5.cell? ⟨g, 1, none⟩ = some (.string ⟨#[]⟩) := HX5.out.cell 1 rfl; have y2 : w5.cell? ⟨g, 2, none⟩ = some (.bool false) := HX5.out.cell 2 rfl; have y3 : w5.cell? ⟨g, 3, none⟩ = some (.bool false) := HX5.out.cell 3 rfl; have y4 : w5.cell? ⟨g, 4, none⟩ = some (.bool false) := HX5.out.cell 4 rfl; have fz := fun i => HX5.out.frozen i; unfold La.val; clear b5 cm)
                            go_ret2
                            exact ⟨_, rfl, Pc.Lies.nil _ _, ((((HB5.out.setCell hgb _).setCell hgb _).setCell hgb _).setCell hgb _).setCell hgb _⟩
                          | false =>
                            have pl := pl rfl
                            clear cm
                            go_wp2_with (go_at_call 34; refine (pl _).mono ?_; rintro e w5 ⟨rfl, b5⟩; have HX5 := Lib.hid (HX1.out _ b5); have HB5 := Lib.hid (Wk.below_step HB0.out b5); have y0 : w5.cell? ⟨g, 0, none⟩ = some (.int .i64 0) := HX5.out.cell 0 rfl; have y1 : w5.cell? ⟨g, 1, none⟩ = some (.string ⟨#[]⟩) := HX5.out.cell 1 rfl; have y2 : w5.cell? ⟨g, 2, none⟩ = some (.bool false) := HX5.out.cell 2 rfl; have y3 : w5.cell? ⟨g, 3, none⟩ = some (.bool false) := HX5.out.cell 3 rfl; have y4 : w5.cell? ⟨g, 4, none⟩ = some (.bool false) := HX5.out.cell 4 rfl; have fz := fun i => HX5.out.frozen i; unfold La.val; clear b5 pl)
                            go_ret2
                            exact ⟨_, rfl, Pc.Lies.nil _ _, ((((HB5.out.setCell hgb _).setCell hgb _).setCell hgb _).setCell hgb _).setCell hgb _⟩
                        | some a =>
                          have hfin := Lx.act_fin (by rw [Wk.len_data]; exact hk2P) HOA.out
                          have HM : Hid (Lx.Mid P.data.toList G p i (n - 1) out T2.data.toList (some a)) := by
                            refine ⟨?_, hfin.2, ?_⟩
                            · have := hfin.1
                              have := HK0.out
                              omega
                            · have hT : (if m = true then Lx.right (if tr = true then Lx.left ((P.data.toList.drop p).take (i - p)) else (P.data.toList.drop p).take (i - p)) else (if tr = true then Lx.left ((P.data.toList.drop p).take (i - p)) else (P.data.toList.drop p).take (i - p))) = T2.data.toList := by rw [HT2.out, HT1.out]
                              have := Lx.go_some (n := n - 1) (tr := tr) (out := out) HI.out (by rw [Wk.len_data]; omega) (by rw [Wk.len_data]; exact hil) hmk hsk HOA.out hT
                              rw [show n - 1 + 1 = n by omega, HG.out] at this
                              exact this
                          have HRO : Hid (∀ w5 v0 v1 v2 v3 v4, Below W1.heap.size W1 w5 → World.ownsRow (((((w5.setCell ⟨g, 0, none⟩ v0).setCell ⟨g, 1, none⟩ v1).setCell ⟨g, 2, none⟩ v2).setCell ⟨g, 3, none⟩ v3).setCell ⟨g, 4, none⟩ v4) w.heap.size 58 3 u5 out.length (Pc.cells out)) := fun w5 v0 v1 v2 v3 v4 b5 => Rm.own_on HR0.out fun k hk => by
                            have hne : k ≠ g := fun e => by have := HV.out k hk; omega
                            rw [Below.heap_setCell _ _ _ _ hne, Below.heap_setCell _ _ _ _ hne, Below.heap_setCell _ _ _ _ hne, Below.heap_setCell _ _ _ _ hne, Below.heap_setCell _ _ _ _ hne]
                            exact b5.block k (HR0.out.lt k hk).2
                          clear HG HI HT1 HT2 HK0 HK1 HK2 HMK HOA hmk hsk HR0 HV HX0 hfin
                          cases c2 with
                          | true =>
                            have cm := cm rfl
                            clear pl
                            go_wp2_with (go_at_call 33; refine (cm _).mono ?_; rintro e w5 ⟨rfl, b5⟩; have HX5 := Lib.hid (HX1.out _ b5); have HB5 := Lib.hid (Wk.below_step HB0.out b5); have HR5 := Lib.hid (fun v0 v1 v2 v3 v4 => HRO.out _ v0 v1 v2 v3 v4 b5); have y0 : w5.cell? ⟨g, 0, none⟩ = some (.int .i64 0) := HX5.out.cell 0 rfl; have y1 : w5.cell? ⟨g, 1, none⟩ = some (.string ⟨#[]⟩) := HX5.out.cell 1 rfl; have y2 : w5.cell? ⟨g, 2, none⟩ = some (.bool false) := HX5.out.cell 2 rfl; have y3 : w5.cell? ⟨g, 3, none⟩ = some (.bool false) := HX5.out.cell 3 rfl; have y4 : w5.cell? ⟨g, 4, none⟩ = some (.bool false) := HX5.out.cell 4 rfl; have fz := fun i => HX5.out.frozen i; unfold La.val; clear b5 cm)
                            go_meet
                            case rel => exact ⟨T2, some a, rfl, ((((HX5.out.set 0 _).set 1 _).set 2 _).set 3 _).set 4 _, HR5.out _ _ _ _ _, ((((HB5.out.setCell hgb _).setCell hgb _).setCell hgb _).setCell hgb _).setCell hgb _, zT2, HM⟩
                          | false =>
                            have pl := pl rfl
                            clear cm
                            go_wp2_with (go_at_call 34; refine (pl _).mono ?_; rintro e w5 ⟨rfl, b5⟩; have HX5 := Lib.hid (HX1.out _ b5); have HB5 := Lib.hid (Wk.below_step HB0.out b5); have HR5 := Lib.hid (fun v0 v1 v2 v3 v4 => HRO.out _ v0 v1 v2 v3 v4 b5); have y0 : w5.cell? ⟨g, 0, none⟩ = some (.int .i64 0) := HX5.out.cell 0 rfl; have y1 : w5.cell? ⟨g, 1, none⟩ = some (.string ⟨#[]⟩) := HX5.out.cell 1 rfl; have y2 : w5.cell? ⟨g, 2, none⟩ = some (.bool false) := HX5.out.cell 2 rfl; have y3 : w5.cell? ⟨g, 3, none⟩ = some (.bool false) := HX5.out.cell 3 rfl; have y4 : w5.cell? ⟨g, 4, none⟩ = some (.bool false) := HX5.out.cell 4 rfl; have fz := fun i => HX5.out.frozen i; unfold La.val; clear b5 pl)
                            go_meet
                            case rel => exact ⟨T2, some a, rfl, ((((HX5.out.set 0 _).set 1 _).set 2 _).set 3 _).set 4 _, HR5.out _ _ _ _ _, ((((HB5.out.setCell hgb _).setCell hgb _).setCell hgb _).setCell hgb _).setCell hgb _, zT2, HM⟩
              · have d1 : decide ((i : Int) < (P.size : Int)) = false := decide_eq_false (by omega)
                have HM : Hid (Lx.Mid P.data.toList G p i (n - 1) out T1.data.toList none) := ⟨by rw [Wk.len_data]; omega, by rw [← HG.out]; exact Lx.go_fin (by omega) HI.out (by rw [Wk.len_data]; omega) HT1.out.symm⟩
                clear HG HI HT1 HBB HV
                go_wp2_with fail
                go_meet
                case rel => exact ⟨T1, none, rfl, HX0, HR0, HB0, zT, HM⟩
            case rest =>
              clear HX0 HR0 HB0 HT1 HG HI zT
              obtain ⟨T2, oa, rfl, HX, HR, HB, zT2, HM⟩ := hcut
              have HWG : Hid (g < wc.heap.size) := HX.out.lt
              obtain ⟨bz, hbz⟩ : ∃ bz, T2.toList.isEmpty = bz := ⟨_, rfl⟩
              have HBZ := Lib.hid hbz
              go_upto_if 119 with fail
              clear hbz
              go_cut [5] from 18 to 146 (fun ov wx => Hid (Bs.Box wx g (La.cells oa) 84) ∧ Hid (wx.ownsRow w.heap.size 58 3 ov (out ++ Lx.one T2.data.toList p).length (Pc.cells (out ++ Lx.one T2.data.toList p))) ∧ Hid (Below w.heap.size w wx) ∧ Hid (∀ k, ov.ownBlock = some k → k ≠ g))
              case first =>
                cases bz with
                | true =>
                  have HE : Hid (out ++ Lx.one T2.data.toList p = out) := by
                    unfold Hid Lx.one
                    rw [if_pos (by rw [← ByteArray.toList_eq]; exact List.isEmpty_iff.1 HBZ.out), List.append_nil]
                  clear HBZ
                  go_wp2_with fail
                  go_meet
                  case rel => exact ⟨HX, by rw [HE.out]; exact HR, HB, fun k hk e => by have := HV.out k hk; omega⟩
                | false =>
                  have HE : Hid (out ++ Lx.one T2.data.toList p = out ++ [⟨false, T2.data.toList, p⟩]) := by
                    unfold Hid Lx.one
                    rw [if_neg (by rw [← ByteArray.toList_eq]; exact List.isEmpty_eq_false_iff.1 HBZ.out)]
                  clear HBZ HM
                  go_wp2_with (at_builtin; refine Ro.push rfl _ _ 49 58 3 32 _ rfl Tryz.underlying49 Lm.info rfl (by decide) _ rfl (HR.out.alloc _) wc.heap.size (Pc.three ⟨false, T2.data.toList, p⟩) rfl (Lm.cell3 wc false T2 p) rfl (Pc.three_one _) (by unfold maxLen; omega) (by omega) (by have := HB.out.size; simp; omega) ?_)
                  intro v4 w4 R4 hg4 hf4
                  have HR4 : Hid (w4.ownsRow w.heap.size 58 3 v4 (out ++ [(⟨false, T2.data.toList, p⟩ : Pc)]).length (Pc.cells (out ++ [⟨false, T2.data.toList, p⟩]))) := by unfold Hid; rw [Pc.cells_snoc, List.length_append]; exact R4
                  have HB4 : Hid (Below w.heap.size w w4) := Lib.hid ((HB.out.alloc HB.out.size _).grown hg4 (by have := HB.out.size; simp; omega) (fun k hk => (HR.out.lt k hk).1))
                  have HX4 : Hid (Bs.Box w4 g (La.cells oa) 84) := (hg4.block g (by have := HX.out.lt; simp; omega) (fun e => by have := HV.out g e.symm; omega)).trans (HX.out.alloc _)
                  have HV4 : Hid (∀ k, v4.ownBlock = some k → k ≠ g) := fun k hk e => by
                    rcases hf4 with q | q
                    · rw [q] at hk; have := HV.out k hk; omega
                    · have h1 : wc.heap.size + 1 = k := by simpa using Option.some.inj (q.symm.trans hk)
                      have := HWG.out
                      omega
                  clear R4 hg4 hf4
                  go_wp2_with fail
                  go_meet
                  case rel => exact ⟨HX4, by rw [HE.out]; exact HR4, HB4, HV4⟩
              case rest =>
                clear HX HR HB HBZ HV
                obtain ⟨HX, HR, HB, HV⟩ := hcut
                have HL : Hid ((out ++ Lx.one T2.data.toList p).length ≤ out.length + 1 ∧ (out ++ Lx.one T2.data.toList p).length ≤ out.length + (i - p)) := by
                  have h1 := Lx.one_len T2.data.toList p
                  rw [Wk.len_data] at h1
                  unfold Hid
                  rw [List.length_append]
                  omega
                cases oa with
                | none =>
                  have x0 : wc.cell? ⟨g, 0, none⟩ = some (.int .i64 0) := HX.out.cell 0 rfl
                  have x2 : wc.cell? ⟨g, 2, none⟩ = some (.bool false) := HX.out.cell 2 rfl
                  have x4 : wc.cell? ⟨g, 4, none⟩ = some (.bool false) := HX.out.cell 4 rfl
                  have hm : P.data.toList.length ≤ i := HM.out.1
                  have HG2 : Hid (G = some (out ++ Lx.one T2.data.toList p)) := HM.out.2
                  generalize out ++ Lx.one T2.data.toList p = out2 at *
                  rw [Wk.len_data] at hm
                  have hl2 : out2.length ≤ i := by have := HL.out.2; omega
                  have HG3 : Hid (Lx.go n P.data.toList i false out2 = G) := by unfold Hid; rw [HG2.out, Lx.go_end _ _ _ (by rw [Wk.len_data]; exact hm)]
                  have HMZ : Hid (Lr.mea P.size (.int .i64 (i : Int)) (.bool false) < Lr.mea P.size (.int .i64 (p : Int)) (.bool tr)) := by
                    have hb := HBB.out
                    unfold Hid Lr.mea
                    simp only [intOf, Int.toNat_natCast]
                    cases tr with
                    | true => simp only; omega
                    | false =>
                      rw [Bool.or_false, decide_eq_true_eq] at hb
                      simp only
                      omega
                  clear HM HL HG2 HV HBB
                  go_wp2_with fail
                  go_roundw
                  case rel => exact ⟨i, n, false, out2, hiP, by omega, rfl, rfl, hl2, HG3, HR, HB⟩
                  case measure => exact HMZ.out
                | some a =>
                  have x0 : wc.cell? ⟨g, 0, none⟩ = some (.int .i64 (a.fin : Int)) := HX.out.cell 0 rfl
                  have x1 : wc.cell? ⟨g, 1, none⟩ = some (.string ⟨a.text.toArray⟩) := HX.out.cell 1 rfl
                  have x2 : wc.cell? ⟨g, 2, none⟩ = some (.bool a.trims) := HX.out.cell 2 rfl
                  have x4 : wc.cell? ⟨g, 4, none⟩ = some (.bool true) := HX.out.cell 4 rfl
                  have hf1 : i + 4 ≤ a.fin := HM.out.1
                  have hf2 : a.fin ≤ P.data.toList.length := HM.out.2.1
                  rw [Wk.len_data] at hf2
                  have HG2 : Hid (G = Lx.go (n - 1) P.data.toList a.fin a.trims (out ++ Lx.one T2.data.toList p ++ if a.com = true then [] else [⟨true, a.text, i⟩])) := HM.out.2.2
                  generalize out ++ Lx.one T2.data.toList p = out2 at *
                  have hl2 : out2.length ≤ p + 1 := by have := HL.out.1; omega
                  have HMZ : Hid (Lr.mea P.size (.int .i64 (a.fin : Int)) (.bool a.trims) < Lr.mea P.size (.int .i64 (p : Int)) (.bool tr)) := by
                    unfold Hid Lr.mea
                    simp only [intOf, Int.toNat_natCast]
                    cases a.trims <;> cases tr <;> simp only <;> omega
                  cases hc : a.com with
                  | true =>
                    have x3 : wc.cell? ⟨g, 3, none⟩ = some (.bool true) := by rw [← hc]; exact HX.out.cell 3 rfl
                    have HG3 : Hid (Lx.go (n - 1) P.data.toList a.fin a.trims out2 = G) := by unfold Hid; rw [HG2.out, if_pos hc, List.append_nil]
                    clear HM HL HG2 HV HBB hc
                    go_wp2_with fail
                    go_roundw
                    case rel => exact ⟨a.fin, n - 1, a.trims, out2, hf2, by omega, rfl, rfl, by omega, HG3, HR, HB⟩
                    case measure => exact HMZ.out
                  | false =>
                    have x3 : wc.cell? ⟨g, 3, none⟩ = some (.bool false) := by rw [← hc]; exact HX.out.cell 3 rfl
                    have HG3 : Hid (Lx.go (n - 1) P.data.toList a.fin a.trims (out2 ++ [⟨true, a.text, i⟩]) = G) := by unfold Hid; rw [HG2.out, if_neg (by rw [hc]; decide)]
                    have HC3 : Hid (∀ (j : Nat) (u : Value), (Pc.three ⟨true, a.text, i⟩)[j]? = some u → (wc.alloc (.cells #[.bool true, .string ⟨a.text.toArray⟩, .int .i64 (i : Int)] 58)).cell? ⟨wc.heap.size, j, none⟩ = some u) := Lm.cell3 wc true ⟨a.text.toArray⟩ i
                    clear HM HL HG2 HBB hc
                    go_wp2_with (at_builtin; refine Ro.push rfl _ _ 49 58 3 32 _ rfl Tryz.underlying49 Lm.info rfl (by decide) _ rfl (HR.out.alloc _) wc.heap.size (Pc.three ⟨true, a.text, i⟩) rfl HC3.out rfl (Pc.three_one _) (by unfold maxLen; omega) (by omega) (by have := HB.out.size; simp; omega) ?_)
                    intro v4 w4 R4 hg4 hf4
                    have HR4 : Hid (w4.ownsRow w.heap.size 58 3 v4 (out2 ++ [(⟨true, a.text, i⟩ : Pc)]).length (Pc.cells (out2 ++ [⟨true, a.text, i⟩]))) := by unfold Hid; rw [Pc.cells_snoc, List.length_append]; exact R4
                    have HB4 : Hid (Below w.heap.size w w4) := Lib.hid ((HB.out.alloc HB.out.size _).grown hg4 (by have := HB.out.size; simp; omega) (fun k hk => (HR.out.lt k hk).1))
                    have HX4 : Hid (Bs.Box w4 g (La.cells (some a)) 84) := (hg4.block g (by have := HX.out.lt; simp; omega) (fun e => HV.out g e.symm rfl)).trans (HX.out.alloc _)
                    have y0 : w4.cell? ⟨g, 0, none⟩ = some (.int .i64 (a.fin : Int)) := HX4.out.cell 0 rfl
                    have y2 : w4.cell? ⟨g, 2, none⟩ = some (.bool a.trims) := HX4.out.cell 2 rfl
                    have y4 : w4.cell? ⟨g, 4, none⟩ = some (.bool true) := HX4.out.cell 4 rfl
                    have hl3 : (out2 ++ [(⟨true, a.text, i⟩ : Pc)]).length ≤ a.fin := by rw [List.length_append]; simp only [List.length_cons, List.length_nil]; omega
                    clear R4 hg4 hf4 HX HR HB HV x0 x1 x2 x3 x4
                    go_wp2_with fail
                    go_roundw
                    case rel => exact ⟨a.fin, n - 1, a.trims, out2 ++ [⟨true, a.text, i⟩], hf2, by omega, rfl, rfl, hl3, HG3, HR4, HB4⟩
                    case measure => exact HMZ.out
end Go.Proofs.YtjppobeomocgbaaGreatDoor

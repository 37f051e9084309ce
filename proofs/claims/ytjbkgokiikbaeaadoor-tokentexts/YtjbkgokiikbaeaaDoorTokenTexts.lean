/-
  THE WALK of stolelaw5.TokenTexts: whatever the page, the call returns true.
-/
import Derived.Test.YtjbkgokiikbaeaaDoorTAwake
import Derived.Test.YtjbkgokiikbaeaaDoorTQuiet
import Derived.Test.YtjbkgokiikbaeaaDoorTTx
namespace Go.Proofs.YtjbkgokiikbaeaaDoor
open Go.RowKit
theorem Tx.loop (K : ByteArray) : ∀ (n i : Nat) (r : List UInt8), n = K.size - i → (ByteArray.toList.loop K i r).length = r.length + n := by
  intro n
  induction n with
  | zero => intro i r h; unfold ByteArray.toList.loop; rw [if_neg (by omega)]; simp
  | succ n ih => intro i r h; unfold ByteArray.toList.loop; rw [if_pos (by omega), ih (i + 1) _ (by omega)]; simp; omega
theorem Tx.notNil (K : ByteArray) (h : ¬ K.size = 0) : ¬ K.toList = [] := by
  intro e
  have := Tx.loop K K.size 0 [] (by omega)
  unfold ByteArray.toList at e
  rw [e] at this
  simp at this
  exact h this.symm
theorem Tx.notEmpty (K : ByteArray) (h : ¬ K.size = 0) : K.toList.isEmpty = false := by
  cases hh : K.toList with
  | nil => exact absurd hh (Tx.notNil K h)
  | cons a l => rfl
def Tx.ok (c : UInt8) : Bool := decide (c ≠ 60) && decide (c ≠ 38) && decide (c ≠ 13)
theorem Tx.snoc (l : List UInt8) (k : Nat) (hk : k < l.length) : (l.take (k + 1)).all Tx.ok = ((l.take k).all Tx.ok && Tx.ok l[k]) := by
  rw [List.take_succ_eq_append_getElem hk, List.all_append]
  simp
theorem Tx.all (l : List UInt8) (h : l.all Tx.ok = true) : ∀ c ∈ l, c ≠ 60 ∧ c ≠ 38 ∧ c ≠ 13 := by
  intro c hc
  have := List.all_eq_true.1 h c hc
  simp [Tx.ok] at this
  exact ⟨this.1.1, this.1.2, this.2⟩
set_option maxRecDepth 100000 in
set_option maxHeartbeats 8000000 in
theorem Law.tokenTexts (s : ByteArray) (m : Int) (w : World) (hm : w.cell? ⟨0, 0, none⟩ = some (.int .i64 m)) (hs : s.size ≤ reachBytes) :
    Calls Tryd.prog 3 #[.string s] w fun e w' => e = .returned (.bool true) ∧ Below w.heap.size w w' := by
  have haw := Aw.awake m w hm
  have HM := Lib.hid hm
  unfold reachBytes at hs
  clear hm
  by_cases h64 : 65536 < s.size
  · have hlong := fun u => Tk.long s u h64 (by unfold maxLen; omega)
    have t64 : decide ((65536 : Int) < (s.size : Int)) = true := decide_eq_true (by omega)
    go_enter Tryd.func3, Tryd.ntmps3
    go_wp2_with (first | (go_at_call 6; refine haw.mono ?_; rintro e w1 ⟨rfl, q1⟩; clear haw; have HB1 := Lib.hid q1; clear q1) | (go_at_call 7; refine (hlong _).mono ?_; rintro e w' ⟨rfl, hw⟩; have hw := hw.symm; subst hw) | (go_at_call 8; refine (Aw.num _ _).mono ?_; rintro e w' ⟨rfl, hw⟩; have hw := hw.symm; subst hw))
    go_ret
    exact ⟨rfl, HB1.out⟩
  have hT := fun V hb => Tk.short s m V (by omega) (Tp.keep hb HM.out : World.cell? V _ = _)
  have HF := Lib.hid (Tx.tokens s)
  have HP := Lib.hid (Tx.plain s)
  generalize Rd.tokens s = TS at *
  clear HM
  go_enter Tryd.func3, Tryd.ntmps3
  go_wp2_with (first | (go_at_call 6; refine haw.mono ?_; rintro e w1 ⟨rfl, q1⟩; clear haw; have HB1 := Lib.hid q1; clear q1) | (go_at_call 7; refine (hT _ HB1.out).mono ?_; rintro e w2 ⟨v2, rfl, hl2, hb2⟩; obtain ⟨a2, dd, rfl, hd2, hm2, hx2⟩ := hl2; have HL2 := Lib.hid hx2; have HB2 := Lib.hid (HB1.out.trans (hb2.mono HB1.out.size)); clear hT hx2 hb2 HB1) | (go_at_call 8; refine (Aw.num _ _).mono ?_; rintro e w' ⟨rfl, hw⟩; have hw := hw.symm; subst hw))
  unfold maxLen at hm2
  go_loop [5, 6] (fun x i => ∃ (k : Nat) (b : Bool), k ≤ s.size ∧ i = .int .i64 (k : Int) ∧ x = .bool b ∧ Hid (b = (s.data.toList.take k).all Tx.ok)) (fun _ i => s.size - (intOf i).toNat)
  case atStart => exact ⟨0, true, Nat.zero_le _, rfl, rfl, rfl⟩
  case round =>
    obtain ⟨k, b, hk, rfl, rfl, HX⟩ := hrel
    by_cases hlt : k < s.size
    · have d1 : decide ((k : Int) < (s.size : Int)) = true := decide_eq_true (by omega)
      have HS := Lib.hid (Tx.snoc s.data.toList k (by rw [Wk.len_data]; exact hlt))
      have hgl : s.data.toList[k]'(by rw [Wk.len_data]; exact hlt) = s[k] := rfl
      rw [hgl] at HS
      clear hgl
      cases b with
      | false =>
        have HN : Hid (false = (s.data.toList.take (k + 1)).all Tx.ok) := by unfold Hid; rw [HS.out, ← HX.out]; rfl
        clear HS HX
        go_wp2
        go_round
        case rel => exact ⟨k + 1, false, by omega, by go_num, rfl, HN⟩
        case measure => simp [intOf]; omega
      | true =>
        by_cases c1 : s[k] = 60
        · have t1 : ((s[k].toNat : Int) != 60) = false := Qt.ne_false c1
          have HN : Hid (false = (s.data.toList.take (k + 1)).all Tx.ok) := by unfold Hid; rw [HS.out, c1]; simp [Tx.ok]
          clear HS HX c1 
          go_wp2
          go_round
          case rel => exact ⟨k + 1, false, by omega, by go_num, rfl, HN⟩
          case measure => simp [intOf]; omega
        have t1 : ((s[k].toNat : Int) != 60) = true := Qt.ne_true c1
        by_cases c2 : s[k] = 38
        · have t2 : ((s[k].toNat : Int) != 38) = false := Qt.ne_false c2
          have HN : Hid (false = (s.data.toList.take (k + 1)).all Tx.ok) := by unfold Hid; rw [HS.out, c2]; simp [Tx.ok]
          clear HS HX c2 c1
          go_wp2
          go_round
          case rel => exact ⟨k + 1, false, by omega, by go_num, rfl, HN⟩
          case measure => simp [intOf]; omega
        have t2 : ((s[k].toNat : Int) != 38) = true := Qt.ne_true c2
        by_cases c3 : s[k] = 13
        · have t3 : ((s[k].toNat : Int) != 13) = false := Qt.ne_false c3
          have HN : Hid (false = (s.data.toList.take (k + 1)).all Tx.ok) := by unfold Hid; rw [HS.out, c3]; simp [Tx.ok]
          clear HS HX c3 c1 c2
          go_wp2
          go_round
          case rel => exact ⟨k + 1, false, by omega, by go_num, rfl, HN⟩
          case measure => simp [intOf]; omega
        have t3 : ((s[k].toNat : Int) != 13) = true := Qt.ne_true c3
        have HN : Hid (true = (s.data.toList.take (k + 1)).all Tx.ok) := by unfold Hid; rw [HS.out, ← HX.out]; simp [Tx.ok, c1, c2, c3]
        clear HS HX c1 c2 c3
        go_wp2
        go_round
        case rel => exact ⟨k + 1, true, by omega, by go_num, rfl, HN⟩
        case measure => simp [intOf]; omega
    · have d1 : decide ((k : Int) < (s.size : Int)) = false := decide_eq_false (by omega)
      have HA : Hid (b = s.data.toList.all Tx.ok) := by unfold Hid; rw [HX.out, List.take_of_length_le (by rw [Wk.len_data]; omega)]
      clear HX
      go_wp2
      clear d1
      go_loop [7] (fun i => ∃ j : Nat, j ≤ TS.length ∧ i = .int .i64 (j : Int)) (fun i => TS.length - (intOf i).toNat)
      case atStart => exact ⟨0, Nat.zero_le _, rfl⟩
      case round =>
        obtain ⟨j, hj, rfl⟩ := hrel
        by_cases hlt : j < TS.length
        · have d1 : decide ((j : Int) < (TS.length : Int)) = true := decide_eq_true (by omega)
          have hdj : j < dd := by omega
          obtain ⟨b1, o1, av1, ha, _, p0, _, p2, _, _, _⟩ := HL2.out j TS[j] (List.getElem?_eq_getElem hlt)
          have HFs := Lib.hid (HF.out.some TS[j] (List.getElem_mem hlt))
          by_cases hj0 : j = 0
          · have dp : decide ((0 : Int) < (j : Int)) = false := decide_eq_false (by omega)
            have dp0 : ¬ 0 < j := by omega
            subst ha
            clear HL2 HF HP HA hj0
            generalize TS[j] = y at *
            by_cases hy : y.kind = 0
            · have t1 : (y.kind == 0) = true := by rw [hy]; rfl
              have hne := HFs.out hy
              have n1 := Tx.notNil _ hne
              have n2 := Tx.notEmpty _ hne
              clear hy HFs
              go_wp2
              go_round
              case rel => exact ⟨j + 1, by omega, by go_num⟩
              case measure => simp [intOf]; omega
            · have t1 : (y.kind == 0) = false := beq_eq_false_iff_ne.2 hy
              clear hy HFs
              go_wp2
              go_round
              case rel => exact ⟨j + 1, by omega, by go_num⟩
              case measure => simp [intOf]; omega
          · obtain ⟨b2, o2, av2, ha2, _, q0, _, _, _, _, _⟩ := HL2.out (j - 1) TS[j - 1] (List.getElem?_eq_getElem (by omega))
            rw [ha] at ha2
            injection ha2 with ha2
            injection ha2 with hb ho _
            subst hb ho ha
            have HFt := Lib.hid (HF.out.two (j - 1) TS[j - 1] TS[j] (List.getElem?_eq_getElem (by omega)) (by rw [show j - 1 + 1 = j by omega]; exact List.getElem?_eq_getElem hlt))
            obtain ⟨i, rfl⟩ : ∃ i, j = i + 1 := ⟨j - 1, by omega⟩
            have e1 : TS[i + 1 - 1] = TS[i] := rfl
            rw [e1] at HFt q0
            rw [show i + 1 - 1 = i from rfl] at q0
            have dp : decide ((0 : Int) < ((i + 1 : Nat) : Int)) = true := decide_eq_true (by omega)
            have ws : IntKind.i64.wrap (((i + 1 : Nat) : Int) - 1) = (i : Int) := by rw [IntKind.wrap_i64]; omega
            have hdi : i < dd := by omega
            clear HL2 HF HP HA
            generalize TS[i + 1] = y at *
            generalize TS[i] = z at *
            by_cases hy : y.kind = 0
            · have t1 : (y.kind == 0) = true := by rw [hy]; rfl
              have t2 : (z.kind == 0) = false := beq_eq_false_iff_ne.2 (fun e => HFt.out ⟨e, hy⟩)
              have hne := HFs.out hy
              have n1 := Tx.notNil _ hne
              have n2 := Tx.notEmpty _ hne
              clear hy HFs HFt
              go_wp2
              go_round
              case rel => exact ⟨i + 1 + 1, by omega, by go_num⟩
              case measure => simp [intOf]; omega
            · have t1 : (y.kind == 0) = false := beq_eq_false_iff_ne.2 hy
              clear hy HFs HFt
              go_wp2
              go_round
              case rel => exact ⟨i + 1 + 1, by omega, by go_num⟩
              case measure => simp [intOf]; omega
        · have d1 : decide ((j : Int) < (TS.length : Int)) = false := decide_eq_false (by omega)
          clear hj
          cases b with
          | false =>
            go_wp2
            go_ret
            exact ⟨rfl, HB2.out⟩
          | true =>
            have hp := HP.out (Tx.all _ HA.out.symm)
            by_cases hz : s.size = 0
            · rw [if_pos hz] at hp
              subst hp
              have hse : s = ⟨#[]⟩ := by
                apply ByteArray.ext
                exact Array.eq_empty_of_size_eq_zero hz
              subst hse
              clear HL2 HF HP HA hz
              go_wp2
              go_ret
              exact ⟨rfl, HB2.out⟩
            · rw [if_neg hz] at hp
              subst hp
              obtain ⟨b1, o1, av1, rfl, _, p0, _, p2, _, _, _⟩ := HL2.out 0 ⟨0, Ts.e, s, [], false⟩ rfl
              have n1 := Tx.notNil _ hz
              have n2 := Tx.notEmpty _ hz
              have hd0 : 0 < dd := hd2
              have hj1 : ¬ j < 1 := hlt
              simp only [Nat.zero_mul, Nat.add_zero] at p0 p2
              clear HL2 HF HP HA
              go_wp2
              go_ret
              exact ⟨rfl, HB2.out⟩
end Go.Proofs.YtjbkgokiikbaeaaDoor

/-
  THE WALK of stoleref1.Decode: what the document's own answer gives is 'Pl.decL' too (texts of up to 2^45 bytes).
-/
import Derived.Test.YtjbkgokiikbaeaaGreatDoorMRRunetoRefRef
import Derived.Test.YtjbkgokiikbaeaaGreatDoorTRowA
import Derived.Test.YtjbkgokiikbaeaaGreatDoorMTSim3toRKit5
namespace Go.Proofs.YtjbkgokiikbaeaaGreatDoor
open Go.RowKit

theorem Pl.tokEnd_add : ∀ (m : Nat) (d : List UInt8) (k a : Nat), Pl.tokEnd m d (k + a) = Pl.tokEnd m d k + a := by
  intro m
  induction m with
  | zero => intro d k a; cases d <;> rfl
  | succ m ih =>
    intro d k a
    cases d with
    | nil => rfl
    | cons c r =>
      rw [Pl.tokEnd, Pl.tokEnd]
      split
      · rw [show k + a + 1 = (k + 1) + a by omega, ih]
      · rfl
theorem Rt.tok_end (m : Nat) (s : ByteArray) (k : Nat) (h : s.size ≤ k) : Pl.tokEnd m (s.data.toList.drop k) k = k := by
  rw [List.drop_of_length_le (by rw [Array.length_toList]; exact h)]
  cases m <;> rfl
theorem Rt.tok_zero (m : Nat) (l : List UInt8) (k : Nat) (h : m = 0) : Pl.tokEnd m l k = k := by subst h; cases l <;> rfl
theorem Rt.tok_stop (m : Nat) (s : ByteArray) (k : Nat) (h : k < s.size) (hc : Pl.tokc s[k] = false) : Pl.tokEnd m (s.data.toList.drop k) k = k := by
  rw [Rd.drop_cons s k h]
  cases m with
  | zero => rfl
  | succ m => rw [Pl.tokEnd, if_neg (by rw [hc]; decide)]
theorem Rt.tok_go (m m' : Nat) (s : ByteArray) (k : Nat) (h : k < s.size) (hc : Pl.tokc s[k] = true) (hm : m = m' + 1) : Pl.tokEnd m (s.data.toList.drop k) k = Pl.tokEnd m' (s.data.toList.drop (k + 1)) (k + 1) := by
  subst hm
  rw [Rd.drop_cons s k h, Pl.tokEnd, if_pos hc]
/-- the end that was found is the plain one -/
theorem Rt.tok_fin (s : ByteArray) (j m : Nat) (h : j + 1 ≤ m) (HE : Pl.tokEnd (j + 11 - m) (s.data.toList.drop m) m = Pl.tokEnd 10 (s.data.toList.drop (j + 1)) (j + 1)) (HS : Pl.tokEnd (j + 11 - m) (s.data.toList.drop m) m = m) : Pl.tokEnd 10 (s.data.toList.drop (j + 1)) 0 = m - (j + 1) := by
  have h1 := Pl.tokEnd_add 10 (s.data.toList.drop (j + 1)) 0 (j + 1)
  rw [Nat.zero_add] at h1
  have h2 := HE.symm.trans HS
  omega
/-- no reference -/
theorem Rt.dec_none (s : ByteArray) (j m : Nat) (c : UInt8) (hd : s.data.toList.drop j = c :: s.data.toList.drop (j + 1)) (ht : Pl.tokEnd 10 (s.data.toList.drop (j + 1)) 0 = m - (j + 1)) (hm : j + 1 ≤ m)
    (h : c ≠ 38 ∨ s.data.toList[m]? ≠ some 59 ∨ (Pl.refP ((s.data.toList.drop (j + 1)).take (m - (j + 1)))).2 = false) : Pl.decL (s.data.toList.drop j) = c :: Pl.decL (s.data.toList.drop (j + 1)) := by
  rw [hd]
  refine Pl.decL_step c _ ?_
  rintro ⟨hc, h2⟩
  rcases h with h | h | h
  · exact h hc
  · apply h2
    rw [← Pl.refT_eq, Pl.refT, ht, List.getElem?_drop, show j + 1 + (m - (j + 1)) = m by omega, if_neg h]
  · apply h2
    rw [← Pl.refT_eq, Pl.refT, ht]
    split
    · rw [Pl.refP] at h
      cases hr : Pl.refR ((s.data.toList.drop (j + 1)).take (m - (j + 1))) with
      | none => rfl
      | some t => rw [hr] at h; cases h
    · rfl
/-- a reference -/
theorem Rt.dec_some (s : ByteArray) (j m : Nat) (c : UInt8) (g : List UInt8) (hd : s.data.toList.drop j = c :: s.data.toList.drop (j + 1)) (ht : Pl.tokEnd 10 (s.data.toList.drop (j + 1)) 0 = m - (j + 1)) (hm : j + 1 ≤ m)
    (hc : c = 38) (h59 : s.data.toList[m]? = some 59) (h : Pl.refP ((s.data.toList.drop (j + 1)).take (m - (j + 1))) = (g, true)) : Pl.decL (s.data.toList.drop j) = g ++ Pl.decL (s.data.toList.drop (m + 1)) ∧ g.length ≤ 4 := by
  have hr : Pl.refR ((s.data.toList.drop (j + 1)).take (m - (j + 1))) = some g := by
    rw [Pl.refP] at h
    cases hr : Pl.refR ((s.data.toList.drop (j + 1)).take (m - (j + 1))) with
    | none => rw [hr] at h; cases h
    | some t => rw [hr] at h; simp at h; rw [h]
  have hL : Pl.refL (s.data.toList.drop (j + 1)) = (g, m - (j + 1) + 1) := by
    rw [← Pl.refT_eq, Pl.refT, ht, List.getElem?_drop, show j + 1 + (m - (j + 1)) = m by omega, if_pos h59, hr]
  refine ⟨?_, by have := Pl.refL_sign (s.data.toList.drop (j + 1)); rwa [hL] at this⟩
  rw [hd, Pl.decL_ref c _ hc (by rw [hL]; simp), hL, List.drop_drop, show j + 1 + (m - (j + 1) + 1) = m + 1 by omega]
theorem Rt.ref_at (s p : ByteArray) (j m : Nat) (hp : p.data.toList = (s.data.toList.drop (j + 1)).take (m - (j + 1))) (g : List UInt8) (b : Bool) (h : Pl.refP ((s.data.toList.drop (j + 1)).take (m - (j + 1))) = (g, b)) (w : World) :
    Calls Tryz.prog 108 #[.string p] w fun e w' => e = .returned (.tuple #[.string ⟨g.toArray⟩, .bool b]) ∧ Below w.heap.size w w' := by
  have c := Rt.reference p w
  rw [hp, h] at c
  exact c
theorem Rt.own_below {wr w1 : World} {B : Nat} {o : Value} {acc : List UInt8} (hown : wr.ownsRow B 5 1 o acc.length (Lib.byteCells acc)) (hb : Below wr.heap.size wr w1) : w1.ownsRow B 5 1 o acc.length (Lib.byteCells acc) :=
  hown.kept (row := none) ⟨hb.os, hb.tape, hb.output, hb.size, fun k hk _ => hb.block k hk⟩ (Classical.em _)

set_option maxRecDepth 100000 in
set_option maxHeartbeats 8000000 in
theorem Rt.decode (s : ByteArray) (w : World) (hs : s.size ≤ 35184372088832) :
    Calls Tryz.prog 85 #[.string s] w fun e w' => e = .returned (.string ⟨(Pl.decL s.data.toList).toArray⟩) ∧ Below w.heap.size w w' := by
  obtain ⟨i0, hi, hz0, hz1, hz2⟩ := info_parts Wk.info5
  go_enter Tryz.func85, Tryz.ntmps85
  go_wp2_with fail
  go_loopw [3, 4] (fun o i wr => ∃ (j : Nat) (acc : List UInt8), j ≤ s.size ∧ i = .int .i64 j ∧ wr.ownsRow w.heap.size 5 1 o acc.length (Lib.byteCells acc) ∧ Below w.heap.size w wr ∧ Hid (acc ++ Pl.decL (s.data.toList.drop j) = Pl.decL s.data.toList) ∧ acc.length ≤ 4 * j) (fun _ i _ => s.size - (intOf i).toNat)
  case atStart => exact ⟨0, [], Nat.zero_le _, rfl, World.ownsRow_nil _ _ _ _, Below.refl _ _, rfl, Nat.le_refl _⟩
  case round =>
    obtain ⟨j, acc, hj, rfl, hown, hb, hn, hal⟩ := hrel
    have hsr := hb.size
    by_cases hlt : j < s.size
    · obtain ⟨c, hc⟩ : ∃ c, s[j] = c := ⟨_, rfl⟩
      have HD : Hid (s.data.toList.drop j = c :: s.data.toList.drop (j + 1)) := by rw [← hc]; exact Rd.drop_cons s j hlt
      have hcn : s[j].toNat = c.toNat := by rw [hc]
      clear hc
      go_wp2_with fail
      go_loop [5] (fun i => ∃ m : Nat, j + 1 ≤ m ∧ m ≤ s.size ∧ m ≤ j + 11 ∧ i = .int .i64 m ∧ Hid (Pl.tokEnd (j + 11 - m) (s.data.toList.drop m) m = Pl.tokEnd 10 (s.data.toList.drop (j + 1)) (j + 1))) (fun i => j + 11 - (intOf i).toNat)
      case atStart => exact ⟨j + 1, Nat.le_refl _, by omega, by omega, by go_num, by show _ = _; rw [show j + 11 - (j + 1) = 10 by omega]⟩
      case round =>
        obtain ⟨m, hm1, hm2, hm3, rfl, HE⟩ := hrel
        by_cases hmt : m < s.size
        · obtain ⟨n, hmn⟩ : ∃ n, s[m].toNat = n := ⟨_, rfl⟩
          by_cases h11 : m < j + 11
          · have HQ : Hid (Pl.tokc s[m] = (Pl.letter s[m] || Pl.digit s[m] || decide (s[m] = 35))) := Pl.tokc_eq _
            have cl := Rt.letter s[m] wr
            have cg := Rt.digit s[m] wr
            rw [hmn] at cl cg
            generalize Pl.letter s[m] = bl at *
            generalize Pl.digit s[m] = bg at *
            cases bl with
            | true =>
              have HK : Hid (Pl.tokc s[m] = true) := by show _ = _; rw [HQ.out]; simp
              clear HQ
              have HN : Hid (Pl.tokEnd (j + 11 - (m + 1)) (s.data.toList.drop (m + 1)) (m + 1) = Pl.tokEnd 10 (s.data.toList.drop (j + 1)) (j + 1)) := by
                have h := Rt.tok_go (j + 11 - m) (j + 11 - (m + 1)) s m hmt HK.out (by omega)
                show _ = _
                rw [← h]; exact HE.out
              clear HE HK hown hn HD
              go_wp2_with (first | (go_at_call 68; refine cl.mono ?_; rintro e w9 ⟨rfl, hw9⟩; subst hw9) | (go_at_call 107; refine cg.mono ?_; rintro e w9 ⟨rfl, hw9⟩; subst hw9))
              go_round
              case rel => exact ⟨m + 1, by omega, by omega, by omega, by go_num, HN⟩
              case measure => simp [intOf]; omega
            | false =>
              cases bg with
              | true =>
                have HK : Hid (Pl.tokc s[m] = true) := by show _ = _; rw [HQ.out]; simp
                clear HQ
                have HN : Hid (Pl.tokEnd (j + 11 - (m + 1)) (s.data.toList.drop (m + 1)) (m + 1) = Pl.tokEnd 10 (s.data.toList.drop (j + 1)) (j + 1)) := by
                  have h := Rt.tok_go (j + 11 - m) (j + 11 - (m + 1)) s m hmt HK.out (by omega)
                  show _ = _
                  rw [← h]; exact HE.out
                clear HE HK hown hn HD
                go_wp2_with (first | (go_at_call 68; refine cl.mono ?_; rintro e w9 ⟨rfl, hw9⟩; subst hw9) | (go_at_call 107; refine cg.mono ?_; rintro e w9 ⟨rfl, hw9⟩; subst hw9))
                go_round
                case rel => exact ⟨m + 1, by omega, by omega, by omega, by go_num, HN⟩
                case measure => simp [intOf]; omega
              | false =>
                by_cases h35 : s[m] = 35
                · have HK : Hid (Pl.tokc s[m] = true) := by show _ = _; rw [HQ.out]; simp [h35]
                  have b35 : ((n : Int) == 35) = true := by rw [← hmn, h35]; rfl
                  clear HQ h35
                  have HN : Hid (Pl.tokEnd (j + 11 - (m + 1)) (s.data.toList.drop (m + 1)) (m + 1) = Pl.tokEnd 10 (s.data.toList.drop (j + 1)) (j + 1)) := by
                    have h := Rt.tok_go (j + 11 - m) (j + 11 - (m + 1)) s m hmt HK.out (by omega)
                    show _ = _
                    rw [← h]; exact HE.out
                  clear HE HK hown hn HD
                  go_wp2_with (first | (go_at_call 68; refine cl.mono ?_; rintro e w9 ⟨rfl, hw9⟩; subst hw9) | (go_at_call 107; refine cg.mono ?_; rintro e w9 ⟨rfl, hw9⟩; subst hw9))
                  go_round
                  case rel => exact ⟨m + 1, by omega, by omega, by omega, by go_num, HN⟩
                  case measure => simp [intOf]; omega
                · have HK : Pl.tokc s[m] = false := by rw [HQ.out]; simp [h35]
                  have b35 : ((n : Int) == 35) = false := by rw [← hmn]; exact Re.beq_false s[m] 35 35 rfl h35
                  have HT : Hid (Pl.tokEnd 10 (s.data.toList.drop (j + 1)) 0 = m - (j + 1)) := Rt.tok_fin s j m hm1 HE.out (Rt.tok_stop _ s m hmt HK)
                  clear HQ h35 HK
                  by_cases h38 : c = 38
                  · have b38 : ((c.toNat : Int) == 38) = true := Re.beq_true c 38 (by rw [h38]; rfl)
                    have H38 : Hid (c = 38) := h38
                    clear h38
                    have HG : Hid (s.data.toList[m]? = some s[m]) := Rd.get_at s m hmt
                    by_cases h59 : n = 59
                    · have b59 : ((n : Int) == 59) = true := beq_iff_eq.2 (by omega)
                      have H59 : Hid (s.data.toList[m]? = some 59) := by show _ = _; rw [HG.out]; exact Rd.is59 _ n hmn h59
                      clear h59 HG
                      obtain ⟨p, hp⟩ : ∃ p, s.extract (j + 1) m = p := ⟨_, rfl⟩
                      have HP : Hid (p.data.toList = (s.data.toList.drop (j + 1)).take (m - (j + 1))) := by
                        show _ = _
                        rw [← hp, Lib.extract_data]
                      have hcut : ∀ u : World, (Instr.slice 9 (.string s) (some (.int .i64 ((j : Int) + 1))) (some (.int .i64 (m : Int))) none).run Tryz.prog u = .ok (.string p) u := fun u => by
                        have h := Wk.run_cut u s ((j : Int) + 1) (m : Int) (by omega) (by omega) (by omega)
                        rw [← hp]
                        rwa [show ((j : Int) + 1).toNat = j + 1 by omega, Int.toNat_natCast] at h
                      obtain ⟨g, b, hr⟩ : ∃ g b, Pl.refP ((s.data.toList.drop (j + 1)).take (m - (j + 1))) = (g, b) := ⟨_, _, rfl⟩
                      have cr := Rt.ref_at s p j m HP.out g b hr wr
                      have HR : Hid (Pl.refP ((s.data.toList.drop (j + 1)).take (m - (j + 1))) = (g, b)) := hr
                      clear hp HP hr
                      cases b with
                      | true =>
                        have HS := Rt.dec_some s j m c g HD.out HT.out hm1 H38.out H59.out HR.out
                        have hg4 := HS.2
                        have HN : Hid ((acc ++ g) ++ Pl.decL (s.data.toList.drop (m + 1)) = Pl.decL s.data.toList) := by
                          show _ = _
                          rw [← hn.out, HS.1, List.append_assoc]
                        have hps : (⟨g.toArray⟩ : ByteArray).size = g.length := by rw [← Wk.len_data]
                        clear HS HR hn HD HT H38 H59 HE
                        go_wp2_with (first | (go_at_call 68; refine cl.mono ?_; rintro e w9 ⟨rfl, hw9⟩; subst hw9) | (go_at_call 107; refine cg.mono ?_; rintro e w9 ⟨rfl, hw9⟩; subst hw9))
                        refine cr.mono ?_
                        rintro e w8 ⟨rfl, hb8⟩
                        have hb8' := Wk.below_step hb hb8
                        have hown8 := Rt.own_below hown hb8
                        have hs8 := hb8'.size
                        clear hown hb cr hcut
                        go_wp2_with (at_builtin; refine Lib.wpList_append_own_string _ rfl _ _ 43 9 rfl w.heap.size 5 i0 Tryz.underlying43 Tryz.underlying9 hi hz0 hz1 hz2 _ _ _ rfl hown8 ⟨g.toArray⟩ rfl (by rw [hps]; unfold maxLen; omega) (by rw [hps]; omega) (by omega) ?_)
                        intro v' w1 hown' hgrow _
                        have R := Rn.good_rel (part := ⟨g.toArray⟩) (l := g) hps hb8' hown8 rfl hown' hgrow
                        clear hown' hgrow hown8 hb8 hb8'
                        go_wp2
                        go_roundw
                        case rel => exact ⟨m + 1, acc ++ g, by omega, by go_num, R.1, R.2, HN, by simp; omega⟩
                        case measure => simp [intOf]; omega
                      | false =>
                        have HN : Hid ((acc ++ [c]) ++ Pl.decL (s.data.toList.drop (j + 1)) = Pl.decL s.data.toList) := by
                          show _ = _
                          rw [← hn.out, Rt.dec_none s j m c HD.out HT.out hm1 (.inr (.inr (by rw [HR.out])))]
                          simp
                        clear HR hn HD HT H38 H59 HE
                        go_wp2_with (first | (go_at_call 68; refine cl.mono ?_; rintro e w9 ⟨rfl, hw9⟩; subst hw9) | (go_at_call 107; refine cg.mono ?_; rintro e w9 ⟨rfl, hw9⟩; subst hw9))
                        refine cr.mono ?_
                        rintro e w8 ⟨rfl, hb8⟩
                        have hb8' := Wk.below_step hb hb8
                        have hown8 := Rt.own_below hown hb8
                        have hs8 := hb8'.size
                        clear hown hb cr hcut
                        go_wp2_with (at_builtin; refine wpList_append_own _ rfl _ _ 43 rfl w.heap.size 5 i0 (.int .u8 0) 1 1 Tryz.underlying43 hi hz0 hz1 hz2 rfl (by decide) _ _ _ rfl (hown8.alloc _) ⟨_, 0, none⟩ 1 1 [.int .u8 c.toNat] rfl rfl (Rn.one1 _ _) (Rn.one2 _) (by unfold maxLen; omega) (by omega) (by simp; omega) ?_)
                        intro v' w1 hown' hgrow _
                        have R := Rn.one_rel (c := c) hb8' hown8 hown' hgrow
                        clear hown' hgrow hown8 hb8 hb8'
                        go_wp2
                        go_roundw
                        case rel => exact ⟨j + 1, acc ++ [c], by omega, by go_num, R.1, R.2, HN, by simp; omega⟩
                        case measure => simp [intOf]; omega
                    · have b59 : ((n : Int) == 59) = false := beq_eq_false_iff_ne.2 (by omega)
                      have HN : Hid ((acc ++ [c]) ++ Pl.decL (s.data.toList.drop (j + 1)) = Pl.decL s.data.toList) := by
                        show _ = _
                        rw [← hn.out, Rt.dec_none s j m c HD.out HT.out hm1 (.inr (.inl (by rw [HG.out]; exact Rd.ne59 _ n hmn h59)))]
                        simp
                      clear hn HD HT
                      go_wp2_with (first | (go_at_call 68; refine cl.mono ?_; rintro e w9 ⟨rfl, hw9⟩; subst hw9) | (go_at_call 107; refine cg.mono ?_; rintro e w9 ⟨rfl, hw9⟩; subst hw9) | (at_builtin; refine wpList_append_own _ rfl _ _ 43 rfl w.heap.size 5 i0 (.int .u8 0) 1 1 Tryz.underlying43 hi hz0 hz1 hz2 rfl (by decide) _ _ _ rfl (hown.alloc _) ⟨_, 0, none⟩ 1 1 [.int .u8 c.toNat] rfl rfl (Rn.one1 _ _) (Rn.one2 _) (by unfold maxLen; omega) (by omega) (by simp; omega) ?_))
                      intro v' w1 hown' hgrow _
                      have R := Rn.one_rel (c := c) hb hown hown' hgrow
                      clear hown' hgrow hown hb
                      go_wp2
                      go_roundw
                      case rel => exact ⟨j + 1, acc ++ [c], by omega, by go_num, R.1, R.2, HN, by simp; omega⟩
                      case measure => simp [intOf]; omega
                  · have b38 : ((c.toNat : Int) == 38) = false := Re.beq_false c 38 38 rfl h38
                    have HN : Hid ((acc ++ [c]) ++ Pl.decL (s.data.toList.drop (j + 1)) = Pl.decL s.data.toList) := by
                      show _ = _
                      rw [← hn.out, Rt.dec_none s j m c HD.out HT.out hm1 (.inl h38)]
                      simp
                    clear hn HD HT
                    go_wp2_with (first | (go_at_call 68; refine cl.mono ?_; rintro e w9 ⟨rfl, hw9⟩; subst hw9) | (go_at_call 107; refine cg.mono ?_; rintro e w9 ⟨rfl, hw9⟩; subst hw9) | (at_builtin; refine wpList_append_own _ rfl _ _ 43 rfl w.heap.size 5 i0 (.int .u8 0) 1 1 Tryz.underlying43 hi hz0 hz1 hz2 rfl (by decide) _ _ _ rfl (hown.alloc _) ⟨_, 0, none⟩ 1 1 [.int .u8 c.toNat] rfl rfl (Rn.one1 _ _) (Rn.one2 _) (by unfold maxLen; omega) (by omega) (by simp; omega) ?_))
                    intro v' w1 hown' hgrow _
                    have R := Rn.one_rel (c := c) hb hown hown' hgrow
                    clear hown' hgrow hown hb
                    go_wp2
                    go_roundw
                    case rel => exact ⟨j + 1, acc ++ [c], by omega, by go_num, R.1, R.2, HN, by simp; omega⟩
                    case measure => simp [intOf]; omega
          · have HT : Hid (Pl.tokEnd 10 (s.data.toList.drop (j + 1)) 0 = m - (j + 1)) := Rt.tok_fin s j m hm1 HE.out (Rt.tok_zero _ _ m (by omega))
            by_cases h38 : c = 38
            · have b38 : ((c.toNat : Int) == 38) = true := Re.beq_true c 38 (by rw [h38]; rfl)
              have H38 : Hid (c = 38) := h38
              clear h38
              have HG : Hid (s.data.toList[m]? = some s[m]) := Rd.get_at s m hmt
              by_cases h59 : n = 59
              · have b59 : ((n : Int) == 59) = true := beq_iff_eq.2 (by omega)
                have H59 : Hid (s.data.toList[m]? = some 59) := by show _ = _; rw [HG.out]; exact Rd.is59 _ n hmn h59
                clear h59 HG
                obtain ⟨p, hp⟩ : ∃ p, s.extract (j + 1) m = p := ⟨_, rfl⟩
                have HP : Hid (p.data.toList = (s.data.toList.drop (j + 1)).take (m - (j + 1))) := by
                  show _ = _
                  rw [← hp, Lib.extract_data]
                have hcut : ∀ u : World, (Instr.slice 9 (.string s) (some (.int .i64 ((j : Int) + 1))) (some (.int .i64 (m : Int))) none).run Tryz.prog u = .ok (.string p) u := fun u => by
                  have h := Wk.run_cut u s ((j : Int) + 1) (m : Int) (by omega) (by omega) (by omega)
                  rw [← hp]
                  rwa [show ((j : Int) + 1).toNat = j + 1 by omega, Int.toNat_natCast] at h
                obtain ⟨g, b, hr⟩ : ∃ g b, Pl.refP ((s.data.toList.drop (j + 1)).take (m - (j + 1))) = (g, b) := ⟨_, _, rfl⟩
                have cr := Rt.ref_at s p j m HP.out g b hr wr
                have HR : Hid (Pl.refP ((s.data.toList.drop (j + 1)).take (m - (j + 1))) = (g, b)) := hr
                clear hp HP hr
                cases b with
                | true =>
                  have HS := Rt.dec_some s j m c g HD.out HT.out hm1 H38.out H59.out HR.out
                  have hg4 := HS.2
                  have HN : Hid ((acc ++ g) ++ Pl.decL (s.data.toList.drop (m + 1)) = Pl.decL s.data.toList) := by
                    show _ = _
                    rw [← hn.out, HS.1, List.append_assoc]
                  have hps : (⟨g.toArray⟩ : ByteArray).size = g.length := by rw [← Wk.len_data]
                  clear HS HR hn HD HT H38 H59 HE
                  go_wp2_with fail
                  refine cr.mono ?_
                  rintro e w8 ⟨rfl, hb8⟩
                  have hb8' := Wk.below_step hb hb8
                  have hown8 := Rt.own_below hown hb8
                  have hs8 := hb8'.size
                  clear hown hb cr hcut
                  go_wp2_with (at_builtin; refine Lib.wpList_append_own_string _ rfl _ _ 43 9 rfl w.heap.size 5 i0 Tryz.underlying43 Tryz.underlying9 hi hz0 hz1 hz2 _ _ _ rfl hown8 ⟨g.toArray⟩ rfl (by rw [hps]; unfold maxLen; omega) (by rw [hps]; omega) (by omega) ?_)
                  intro v' w1 hown' hgrow _
                  have R := Rn.good_rel (part := ⟨g.toArray⟩) (l := g) hps hb8' hown8 rfl hown' hgrow
                  clear hown' hgrow hown8 hb8 hb8'
                  go_wp2
                  go_roundw
                  case rel => exact ⟨m + 1, acc ++ g, by omega, by go_num, R.1, R.2, HN, by simp; omega⟩
                  case measure => simp [intOf]; omega
                | false =>
                  have HN : Hid ((acc ++ [c]) ++ Pl.decL (s.data.toList.drop (j + 1)) = Pl.decL s.data.toList) := by
                    show _ = _
                    rw [← hn.out, Rt.dec_none s j m c HD.out HT.out hm1 (.inr (.inr (by rw [HR.out])))]
                    simp
                  clear HR hn HD HT H38 H59 HE
                  go_wp2_with fail
                  refine cr.mono ?_
                  rintro e w8 ⟨rfl, hb8⟩
                  have hb8' := Wk.below_step hb hb8
                  have hown8 := Rt.own_below hown hb8
                  have hs8 := hb8'.size
                  clear hown hb cr hcut
                  go_wp2_with (at_builtin; refine wpList_append_own _ rfl _ _ 43 rfl w.heap.size 5 i0 (.int .u8 0) 1 1 Tryz.underlying43 hi hz0 hz1 hz2 rfl (by decide) _ _ _ rfl (hown8.alloc _) ⟨_, 0, none⟩ 1 1 [.int .u8 c.toNat] rfl rfl (Rn.one1 _ _) (Rn.one2 _) (by unfold maxLen; omega) (by omega) (by simp; omega) ?_)
                  intro v' w1 hown' hgrow _
                  have R := Rn.one_rel (c := c) hb8' hown8 hown' hgrow
                  clear hown' hgrow hown8 hb8 hb8'
                  go_wp2
                  go_roundw
                  case rel => exact ⟨j + 1, acc ++ [c], by omega, by go_num, R.1, R.2, HN, by simp; omega⟩
                  case measure => simp [intOf]; omega
              · have b59 : ((n : Int) == 59) = false := beq_eq_false_iff_ne.2 (by omega)
                have HN : Hid ((acc ++ [c]) ++ Pl.decL (s.data.toList.drop (j + 1)) = Pl.decL s.data.toList) := by
                  show _ = _
                  rw [← hn.out, Rt.dec_none s j m c HD.out HT.out hm1 (.inr (.inl (by rw [HG.out]; exact Rd.ne59 _ n hmn h59)))]
                  simp
                clear hn HD HT
                go_wp2_with ((at_builtin; refine wpList_append_own _ rfl _ _ 43 rfl w.heap.size 5 i0 (.int .u8 0) 1 1 Tryz.underlying43 hi hz0 hz1 hz2 rfl (by decide) _ _ _ rfl (hown.alloc _) ⟨_, 0, none⟩ 1 1 [.int .u8 c.toNat] rfl rfl (Rn.one1 _ _) (Rn.one2 _) (by unfold maxLen; omega) (by omega) (by simp; omega) ?_))
                intro v' w1 hown' hgrow _
                have R := Rn.one_rel (c := c) hb hown hown' hgrow
                clear hown' hgrow hown hb
                go_wp2
                go_roundw
                case rel => exact ⟨j + 1, acc ++ [c], by omega, by go_num, R.1, R.2, HN, by simp; omega⟩
                case measure => simp [intOf]; omega
            · have b38 : ((c.toNat : Int) == 38) = false := Re.beq_false c 38 38 rfl h38
              have HN : Hid ((acc ++ [c]) ++ Pl.decL (s.data.toList.drop (j + 1)) = Pl.decL s.data.toList) := by
                show _ = _
                rw [← hn.out, Rt.dec_none s j m c HD.out HT.out hm1 (.inl h38)]
                simp
              clear hn HD HT
              go_wp2_with ((at_builtin; refine wpList_append_own _ rfl _ _ 43 rfl w.heap.size 5 i0 (.int .u8 0) 1 1 Tryz.underlying43 hi hz0 hz1 hz2 rfl (by decide) _ _ _ rfl (hown.alloc _) ⟨_, 0, none⟩ 1 1 [.int .u8 c.toNat] rfl rfl (Rn.one1 _ _) (Rn.one2 _) (by unfold maxLen; omega) (by omega) (by simp; omega) ?_))
              intro v' w1 hown' hgrow _
              have R := Rn.one_rel (c := c) hb hown hown' hgrow
              clear hown' hgrow hown hb
              go_wp2
              go_roundw
              case rel => exact ⟨j + 1, acc ++ [c], by omega, by go_num, R.1, R.2, HN, by simp; omega⟩
              case measure => simp [intOf]; omega
        · have HT : Hid (Pl.tokEnd 10 (s.data.toList.drop (j + 1)) 0 = m - (j + 1)) := Rt.tok_fin s j m hm1 HE.out (Rt.tok_end _ s m (by omega))
          by_cases h38 : c = 38
          · have b38 : ((c.toNat : Int) == 38) = true := Re.beq_true c 38 (by rw [h38]; rfl)
            have H38 : Hid (c = 38) := h38
            clear h38
            have HN : Hid ((acc ++ [c]) ++ Pl.decL (s.data.toList.drop (j + 1)) = Pl.decL s.data.toList) := by
              show _ = _
              rw [← hn.out, Rt.dec_none s j m c HD.out HT.out hm1 (.inr (.inl (by rw [Rd.get_end s m (by omega)]; exact fun h => by cases h)))]
              simp
            clear hn HD HT
            go_wp2_with ((at_builtin; refine wpList_append_own _ rfl _ _ 43 rfl w.heap.size 5 i0 (.int .u8 0) 1 1 Tryz.underlying43 hi hz0 hz1 hz2 rfl (by decide) _ _ _ rfl (hown.alloc _) ⟨_, 0, none⟩ 1 1 [.int .u8 c.toNat] rfl rfl (Rn.one1 _ _) (Rn.one2 _) (by unfold maxLen; omega) (by omega) (by simp; omega) ?_))
            intro v' w1 hown' hgrow _
            have R := Rn.one_rel (c := c) hb hown hown' hgrow
            clear hown' hgrow hown hb
            go_wp2
            go_roundw
            case rel => exact ⟨j + 1, acc ++ [c], by omega, by go_num, R.1, R.2, HN, by simp; omega⟩
            case measure => simp [intOf]; omega
          · have b38 : ((c.toNat : Int) == 38) = false := Re.beq_false c 38 38 rfl h38
            have HN : Hid ((acc ++ [c]) ++ Pl.decL (s.data.toList.drop (j + 1)) = Pl.decL s.data.toList) := by
              show _ = _
              rw [← hn.out, Rt.dec_none s j m c HD.out HT.out hm1 (.inl h38)]
              simp
            clear hn HD HT
            go_wp2_with ((at_builtin; refine wpList_append_own _ rfl _ _ 43 rfl w.heap.size 5 i0 (.int .u8 0) 1 1 Tryz.underlying43 hi hz0 hz1 hz2 rfl (by decide) _ _ _ rfl (hown.alloc _) ⟨_, 0, none⟩ 1 1 [.int .u8 c.toNat] rfl rfl (Rn.one1 _ _) (Rn.one2 _) (by unfold maxLen; omega) (by omega) (by simp; omega) ?_))
            intro v' w1 hown' hgrow _
            have R := Rn.one_rel (c := c) hb hown hown' hgrow
            clear hown' hgrow hown hb
            go_wp2
            go_roundw
            case rel => exact ⟨j + 1, acc ++ [c], by omega, by go_num, R.1, R.2, HN, by simp; omega⟩
            case measure => simp [intOf]; omega
    · have hke : j = s.size := by omega
      have hconv := Rn.conv hown
      have HE : Hid (acc = Pl.decL s.data.toList) := by
        have := hn.out
        rw [hke, List.drop_of_length_le (by rw [Wk.len_data]; exact Nat.le_refl _), Pl.decL_nil, List.append_nil] at this
        exact this
      clear hown hn hke
      go_wp2
      go_ret
      exact ⟨Wk.ret_str HE.out, hb⟩
end Go.Proofs.YtjbkgokiikbaeaaGreatDoor
/-
  THE WALKS of the reference's small functions of a state: Blank, Letter, Elem, with, tag, attr, closed.
-/
namespace Go.Proofs.YtjbkgokiikbaeaaGreatDoor
open Go.RowKit
theorem Rs.blank (c : UInt8) (w : World) : Calls Tryz.prog 71 #[.int .u8 c.toNat] w fun e w' => e = .returned (.bool (Ts.blank c)) ∧ w' = w := by
  unfold Ts.blank
  by_cases h0 : c = 9
  · have t0 : ((c.toNat : Int) == 9) = true := Tp.eq_true h0
    go_enter Tryz.func71, Tryz.ntmps71
    go_wp2
    go_ret
    simp [h0]
  have t0 : ((c.toNat : Int) == 9) = false := Tp.eq_false h0
  by_cases h1 : c = 10
  · have t1 : ((c.toNat : Int) == 10) = true := Tp.eq_true h1
    go_enter Tryz.func71, Tryz.ntmps71
    go_wp2
    go_ret
    simp [h1]
  have t1 : ((c.toNat : Int) == 10) = false := Tp.eq_false h1
  by_cases h2 : c = 12
  · have t2 : ((c.toNat : Int) == 12) = true := Tp.eq_true h2
    go_enter Tryz.func71, Tryz.ntmps71
    go_wp2
    go_ret
    simp [h2]
  have t2 : ((c.toNat : Int) == 12) = false := Tp.eq_false h2
  by_cases h3 : c = 13
  · have t3 : ((c.toNat : Int) == 13) = true := Tp.eq_true h3
    go_enter Tryz.func71, Tryz.ntmps71
    go_wp2
    go_ret
    simp [h3]
  have t3 : ((c.toNat : Int) == 13) = false := Tp.eq_false h3
  by_cases h4 : c = 32
  · have t4 : ((c.toNat : Int) == 32) = true := Tp.eq_true h4
    go_enter Tryz.func71, Tryz.ntmps71
    go_wp2
    go_ret
    simp [h4]
  have t4 : ((c.toNat : Int) == 32) = false := Tp.eq_false h4
  go_enter Tryz.func71, Tryz.ntmps71
  go_wp2
  go_ret
  simp [h0, h1, h2, h3, h4]
theorem Rs.elem (n : ByteArray) (w : World) : Calls Tryz.prog 84 #[.string n] w fun e w' => e = .returned (.int .i64 (Ts.kind n)) ∧ w' = w := by
  have hk : ∀ v : Int, Ts.kind n = v → Ending.returned (.int .i64 v) = .returned (.int .i64 (Ts.kind n)) := fun v h => by rw [h]
  have HK := Lib.hid hk
  clear hk
  by_cases h0 : n.toList = [98, 114]
  · have t0 : (n.toList == [98, 114]) = true := by rw [h0]; rfl
    have H := Lib.hid h0
    clear h0
    go_enter Tryz.func84, Tryz.ntmps84
    go_wp2
    go_ret
    exact ⟨HK.out 1 (by unfold Ts.kind; rw [← ByteArray.toList_eq, H.out]; rfl), rfl⟩
  by_cases h1 : n.toList = [105, 109, 103]
  · have t1 : (n.toList == [105, 109, 103]) = true := by rw [h1]; rfl
    have t0 : (n.toList == [98, 114]) = false := beq_eq_false_iff_ne.2 h0
    have H := Lib.hid h1
    clear h0 h1
    go_enter Tryz.func84, Tryz.ntmps84
    go_wp2
    go_ret
    exact ⟨HK.out 1 (by unfold Ts.kind; rw [← ByteArray.toList_eq, H.out]; rfl), rfl⟩
  by_cases h2 : n.toList = [105, 110, 112, 117, 116]
  · have t2 : (n.toList == [105, 110, 112, 117, 116]) = true := by rw [h2]; rfl
    have t0 : (n.toList == [98, 114]) = false := beq_eq_false_iff_ne.2 h0
    have t1 : (n.toList == [105, 109, 103]) = false := beq_eq_false_iff_ne.2 h1
    have H := Lib.hid h2
    clear h0 h1 h2
    go_enter Tryz.func84, Tryz.ntmps84
    go_wp2
    go_ret
    exact ⟨HK.out 1 (by unfold Ts.kind; rw [← ByteArray.toList_eq, H.out]; rfl), rfl⟩
  by_cases h3 : n.toList = [104, 114]
  · have t3 : (n.toList == [104, 114]) = true := by rw [h3]; rfl
    have t0 : (n.toList == [98, 114]) = false := beq_eq_false_iff_ne.2 h0
    have t1 : (n.toList == [105, 109, 103]) = false := beq_eq_false_iff_ne.2 h1
    have t2 : (n.toList == [105, 110, 112, 117, 116]) = false := beq_eq_false_iff_ne.2 h2
    have H := Lib.hid h3
    clear h0 h1 h2 h3
    go_enter Tryz.func84, Tryz.ntmps84
    go_wp2
    go_ret
    exact ⟨HK.out 1 (by unfold Ts.kind; rw [← ByteArray.toList_eq, H.out]; rfl), rfl⟩
  by_cases h4 : n.toList = [109, 101, 116, 97]
  · have t4 : (n.toList == [109, 101, 116, 97]) = true := by rw [h4]; rfl
    have t0 : (n.toList == [98, 114]) = false := beq_eq_false_iff_ne.2 h0
    have t1 : (n.toList == [105, 109, 103]) = false := beq_eq_false_iff_ne.2 h1
    have t2 : (n.toList == [105, 110, 112, 117, 116]) = false := beq_eq_false_iff_ne.2 h2
    have t3 : (n.toList == [104, 114]) = false := beq_eq_false_iff_ne.2 h3
    have H := Lib.hid h4
    clear h0 h1 h2 h3 h4
    go_enter Tryz.func84, Tryz.ntmps84
    go_wp2
    go_ret
    exact ⟨HK.out 1 (by unfold Ts.kind; rw [← ByteArray.toList_eq, H.out]; rfl), rfl⟩
  by_cases h5 : n.toList = [108, 105, 110, 107]
  · have t5 : (n.toList == [108, 105, 110, 107]) = true := by rw [h5]; rfl
    have t0 : (n.toList == [98, 114]) = false := beq_eq_false_iff_ne.2 h0
    have t1 : (n.toList == [105, 109, 103]) = false := beq_eq_false_iff_ne.2 h1
    have t2 : (n.toList == [105, 110, 112, 117, 116]) = false := beq_eq_false_iff_ne.2 h2
    have t3 : (n.toList == [104, 114]) = false := beq_eq_false_iff_ne.2 h3
    have t4 : (n.toList == [109, 101, 116, 97]) = false := beq_eq_false_iff_ne.2 h4
    have H := Lib.hid h5
    clear h0 h1 h2 h3 h4 h5
    go_enter Tryz.func84, Tryz.ntmps84
    go_wp2
    go_ret
    exact ⟨HK.out 1 (by unfold Ts.kind; rw [← ByteArray.toList_eq, H.out]; rfl), rfl⟩
  by_cases h6 : n.toList = [116, 105, 116, 108, 101]
  · have t6 : (n.toList == [116, 105, 116, 108, 101]) = true := by rw [h6]; rfl
    have t0 : (n.toList == [98, 114]) = false := beq_eq_false_iff_ne.2 h0
    have t1 : (n.toList == [105, 109, 103]) = false := beq_eq_false_iff_ne.2 h1
    have t2 : (n.toList == [105, 110, 112, 117, 116]) = false := beq_eq_false_iff_ne.2 h2
    have t3 : (n.toList == [104, 114]) = false := beq_eq_false_iff_ne.2 h3
    have t4 : (n.toList == [109, 101, 116, 97]) = false := beq_eq_false_iff_ne.2 h4
    have t5 : (n.toList == [108, 105, 110, 107]) = false := beq_eq_false_iff_ne.2 h5
    have H := Lib.hid h6
    clear h0 h1 h2 h3 h4 h5 h6
    go_enter Tryz.func84, Tryz.ntmps84
    go_wp2
    go_ret
    exact ⟨HK.out 2 (by unfold Ts.kind; rw [← ByteArray.toList_eq, H.out]; rfl), rfl⟩
  by_cases h7 : n.toList = [116, 101, 120, 116, 97, 114, 101, 97]
  · have t7 : (n.toList == [116, 101, 120, 116, 97, 114, 101, 97]) = true := by rw [h7]; rfl
    have t0 : (n.toList == [98, 114]) = false := beq_eq_false_iff_ne.2 h0
    have t1 : (n.toList == [105, 109, 103]) = false := beq_eq_false_iff_ne.2 h1
    have t2 : (n.toList == [105, 110, 112, 117, 116]) = false := beq_eq_false_iff_ne.2 h2
    have t3 : (n.toList == [104, 114]) = false := beq_eq_false_iff_ne.2 h3
    have t4 : (n.toList == [109, 101, 116, 97]) = false := beq_eq_false_iff_ne.2 h4
    have t5 : (n.toList == [108, 105, 110, 107]) = false := beq_eq_false_iff_ne.2 h5
    have t6 : (n.toList == [116, 105, 116, 108, 101]) = false := beq_eq_false_iff_ne.2 h6
    have H := Lib.hid h7
    clear h0 h1 h2 h3 h4 h5 h6 h7
    go_enter Tryz.func84, Tryz.ntmps84
    go_wp2
    go_ret
    exact ⟨HK.out 2 (by unfold Ts.kind; rw [← ByteArray.toList_eq, H.out]; rfl), rfl⟩
  by_cases h8 : n.toList = [115, 99, 114, 105, 112, 116]
  · have t8 : (n.toList == [115, 99, 114, 105, 112, 116]) = true := by rw [h8]; rfl
    have t0 : (n.toList == [98, 114]) = false := beq_eq_false_iff_ne.2 h0
    have t1 : (n.toList == [105, 109, 103]) = false := beq_eq_false_iff_ne.2 h1
    have t2 : (n.toList == [105, 110, 112, 117, 116]) = false := beq_eq_false_iff_ne.2 h2
    have t3 : (n.toList == [104, 114]) = false := beq_eq_false_iff_ne.2 h3
    have t4 : (n.toList == [109, 101, 116, 97]) = false := beq_eq_false_iff_ne.2 h4
    have t5 : (n.toList == [108, 105, 110, 107]) = false := beq_eq_false_iff_ne.2 h5
    have t6 : (n.toList == [116, 105, 116, 108, 101]) = false := beq_eq_false_iff_ne.2 h6
    have t7 : (n.toList == [116, 101, 120, 116, 97, 114, 101, 97]) = false := beq_eq_false_iff_ne.2 h7
    have H := Lib.hid h8
    clear h0 h1 h2 h3 h4 h5 h6 h7 h8
    go_enter Tryz.func84, Tryz.ntmps84
    go_wp2
    go_ret
    exact ⟨HK.out 3 (by unfold Ts.kind; rw [← ByteArray.toList_eq, H.out]; rfl), rfl⟩
  by_cases h9 : n.toList = [115, 116, 121, 108, 101]
  · have t9 : (n.toList == [115, 116, 121, 108, 101]) = true := by rw [h9]; rfl
    have t0 : (n.toList == [98, 114]) = false := beq_eq_false_iff_ne.2 h0
    have t1 : (n.toList == [105, 109, 103]) = false := beq_eq_false_iff_ne.2 h1
    have t2 : (n.toList == [105, 110, 112, 117, 116]) = false := beq_eq_false_iff_ne.2 h2
    have t3 : (n.toList == [104, 114]) = false := beq_eq_false_iff_ne.2 h3
    have t4 : (n.toList == [109, 101, 116, 97]) = false := beq_eq_false_iff_ne.2 h4
    have t5 : (n.toList == [108, 105, 110, 107]) = false := beq_eq_false_iff_ne.2 h5
    have t6 : (n.toList == [116, 105, 116, 108, 101]) = false := beq_eq_false_iff_ne.2 h6
    have t7 : (n.toList == [116, 101, 120, 116, 97, 114, 101, 97]) = false := beq_eq_false_iff_ne.2 h7
    have t8 : (n.toList == [115, 99, 114, 105, 112, 116]) = false := beq_eq_false_iff_ne.2 h8
    have H := Lib.hid h9
    clear h0 h1 h2 h3 h4 h5 h6 h7 h8 h9
    go_enter Tryz.func84, Tryz.ntmps84
    go_wp2
    go_ret
    exact ⟨HK.out 4 (by unfold Ts.kind; rw [← ByteArray.toList_eq, H.out]; rfl), rfl⟩
  have t0 : (n.toList == [98, 114]) = false := beq_eq_false_iff_ne.2 h0
  have t1 : (n.toList == [105, 109, 103]) = false := beq_eq_false_iff_ne.2 h1
  have t2 : (n.toList == [105, 110, 112, 117, 116]) = false := beq_eq_false_iff_ne.2 h2
  have t3 : (n.toList == [104, 114]) = false := beq_eq_false_iff_ne.2 h3
  have t4 : (n.toList == [109, 101, 116, 97]) = false := beq_eq_false_iff_ne.2 h4
  have t5 : (n.toList == [108, 105, 110, 107]) = false := beq_eq_false_iff_ne.2 h5
  have t6 : (n.toList == [116, 105, 116, 108, 101]) = false := beq_eq_false_iff_ne.2 h6
  have t7 : (n.toList == [116, 101, 120, 116, 97, 114, 101, 97]) = false := beq_eq_false_iff_ne.2 h7
  have t8 : (n.toList == [115, 99, 114, 105, 112, 116]) = false := beq_eq_false_iff_ne.2 h8
  have t9 : (n.toList == [115, 116, 121, 108, 101]) = false := beq_eq_false_iff_ne.2 h9
  have H : Hid (¬ n.toList = [98, 114] ∧ ¬ n.toList = [105, 109, 103] ∧ ¬ n.toList = [105, 110, 112, 117, 116] ∧ ¬ n.toList = [104, 114] ∧ ¬ n.toList = [109, 101, 116, 97] ∧ ¬ n.toList = [108, 105, 110, 107] ∧ ¬ n.toList = [116, 105, 116, 108, 101] ∧ ¬ n.toList = [116, 101, 120, 116, 97, 114, 101, 97] ∧ ¬ n.toList = [115, 99, 114, 105, 112, 116] ∧ ¬ n.toList = [115, 116, 121, 108, 101]) := ⟨h0, h1, h2, h3, h4, h5, h6, h7, h8, h9⟩
  clear h0 h1 h2 h3 h4 h5 h6 h7 h8 h9
  go_enter Tryz.func84, Tryz.ntmps84
  go_wp2
  go_ret
  obtain ⟨k0, k1, k2, k3, k4, k5, k6, k7, k8, k9⟩ := H.out
  exact ⟨HK.out 0 (by unfold Ts.kind; rw [← ByteArray.toList_eq]; simp only [k0, k1, k2, k3, k4, k5, k6, k7, k8, k9, or_self, if_false]), rfl⟩
theorem Rs.letter (c : UInt8) (w : World) : Calls Tryz.prog 68 #[.int .u8 c.toNat] w fun e w' => e = .returned (.bool (Ts.letter c)) ∧ w' = w := by
  have hl := fun u => Sz.low c u
  have hn := Pl.lowB_toNat c
  have HL : Hid (Ts.letter c = (decide (97 ≤ (Pl.lowB c).toNat) && decide ((Pl.lowB c).toNat ≤ 122))) := by
    unfold Hid Ts.letter
    rw [hn]
    have hc := c.toNat_lt
    rw [Bool.eq_iff_iff]
    simp
    split <;> omega
  clear hn
  generalize (Pl.lowB c).toNat = m at *
  by_cases h1 : 97 ≤ m
  · have t1 : decide ((97 : Int) ≤ (m : Int)) = true := decide_eq_true (by omega)
    by_cases h2 : m ≤ 122
    · have t2 : decide ((m : Int) ≤ 122) = true := decide_eq_true (by omega)
      go_enter Tryz.func68, Tryz.ntmps68
      go_wp2_with (go_at_call 72; refine (hl _).mono ?_; rintro e w' ⟨rfl, rfl⟩)
      go_ret
      exact ⟨Wk.ret_bool (by rw [HL.out]; simp [h1, h2]), rfl⟩
    · have t2 : decide ((m : Int) ≤ 122) = false := decide_eq_false (by omega)
      go_enter Tryz.func68, Tryz.ntmps68
      go_wp2_with (go_at_call 72; refine (hl _).mono ?_; rintro e w' ⟨rfl, rfl⟩)
      go_ret
      exact ⟨Wk.ret_bool (by rw [HL.out]; simp [h2]), rfl⟩
  · have t1 : decide ((97 : Int) ≤ (m : Int)) = false := decide_eq_false (by omega)
    go_enter Tryz.func68, Tryz.ntmps68
    go_wp2_with (go_at_call 72; refine (hl _).mono ?_; rintro e w' ⟨rfl, rfl⟩)
    go_ret
    exact ⟨Wk.ret_bool (by rw [HL.out]; simp [h1]), rfl⟩
theorem Rs.withL (n : ByteArray) (c : UInt8) (w : World) (hn : n.size = 32) : Calls Tryz.prog 69 #[.string n, .int .u8 c.toNat] w fun e w' => e = .returned (.string n) ∧ w' = w := by
  have t : decide ((32 : Int) ≤ (n.size : Int)) = true := decide_eq_true (by omega)
  go_enter Tryz.func69, Tryz.ntmps69
  go_wp2
  go_ret
  exact ⟨rfl, rfl⟩
theorem Rs.withS (n : ByteArray) (c : UInt8) (w : World) (hn : n.size < 32) : Calls Tryz.prog 69 #[.string n, .int .u8 c.toNat] w fun e w' => e = .returned (.string (n ++ Ts.low c)) ∧ w' = w.alloc (.cells #[.int .u8 (Pl.lowB c).toNat] 5) := by
  have t : decide ((32 : Int) ≤ (n.size : Int)) = false := decide_eq_false (by omega)
  have hl := fun u => Sz.low c u
  have hv := Tp.conv1 w (Pl.lowB c)
  have e1 : (⟨#[Pl.lowB c]⟩ : ByteArray) = Ts.low c := rfl
  rw [e1] at hv
  have hs := Tp.low_size c
  generalize Ts.low c = L at *
  generalize (Pl.lowB c).toNat = m at *
  clear e1
  go_enter Tryz.func69, Tryz.ntmps69
  go_wp2_with (go_at_call 72; refine (hl _).mono ?_; rintro e w' ⟨rfl, rfl⟩)
  go_ret
  exact ⟨rfl, rfl⟩
theorem Rs.tag (a : Int) (s : Ts) (w : World) : Calls Tryz.prog 21 #[.int .i64 a, .agg #[.int .i64 s.pl, .string s.name, .bool s.fin, .string s.attr, .string s.held, .int .i64 s.read]] w fun e w' => e = .returned (.agg #[.int .i64 a, .string s.name, .bool s.fin, .string ⟨#[]⟩, .string ⟨#[]⟩, .int .i64 0]) ∧ w' = (w.alloc (.cells #[.int .i64 s.pl, .string s.name, .bool s.fin, .string s.attr, .string s.held, .int .i64 s.read] 23)).alloc (.cells #[.int .i64 a, .string s.name, .bool s.fin, .string ⟨#[]⟩, .string ⟨#[]⟩, .int .i64 0] 23) := by
  go_enter Tryz.func21, Tryz.ntmps21
  go_wp2
  refine bodyPost_ret (v := .agg #[.int .i64 a, .string s.name, .bool s.fin, .string ⟨#[]⟩, .string ⟨#[]⟩, .int .i64 0]) (by simp [results, Tryz.results21, go_sem]) rfl ⟨rfl, ?_⟩
  simp
theorem Rs.attr (a : Int) (s : Ts) (n : ByteArray) (w : World) : Calls Tryz.prog 19 #[.int .i64 a, .agg #[.int .i64 s.pl, .string s.name, .bool s.fin, .string s.attr, .string s.held, .int .i64 s.read], .string n] w fun e w' => e = .returned (.agg #[.int .i64 a, .string s.name, .bool s.fin, .string n, .string ⟨#[]⟩, .int .i64 0]) ∧ w' = (w.alloc (.cells #[.int .i64 s.pl, .string s.name, .bool s.fin, .string s.attr, .string s.held, .int .i64 s.read] 23)).alloc (.cells #[.int .i64 a, .string s.name, .bool s.fin, .string n, .string ⟨#[]⟩, .int .i64 0] 23) := by
  go_enter Tryz.func19, Tryz.ntmps19
  go_wp2
  refine bodyPost_ret (v := .agg #[.int .i64 a, .string s.name, .bool s.fin, .string n, .string ⟨#[]⟩, .int .i64 0]) (by simp [results, Tryz.results19, go_sem]) rfl ⟨rfl, ?_⟩
  simp
end Go.Proofs.YtjbkgokiikbaeaaGreatDoor

/-
  THE WALK of stoleref1.Decode: what the document's own answer gives is 'Pl.decL' too (texts of up to 2^45 bytes).
-/
import Derived.Test.YtblpkjlodncpeaaGreatDoorBRReftoRefRef
import Derived.Test.YtblpkjlodncpeaaGreatDoorBTInvtoTSc1
import Derived.Test.YtblpkjlodncpeaaGreatDoorBTFittoRefTok
import Derived.Lib.AppendStr
namespace Go.Proofs.YtblpkjlodncpeaaGreatDoor
open Go.RowKit
theorem Pl.tokEnd_add : ∀ (m : Nat) (d : List UInt8) (k a : Nat), Pl.tokEnd m d (k + a) = Pl.tokEnd m d k + a := by
 intro m
 induction m with
 | zero => intro d k a; cases d <;> rfl
 | succ m ih =>
  intro d k a
  cases d with
  | nil => rfl
  | cons c r =>
   rw [Pl.tokEnd, Pl.tokEnd]
   split
   ·
    rw [show k + a + 1 = (k + 1) + a by omega, ih]
   ·
    rfl
theorem Rt.tok_end (m : Nat) (s : ByteArray) (k : Nat) (h : s.size ≤ k) : Pl.tokEnd m (s.data.toList.drop k) k = k := by
 rw [List.drop_of_length_le (by rw [Array.length_toList]; exact h)]
 cases m <;> rfl
theorem Rt.tok_zero (m : Nat) (l : List UInt8) (k : Nat) (h : m = 0) : Pl.tokEnd m l k = k := by subst h; cases l <;> rfl
theorem Rt.tok_stop (m : Nat) (s : ByteArray) (k : Nat) (h : k < s.size) (hc : Pl.tokc s[k] = false) : Pl.tokEnd m (s.data.toList.drop k) k = k := by
 rw [Rd.drop_cons s k h]
 cases m with
 | zero => rfl
 | succ m => rw [Pl.tokEnd, if_neg (by rw [hc]; decide)]
theorem Rt.tok_go (m m' : Nat) (s : ByteArray) (k : Nat) (h : k < s.size) (hc : Pl.tokc s[k] = true) (hm : m = m' + 1) : Pl.tokEnd m (s.data.toList.drop k) k = Pl.tokEnd m' (s.data.toList.drop (k + 1)) (k + 1) := by
 subst hm
 rw [Rd.drop_cons s k h, Pl.tokEnd, if_pos hc]
theorem Rt.tok_fin (s : ByteArray) (j m : Nat) (h : j + 1 ≤ m) (HE : Pl.tokEnd (j + 11 - m) (s.data.toList.drop m) m = Pl.tokEnd 10 (s.data.toList.drop (j + 1)) (j + 1)) (HS : Pl.tokEnd (j + 11 - m) (s.data.toList.drop m) m = m) : Pl.tokEnd 10 (s.data.toList.drop (j + 1)) 0 = m - (j + 1) := by
 have h1 := Pl.tokEnd_add 10 (s.data.toList.drop (j + 1)) 0 (j + 1)
 rw [Nat.zero_add] at h1
 have h2 := HE.symm.trans HS
 omega
theorem Rt.dec_none (s : ByteArray) (j m : Nat) (c : UInt8) (hd : s.data.toList.drop j = c :: s.data.toList.drop (j + 1)) (ht : Pl.tokEnd 10 (s.data.toList.drop (j + 1)) 0 = m - (j + 1)) (hm : j + 1 ≤ m)
  (h : c ≠ 38 ∨ s.data.toList[m]? ≠ some 59 ∨ (Pl.refP ((s.data.toList.drop (j + 1)).take (m - (j + 1)))).2 = false) : Pl.decL (s.data.toList.drop j) = c :: Pl.decL (s.data.toList.drop (j + 1)) := by
 rw [hd]
 refine Pl.decL_step c _ ?_
 rintro ⟨hc, h2⟩
 rcases h with h | h | h
 ·
  exact h hc
 ·
  apply h2
  rw [← Pl.refT_eq, Pl.refT, ht, List.getElem?_drop, show j + 1 + (m - (j + 1)) = m by omega, if_neg h]
 ·
  apply h2
  rw [← Pl.refT_eq, Pl.refT, ht]
  split
  ·
   rw [Pl.refP] at h
   cases hr : Pl.refR ((s.data.toList.drop (j + 1)).take (m - (j + 1))) with
   | none => rfl
   | some t => rw [hr] at h; cases h
  ·
   rfl
theorem Rt.dec_some (s : ByteArray) (j m : Nat) (c : UInt8) (g : List UInt8) (hd : s.data.toList.drop j = c :: s.data.toList.drop (j + 1)) (ht : Pl.tokEnd 10 (s.data.toList.drop (j + 1)) 0 = m - (j + 1)) (hm : j + 1 ≤ m)
  (hc : c = 38) (h59 : s.data.toList[m]? = some 59) (h : Pl.refP ((s.data.toList.drop (j + 1)).take (m - (j + 1))) = (g, true)) : Pl.decL (s.data.toList.drop j) = g ++ Pl.decL (s.data.toList.drop (m + 1)) ∧ g.length ≤ 4 := by
 have hr : Pl.refR ((s.data.toList.drop (j + 1)).take (m - (j + 1))) = some g := by
  rw [Pl.refP] at h
  cases hr : Pl.refR ((s.data.toList.drop (j + 1)).take (m - (j + 1))) with
  | none => rw [hr] at h; cases h
  | some t => rw [hr] at h; simp at h; rw [h]
 have hL : Pl.refL (s.data.toList.drop (j + 1)) = (g, m - (j + 1) + 1) := by
  rw [← Pl.refT_eq, Pl.refT, ht, List.getElem?_drop, show j + 1 + (m - (j + 1)) = m by omega, if_pos h59, hr]
 refine ⟨?_, by have := Pl.refL_sign (s.data.toList.drop (j + 1)); rwa [hL] at this⟩
 rw [hd, Pl.decL_ref c _ hc (by rw [hL]; simp), hL, List.drop_drop, show j + 1 + (m - (j + 1) + 1) = m + 1 by omega]
theorem Rt.ref_at (s p : ByteArray) (j m : Nat) (hp : p.data.toList = (s.data.toList.drop (j + 1)).take (m - (j + 1))) (g : List UInt8) (b : Bool) (h : Pl.refP ((s.data.toList.drop (j + 1)).take (m - (j + 1))) = (g, b)) (w : World) :
  Calls Tryz.prog 128 #[.string p] w fun e w' => e = .returned (.tuple #[.string ⟨g.toArray⟩, .bool b]) ∧ Below w.heap.size w w' := by
 have c := Rt.reference p w
 rw [hp, h] at c
 exact c
theorem Rt.own_below {wr w1 : World} {B : Nat} {o : Value} {acc : List UInt8} (hown : wr.ownsRow B 5 1 o acc.length (Lib.byteCells acc)) (hb : Below wr.heap.size wr w1) : w1.ownsRow B 5 1 o acc.length (Lib.byteCells acc) :=
 hown.kept (row := none) ⟨hb.os, hb.tape, hb.output, hb.size, fun k hk _ => hb.block k hk⟩ (Classical.em _)
set_option maxRecDepth 100000 in
set_option maxHeartbeats 8000000 in
theorem Rt.decode (s : ByteArray) (w : World) (hs : s.size ≤ 35184372088832) :
  Calls Tryz.prog 92 #[.string s] w fun e w' => e = .returned (.string ⟨(Pl.decL s.data.toList).toArray⟩) ∧ Below w.heap.size w w' := by
 obtain ⟨i0, hi, hz0, hz1, hz2⟩ := info_parts Wk.info5
 go_enter Tryz.func92, Tryz.ntmps92
 go_wp2_with fail
 go_loopw [3, 4] (fun o i wr => ∃ (j : Nat) (acc : List UInt8), j ≤ s.size ∧ i = .int .i64 j ∧ wr.ownsRow w.heap.size 5 1 o acc.length (Lib.byteCells acc) ∧ Below w.heap.size w wr ∧ Hid (acc ++ Pl.decL (s.data.toList.drop j) = Pl.decL s.data.toList) ∧ acc.length ≤ 4 * j) (fun _ i _ => s.size - (intOf i).toNat)
 case atStart => exact ⟨0, [], Nat.zero_le _, rfl, World.ownsRow_nil _ _ _ _, Below.refl _ _, rfl, Nat.le_refl _⟩
 case round =>
  obtain ⟨j, acc, hj, rfl, hown, hb, hn, hal⟩ := hrel
  have hsr := hb.size
  by_cases hlt : j < s.size
  ·
   obtain ⟨c, hc⟩ : ∃ c, s[j] = c := ⟨_, rfl⟩
   have HD : Hid (s.data.toList.drop j = c :: s.data.toList.drop (j + 1)) := by rw [← hc]; exact Rd.drop_cons s j hlt
   have hcn : s[j].toNat = c.toNat := by rw [hc]
   clear hc
   go_wp2_with fail
   go_loop [5] (fun i => ∃ m : Nat, j + 1 ≤ m ∧ m ≤ s.size ∧ m ≤ j + 11 ∧ i = .int .i64 m ∧ Hid (Pl.tokEnd (j + 11 - m) (s.data.toList.drop m) m = Pl.tokEnd 10 (s.data.toList.drop (j + 1)) (j + 1))) (fun i => j + 11 - (intOf i).toNat)
   case atStart => exact ⟨j + 1, Nat.le_refl _, by omega, by omega, by go_num, by show _ = _; rw [show j + 11 - (j + 1) = 10 by omega]⟩
   case round =>
    obtain ⟨m, hm1, hm2, hm3, rfl, HE⟩ := hrel
    by_cases hmt : m < s.size
    ·
     obtain ⟨n, hmn⟩ : ∃ n, s[m].toNat = n := ⟨_, rfl⟩
     by_cases h11 : m < j + 11
     ·
      have HQ : Hid (Pl.tokc s[m] = (Pl.letter s[m] || Pl.digit s[m] || decide (s[m] = 35))) := Pl.tokc_eq _
      have cl := Rt.letter s[m] wr
      have cg := Rt.digit s[m] wr
      rw [hmn] at cl cg
      generalize Pl.letter s[m] = bl at *
      generalize Pl.digit s[m] = bg at *
      cases bl with
      | true =>
       have HK : Hid (Pl.tokc s[m] = true) := by show _ = _; rw [HQ.out]; simp
       clear HQ
       have HN : Hid (Pl.tokEnd (j + 11 - (m + 1)) (s.data.toList.drop (m + 1)) (m + 1) = Pl.tokEnd 10 (s.data.toList.drop (j + 1)) (j + 1)) := by
        have h := Rt.tok_go (j + 11 - m) (j + 11 - (m + 1)) s m hmt HK.out (by omega)
        show _ = _
        rw [← h]; exact HE.out
       clear HE HK hown hn HD
       go_wp2_with (first | (go_at_call 126; refine cl.mono ?_; rintro e w9 ⟨rfl, hw9⟩; subst hw9) | (go_at_call 127; refine cg.mono ?_; rintro e w9 ⟨rfl, hw9⟩; subst hw9))
       go_round
       case rel => exact ⟨m + 1, by omega, by omega, by omega, by go_num, HN⟩
       case measure => simp [intOf]; omega
      | false =>
       cases bg with
       | true =>
        have HK : Hid (Pl.tokc s[m] = true) := by show _ = _; rw [HQ.out]; simp
        clear HQ
        have HN : Hid (Pl.tokEnd (j + 11 - (m + 1)) (s.data.toList.drop (m + 1)) (m + 1) = Pl.tokEnd 10 (s.data.toList.drop (j + 1)) (j + 1)) := by
         have h := Rt.tok_go (j + 11 - m) (j + 11 - (m + 1)) s m hmt HK.out (by omega)
         show _ = _
         rw [← h]; exact HE.out
        clear HE HK hown hn HD
        go_wp2_with (first | (go_at_call 126; refine cl.mono ?_; rintro e w9 ⟨rfl, hw9⟩; subst hw9) | (go_at_call 127; refine cg.mono ?_; rintro e w9 ⟨rfl, hw9⟩; subst hw9))
        go_round
        case rel => exact ⟨m + 1, by omega, by omega, by omega, by go_num, HN⟩
        case measure => simp [intOf]; omega
       | false =>
        by_cases h35 : s[m] = 35
        ·
         have HK : Hid (Pl.tokc s[m] = true) := by show _ = _; rw [HQ.out]; simp [h35]
         have b35 : ((n : Int) == 35) = true := by rw [← hmn, h35]; rfl
         clear HQ h35
         have HN : Hid (Pl.tokEnd (j + 11 - (m + 1)) (s.data.toList.drop (m + 1)) (m + 1) = Pl.tokEnd 10 (s.data.toList.drop (j + 1)) (j + 1)) := by
          have h := Rt.tok_go (j + 11 - m) (j + 11 - (m + 1)) s m hmt HK.out (by omega)
          show _ = _
          rw [← h]; exact HE.out
         clear HE HK hown hn HD
         go_wp2_with (first | (go_at_call 126; refine cl.mono ?_; rintro e w9 ⟨rfl, hw9⟩; subst hw9) | (go_at_call 127; refine cg.mono ?_; rintro e w9 ⟨rfl, hw9⟩; subst hw9))
         go_round
         case rel => exact ⟨m + 1, by omega, by omega, by omega, by go_num, HN⟩
         case measure => simp [intOf]; omega
        ·
         have HK : Pl.tokc s[m] = false := by rw [HQ.out]; simp [h35]
         have b35 : ((n : Int) == 35) = false := by rw [← hmn]; exact Re.beq_false s[m] 35 35 rfl h35
         have HT : Hid (Pl.tokEnd 10 (s.data.toList.drop (j + 1)) 0 = m - (j + 1)) := Rt.tok_fin s j m hm1 HE.out (Rt.tok_stop _ s m hmt HK)
         clear HQ h35 HK
         by_cases h38 : c = 38
         ·
          have b38 : ((c.toNat : Int) == 38) = true := Re.beq_true c 38 (by rw [h38]; rfl)
          have H38 : Hid (c = 38) := h38
          clear h38
          have HG : Hid (s.data.toList[m]? = some s[m]) := Rd.get_at s m hmt
          by_cases h59 : n = 59
          ·
           have b59 : ((n : Int) == 59) = true := beq_iff_eq.2 (by omega)
           have H59 : Hid (s.data.toList[m]? = some 59) := by show _ = _; rw [HG.out]; exact Rd.is59 _ n hmn h59
           clear h59 HG
           obtain ⟨p, hp⟩ : ∃ p, s.extract (j + 1) m = p := ⟨_, rfl⟩
           have HP : Hid (p.data.toList = (s.data.toList.drop (j + 1)).take (m - (j + 1))) := by
            show _ = _
            rw [← hp, Lib.extract_data]
           have hcut : ∀ u : World, (Instr.slice 9 (.string s) (some (.int .i64 ((j : Int) + 1))) (some (.int .i64 (m : Int))) none).run Tryz.prog u = .ok (.string p) u := fun u => by
            have h := Wk.run_cut u s ((j : Int) + 1) (m : Int) (by omega) (by omega) (by omega)
            rw [← hp]
            rwa [show ((j : Int) + 1).toNat = j + 1 by omega, Int.toNat_natCast] at h
           obtain ⟨g, b, hr⟩ : ∃ g b, Pl.refP ((s.data.toList.drop (j + 1)).take (m - (j + 1))) = (g, b) := ⟨_, _, rfl⟩
           have cr := Rt.ref_at s p j m HP.out g b hr wr
           have HR : Hid (Pl.refP ((s.data.toList.drop (j + 1)).take (m - (j + 1))) = (g, b)) := hr
           clear hp HP hr
           cases b with
           | true =>
            have HS := Rt.dec_some s j m c g HD.out HT.out hm1 H38.out H59.out HR.out
            have hg4 := HS.2
            have HN : Hid ((acc ++ g) ++ Pl.decL (s.data.toList.drop (m + 1)) = Pl.decL s.data.toList) := by
             show _ = _
             rw [← hn.out, HS.1, List.append_assoc]
            have hps : (⟨g.toArray⟩ : ByteArray).size = g.length := by rw [← Wk.len_data]
            clear HS HR hn HD HT H38 H59 HE
            go_wp2_with (first | (go_at_call 126; refine cl.mono ?_; rintro e w9 ⟨rfl, hw9⟩; subst hw9) | (go_at_call 127; refine cg.mono ?_; rintro e w9 ⟨rfl, hw9⟩; subst hw9))
            refine cr.mono ?_
            rintro e w8 ⟨rfl, hb8⟩
            have hb8' := Wk.below_step hb hb8
            have hown8 := Rt.own_below hown hb8
            have hs8 := hb8'.size
            clear hown hb cr hcut
            go_wp2_with (at_builtin; refine Lib.wpList_append_own_string _ rfl _ _ 43 9 rfl w.heap.size 5 i0 Tryz.underlying43 Tryz.underlying9 hi hz0 hz1 hz2 _ _ _ rfl hown8 ⟨g.toArray⟩ rfl (by rw [hps]; unfold maxLen; omega) (by rw [hps]; omega) (by omega) ?_)
            intro v' w1 hown' hgrow _
            have R := Rn.good_rel (part := ⟨g.toArray⟩) (l := g) hps hb8' hown8 rfl hown' hgrow
            clear hown' hgrow hown8 hb8 hb8'
            go_wp2
            go_roundw
            case rel => exact ⟨m + 1, acc ++ g, by omega, by go_num, R.1, R.2, HN, by simp; omega⟩
            case measure => simp [intOf]; omega
           | false =>
            have HN : Hid ((acc ++ [c]) ++ Pl.decL (s.data.toList.drop (j + 1)) = Pl.decL s.data.toList) := by
             show _ = _
             rw [← hn.out, Rt.dec_none s j m c HD.out HT.out hm1 (.inr (.inr (by rw [HR.out])))]
             simp
            clear HR hn HD HT H38 H59 HE
            go_wp2_with (first | (go_at_call 126; refine cl.mono ?_; rintro e w9 ⟨rfl, hw9⟩; subst hw9) | (go_at_call 127; refine cg.mono ?_; rintro e w9 ⟨rfl, hw9⟩; subst hw9))
            refine cr.mono ?_
            rintro e w8 ⟨rfl, hb8⟩
            have hb8' := Wk.below_step hb hb8
            have hown8 := Rt.own_below hown hb8
            have hs8 := hb8'.size
            clear hown hb cr hcut
            go_wp2_with (at_builtin; refine wpList_append_own _ rfl _ _ 43 rfl w.heap.size 5 i0 (.int .u8 0) 1 1 Tryz.underlying43 hi hz0 hz1 hz2 rfl (by decide) _ _ _ rfl (hown8.alloc _) ⟨_, 0, none⟩ 1 1 [.int .u8 c.toNat] rfl rfl (Rn.one1 _ _) (Rn.one2 _) (by unfold maxLen; omega) (by omega) (by simp; omega) ?_)
            intro v' w1 hown' hgrow _
            have R := Rn.one_rel (c := c) hb8' hown8 hown' hgrow
            clear hown' hgrow hown8 hb8 hb8'
            go_wp2
            go_roundw
            case rel => exact ⟨j + 1, acc ++ [c], by omega, by go_num, R.1, R.2, HN, by simp; omega⟩
            case measure => simp [intOf]; omega
          ·
           have b59 : ((n : Int) == 59) = false := beq_eq_false_iff_ne.2 (by omega)
           have HN : Hid ((acc ++ [c]) ++ Pl.decL (s.data.toList.drop (j + 1)) = Pl.decL s.data.toList) := by
            show _ = _
            rw [← hn.out, Rt.dec_none s j m c HD.out HT.out hm1 (.inr (.inl (by rw [HG.out]; exact Rd.ne59 _ n hmn h59)))]
            simp
           clear hn HD HT
           go_wp2_with (first | (go_at_call 126; refine cl.mono ?_; rintro e w9 ⟨rfl, hw9⟩; subst hw9) | (go_at_call 127; refine cg.mono ?_; rintro e w9 ⟨rfl, hw9⟩; subst hw9) | (at_builtin; refine wpList_append_own _ rfl _ _ 43 rfl w.heap.size 5 i0 (.int .u8 0) 1 1 Tryz.underlying43 hi hz0 hz1 hz2 rfl (by decide) _ _ _ rfl (hown.alloc _) ⟨_, 0, none⟩ 1 1 [.int .u8 c.toNat] rfl rfl (Rn.one1 _ _) (Rn.one2 _) (by unfold maxLen; omega) (by omega) (by simp; omega) ?_))
           intro v' w1 hown' hgrow _
           have R := Rn.one_rel (c := c) hb hown hown' hgrow
           clear hown' hgrow hown hb
           go_wp2
           go_roundw
           case rel => exact ⟨j + 1, acc ++ [c], by omega, by go_num, R.1, R.2, HN, by simp; omega⟩
           case measure => simp [intOf]; omega
         ·
          have b38 : ((c.toNat : Int) == 38) = false := Re.beq_false c 38 38 rfl h38
          have HN : Hid ((acc ++ [c]) ++ Pl.decL (s.data.toList.drop (j + 1)) = Pl.decL s.data.toList) := by
           show _ = _
           rw [← hn.out, Rt.dec_none s j m c HD.out HT.out hm1 (.inl h38)]
           simp
          clear hn HD HT
          go_wp2_with (first | (go_at_call 126; refine cl.mono ?_; rintro e w9 ⟨rfl, hw9⟩; subst hw9) | (go_at_call 127; refine cg.mono ?_; rintro e w9 ⟨rfl, hw9⟩; subst hw9) | (at_builtin; refine wpList_append_own _ rfl _ _ 43 rfl w.heap.size 5 i0 (.int .u8 0) 1 1 Tryz.underlying43 hi hz0 hz1 hz2 rfl (by decide) _ _ _ rfl (hown.alloc _) ⟨_, 0, none⟩ 1 1 [.int .u8 c.toNat] rfl rfl (Rn.one1 _ _) (Rn.one2 _) (by unfold maxLen; omega) (by omega) (by simp; omega) ?_))
          intro v' w1 hown' hgrow _
          have R := Rn.one_rel (c := c) hb hown hown' hgrow
          clear hown' hgrow hown hb
          go_wp2
          go_roundw
          case rel => exact ⟨j + 1, acc ++ [c], by omega, by go_num, R.1, R.2, HN, by simp; omega⟩
          case measure => simp [intOf]; omega
     ·
      have HT : Hid (Pl.tokEnd 10 (s.data.toList.drop (j + 1)) 0 = m - (j + 1)) := Rt.tok_fin s j m hm1 HE.out (Rt.tok_zero _ _ m (by omega))
      by_cases h38 : c = 38
      ·
       have b38 : ((c.toNat : Int) == 38) = true := Re.beq_true c 38 (by rw [h38]; rfl)
       have H38 : Hid (c = 38) := h38
       clear h38
       have HG : Hid (s.data.toList[m]? = some s[m]) := Rd.get_at s m hmt
       by_cases h59 : n = 59
       ·
        have b59 : ((n : Int) == 59) = true := beq_iff_eq.2 (by omega)
        have H59 : Hid (s.data.toList[m]? = some 59) := by show _ = _; rw [HG.out]; exact Rd.is59 _ n hmn h59
        clear h59 HG
        obtain ⟨p, hp⟩ : ∃ p, s.extract (j + 1) m = p := ⟨_, rfl⟩
        have HP : Hid (p.data.toList = (s.data.toList.drop (j + 1)).take (m - (j + 1))) := by
         show _ = _
         rw [← hp, Lib.extract_data]
        have hcut : ∀ u : World, (Instr.slice 9 (.string s) (some (.int .i64 ((j : Int) + 1))) (some (.int .i64 (m : Int))) none).run Tryz.prog u = .ok (.string p) u := fun u => by
         have h := Wk.run_cut u s ((j : Int) + 1) (m : Int) (by omega) (by omega) (by omega)
         rw [← hp]
         rwa [show ((j : Int) + 1).toNat = j + 1 by omega, Int.toNat_natCast] at h
        obtain ⟨g, b, hr⟩ : ∃ g b, Pl.refP ((s.data.toList.drop (j + 1)).take (m - (j + 1))) = (g, b) := ⟨_, _, rfl⟩
        have cr := Rt.ref_at s p j m HP.out g b hr wr
        have HR : Hid (Pl.refP ((s.data.toList.drop (j + 1)).take (m - (j + 1))) = (g, b)) := hr
        clear hp HP hr
        cases b with
        | true =>
         have HS := Rt.dec_some s j m c g HD.out HT.out hm1 H38.out H59.out HR.out
         have hg4 := HS.2
         have HN : Hid ((acc ++ g) ++ Pl.decL (s.data.toList.drop (m + 1)) = Pl.decL s.data.toList) := by
          show _ = _
          rw [← hn.out, HS.1, List.append_assoc]
         have hps : (⟨g.toArray⟩ : ByteArray).size = g.length := by rw [← Wk.len_data]
         clear HS HR hn HD HT H38 H59 HE
         go_wp2_with fail
         refine cr.mono ?_
         rintro e w8 ⟨rfl, hb8⟩
         have hb8' := Wk.below_step hb hb8
         have hown8 := Rt.own_below hown hb8
         have hs8 := hb8'.size
         clear hown hb cr hcut
         go_wp2_with (at_builtin; refine Lib.wpList_append_own_string _ rfl _ _ 43 9 rfl w.heap.size 5 i0 Tryz.underlying43 Tryz.underlying9 hi hz0 hz1 hz2 _ _ _ rfl hown8 ⟨g.toArray⟩ rfl (by rw [hps]; unfold maxLen; omega) (by rw [hps]; omega) (by omega) ?_)
         intro v' w1 hown' hgrow _
         have R := Rn.good_rel (part := ⟨g.toArray⟩) (l := g) hps hb8' hown8 rfl hown' hgrow
         clear hown' hgrow hown8 hb8 hb8'
         go_wp2
         go_roundw
         case rel => exact ⟨m + 1, acc ++ g, by omega, by go_num, R.1, R.2, HN, by simp; omega⟩
         case measure => simp [intOf]; omega
        | false =>
         have HN : Hid ((acc ++ [c]) ++ Pl.decL (s.data.toList.drop (j + 1)) = Pl.decL s.data.toList) := by
          show _ = _
          rw [← hn.out, Rt.dec_none s j m c HD.out HT.out hm1 (.inr (.inr (by rw [HR.out])))]
          simp
         clear HR hn HD HT H38 H59 HE
         go_wp2_with fail
         refine cr.mono ?_
         rintro e w8 ⟨rfl, hb8⟩
         have hb8' := Wk.below_step hb hb8
         have hown8 := Rt.own_below hown hb8
         have hs8 := hb8'.size
         clear hown hb cr hcut
         go_wp2_with (at_builtin; refine wpList_append_own _ rfl _ _ 43 rfl w.heap.size 5 i0 (.int .u8 0) 1 1 Tryz.underlying43 hi hz0 hz1 hz2 rfl (by decide) _ _ _ rfl (hown8.alloc _) ⟨_, 0, none⟩ 1 1 [.int .u8 c.toNat] rfl rfl (Rn.one1 _ _) (Rn.one2 _) (by unfold maxLen; omega) (by omega) (by simp; omega) ?_)
         intro v' w1 hown' hgrow _
         have R := Rn.one_rel (c := c) hb8' hown8 hown' hgrow
         clear hown' hgrow hown8 hb8 hb8'
         go_wp2
         go_roundw
         case rel => exact ⟨j + 1, acc ++ [c], by omega, by go_num, R.1, R.2, HN, by simp; omega⟩
         case measure => simp [intOf]; omega
       ·
        have b59 : ((n : Int) == 59) = false := beq_eq_false_iff_ne.2 (by omega)
        have HN : Hid ((acc ++ [c]) ++ Pl.decL (s.data.toList.drop (j + 1)) = Pl.decL s.data.toList) := by
         show _ = _
         rw [← hn.out, Rt.dec_none s j m c HD.out HT.out hm1 (.inr (.inl (by rw [HG.out]; exact Rd.ne59 _ n hmn h59)))]
         simp
        clear hn HD HT
        go_wp2_with ((at_builtin; refine wpList_append_own _ rfl _ _ 43 rfl w.heap.size 5 i0 (.int .u8 0) 1 1 Tryz.underlying43 hi hz0 hz1 hz2 rfl (by decide) _ _ _ rfl (hown.alloc _) ⟨_, 0, none⟩ 1 1 [.int .u8 c.toNat] rfl rfl (Rn.one1 _ _) (Rn.one2 _) (by unfold maxLen; omega) (by omega) (by simp; omega) ?_))
        intro v' w1 hown' hgrow _
        have R := Rn.one_rel (c := c) hb hown hown' hgrow
        clear hown' hgrow hown hb
        go_wp2
        go_roundw
        case rel => exact ⟨j + 1, acc ++ [c], by omega, by go_num, R.1, R.2, HN, by simp; omega⟩
        case measure => simp [intOf]; omega
      ·
       have b38 : ((c.toNat : Int) == 38) = false := Re.beq_false c 38 38 rfl h38
       have HN : Hid ((acc ++ [c]) ++ Pl.decL (s.data.toList.drop (j + 1)) = Pl.decL s.data.toList) := by
        show _ = _
        rw [← hn.out, Rt.dec_none s j m c HD.out HT.out hm1 (.inl h38)]
        simp
       clear hn HD HT
       go_wp2_with ((at_builtin; refine wpList_append_own _ rfl _ _ 43 rfl w.heap.size 5 i0 (.int .u8 0) 1 1 Tryz.underlying43 hi hz0 hz1 hz2 rfl (by decide) _ _ _ rfl (hown.alloc _) ⟨_, 0, none⟩ 1 1 [.int .u8 c.toNat] rfl rfl (Rn.one1 _ _) (Rn.one2 _) (by unfold maxLen; omega) (by omega) (by simp; omega) ?_))
       intro v' w1 hown' hgrow _
       have R := Rn.one_rel (c := c) hb hown hown' hgrow
       clear hown' hgrow hown hb
       go_wp2
       go_roundw
       case rel => exact ⟨j + 1, acc ++ [c], by omega, by go_num, R.1, R.2, HN, by simp; omega⟩
       case measure => simp [intOf]; omega
    ·
     have HT : Hid (Pl.tokEnd 10 (s.data.toList.drop (j + 1)) 0 = m - (j + 1)) := Rt.tok_fin s j m hm1 HE.out (Rt.tok_end _ s m (by omega))
     by_cases h38 : c = 38
     ·
      have b38 : ((c.toNat : Int) == 38) = true := Re.beq_true c 38 (by rw [h38]; rfl)
      have H38 : Hid (c = 38) := h38
      clear h38
      have HN : Hid ((acc ++ [c]) ++ Pl.decL (s.data.toList.drop (j + 1)) = Pl.decL s.data.toList) := by
       show _ = _
       rw [← hn.out, Rt.dec_none s j m c HD.out HT.out hm1 (.inr (.inl (by rw [Rd.get_end s m (by omega)]; exact fun h => by cases h)))]
       simp
      clear hn HD HT
      go_wp2_with ((at_builtin; refine wpList_append_own _ rfl _ _ 43 rfl w.heap.size 5 i0 (.int .u8 0) 1 1 Tryz.underlying43 hi hz0 hz1 hz2 rfl (by decide) _ _ _ rfl (hown.alloc _) ⟨_, 0, none⟩ 1 1 [.int .u8 c.toNat] rfl rfl (Rn.one1 _ _) (Rn.one2 _) (by unfold maxLen; omega) (by omega) (by simp; omega) ?_))
      intro v' w1 hown' hgrow _
      have R := Rn.one_rel (c := c) hb hown hown' hgrow
      clear hown' hgrow hown hb
      go_wp2
      go_roundw
      case rel => exact ⟨j + 1, acc ++ [c], by omega, by go_num, R.1, R.2, HN, by simp; omega⟩
      case measure => simp [intOf]; omega
     ·
      have b38 : ((c.toNat : Int) == 38) = false := Re.beq_false c 38 38 rfl h38
      have HN : Hid ((acc ++ [c]) ++ Pl.decL (s.data.toList.drop (j + 1)) = Pl.decL s.data.toList) := by
       show _ = _
       rw [← hn.out, Rt.dec_none s j m c HD.out HT.out hm1 (.inl h38)]
       simp
      clear hn HD HT
      go_wp2_with ((at_builtin; refine wpList_append_own _ rfl _ _ 43 rfl w.heap.size 5 i0 (.int .u8 0) 1 1 Tryz.underlying43 hi hz0 hz1 hz2 rfl (by decide) _ _ _ rfl (hown.alloc _) ⟨_, 0, none⟩ 1 1 [.int .u8 c.toNat] rfl rfl (Rn.one1 _ _) (Rn.one2 _) (by unfold maxLen; omega) (by omega) (by simp; omega) ?_))
      intro v' w1 hown' hgrow _
      have R := Rn.one_rel (c := c) hb hown hown' hgrow
      clear hown' hgrow hown hb
      go_wp2
      go_roundw
      case rel => exact ⟨j + 1, acc ++ [c], by omega, by go_num, R.1, R.2, HN, by simp; omega⟩
      case measure => simp [intOf]; omega
  ·
   have hke : j = s.size := by omega
   have hconv := Rn.conv hown
   have HE : Hid (acc = Pl.decL s.data.toList) := by
    have := hn.out
    rw [hke, List.drop_of_length_le (by rw [Wk.len_data]; exact Nat.le_refl _), Pl.decL_nil, List.append_nil] at this
    exact this
   clear hown hn hke
   go_wp2
   go_ret
   exact ⟨Wk.ret_str HE.out, hb⟩
theorem Sc.info : (Tryz.prog.info? 5).map (fun i => (i.zero, i.size, i.bytes)) = some (some (.int .u8 0), 1, 1) := by kernel_rfl
theorem Sc.run_str (w : World) (base : Nat) (ty : TypeId) (v : Value) (n : Nat) (xs : List Value) (hown : w.ownsRow base 5 1 v n xs) (s : ByteArray) (h63 : n + s.size ≤ maxLen) (hbytes : n + s.size ≤ 140737488355328) (hbase : base ≤ w.heap.size) :
  ∃ v' w', (Builtin.append_ #[43, 9] ty #[v, .string s]).run Tryz.prog w = .ok v' w' ∧ w'.ownsRow base 5 1 v' (n + s.size) (xs ++ Lib.strCells s) ∧ w.grownBy w' v.ownBlock ∧ (v'.ownBlock = v.ownBlock ∨ v'.ownBlock = some w.heap.size) := by
 obtain ⟨i, hi, hz, h1, h2⟩ := info_parts Sc.info
 obtain ⟨v', w', hr, ho, hg, _⟩ := Lib.run_append_own_string (P := Tryz.prog) w base 43 9 ty 5 i Tryz.underlying43 Tryz.underlying9 hi hz h1 h2 v n xs hown s h63 hbytes hbase
 refine ⟨v', w', hr, ho, hg, ?_⟩
 have hsmall : n + s.size ≤ 9223372036854775807 := by simp only [maxLen] at h63; omega
 have hxl : xs.length = n := by simpa using hown.1
 rcases hown.2 with ⟨rfl, rfl⟩ | ⟨g, cap, cur, rfl, hbg, hgg, hnc, hcm, hcs, htake⟩
 ·
  by_cases hm : s.size = 0
  ·
   have hf := Lib.run_firstCells_string (P := Tryz.prog) w 1 s
   rw [hm] at hf
   simp [Builtin.append_, run_underlying Tryz.underlying43, run_underlying Tryz.underlying9, sizeOf, typeInfo, hi, h1, Builtin.lenOf, hm, hf] at hr
   rw [← hr.1]
   exact .inl rfl
  ·
   have hr2 := run_append_nil_string (P := Tryz.prog) w 43 9 ty 5 i (.int .u8 0) Tryz.underlying43 Tryz.underlying9 hi hz s (by omega) (by omega) (by rw [h2]; omega)
   rw [hr2] at hr
   injection hr with e1 e2
   subst e1
   exact .inr rfl
 ·
  by_cases hroom : n + s.size ≤ cap
  ·
   have hcs' : cur.size = cap := by simpa using hcs
   have hr2 := Lib.run_append_room_string (P := Tryz.prog) w 43 9 ty 5 i Tryz.underlying43 Tryz.underlying9 hi h1 g n cap cur hgg s hroom (by omega)
   rw [hr2] at hr
   injection hr with e1 e2
   subst e1
   exact .inl rfl
  ·
   have holds : ∀ j u, xs[j]? = some u → w.cell? ((⟨g, 0, none⟩ : Addr).add j) = some u := hown.cells (g := g) rfl
   have hr2 := Lib.run_append_grow_string (P := Tryz.prog) w 43 9 ty 5 i (.int .u8 0) Tryz.underlying43 Tryz.underlying9 hi hz ⟨g, 0, none⟩ n cap xs (by rw [h1]; simpa using hxl) holds s (by omega) (by omega) (by rw [h2]; exact growslice_fits (by omega) (by omega))
   rw [hr2] at hr
   injection hr with e1 e2
   subst e1
   exact .inr rfl
theorem Sc.step_str {w : World} {ops : Array Oper} {o : Oper} {a : Act} {K : Act → World → Prop} {E : Prop} {Z : Exit → Act → World → Prop} (hgd : o.guard = none) (sl x : Operand)
  (ho : o.op = .call { callee := .builtin .append, args := #[sl, x], argTypes := #[43, 9] })
  {base n : Nat} {xs : List Value} (v : Value) (hs : a.eval sl = v) (hown : w.ownsRow base 5 1 v n xs) (s : ByteArray) (hx : a.eval x = .string s)
  (h63 : n + s.size ≤ maxLen) (hbytes : n + s.size ≤ 140737488355328) (hbase : base ≤ w.heap.size)
  (h : ∀ v' w', w'.ownsRow base 5 1 v' (n + s.size) (xs ++ Lib.strCells s) → w.grownBy w' v.ownBlock → (v'.ownBlock = v.ownBlock ∨ v'.ownBlock = some w.heap.size) → K (a.put o.dst v') w') :
  if Region.wanted o (yielded ops a.tmps) = true then Oper.wp Tryz.prog o a w K Z else E := by
 have hw : Region.wanted o (yielded ops a.tmps) = true := by simp [Region.wanted, hgd]
 rw [if_pos hw]
 obtain ⟨v', w', hr, h2, h3, h4⟩ := Sc.run_str w base o.type v n xs hown s h63 hbytes hbase
 unfold Oper.wp execOp
 simp only [ho, resolve, invoke, builtin, Sem.run_bind, Sem.run_pure, Result.andThen_ok, List.map_toArray, List.map_cons, List.map_nil, hs, hx, hr]
 exact h v' w' h2 h3 h4
theorem Sc.strCells (P : ByteArray) (a b : Nat) : Lib.strCells (P.extract a b) = Lib.byteCells (Rf.sl P a b) := by
 unfold Lib.strCells Lib.byteCells Rf.sl
 simp
theorem Sc.grown_ne {w w4 : World} {v : Value} {k : Nat} (hg : w.grownBy w4 v.ownBlock) (hk : k < w.heap.size) (hv : v.ownBlock ≠ some k) : w4.heap[k]? = w.heap[k]? := hg.block k hk (fun e => hv e.symm)
theorem Sc.At.bufPut {w w4 : World} {g : Nat} {P : ByteArray} {x : Rf} {bv ov av bv' : Value} {l : List UInt8} (h : Sc.At w g P x bv ov av) (ho : w4.ownsRow (g + 1) 5 1 bv' (x.buf ++ l).length (Lib.byteCells (x.buf ++ l))) (hg : w.grownBy w4 bv.ownBlock) (hf : bv'.ownBlock = bv.ownBlock ∨ bv'.ownBlock = some w.heap.size) :
  Sc.At (w4.setCell ⟨g, 8, none⟩ bv') g P { x with buf := x.buf ++ l } bv' ov av ∧ Sc.Kept w (w4.setCell ⟨g, 8, none⟩ bv') g bv ov av bv' ov av := by
 have hlt := h.lt
 have hgne : bv.ownBlock ≠ some g := fun e => by have := (h.buf.lt g e).1; omega
 have hne : ∀ k, g + 1 ≤ k → (w4.setCell ⟨g, 8, none⟩ bv').heap[k]? = w4.heap[k]? := fun k hk => Below.heap_setCell _ _ _ _ (by show k ≠ g; omega)
 have hblk : ∀ k, k < w.heap.size → bv.ownBlock ≠ some k → bv'.ownBlock ≠ some k := fun k hk hv e => by
  rcases hf with q | q
  ·
   rw [q] at e; exact hv e
  ·
   rw [q] at e; have := Option.some.inj e; omega
 have hov : ∀ k, ov.ownBlock = some k → (w4.setCell ⟨g, 8, none⟩ bv').heap[k]? = w.heap[k]? := fun k hk => (hne k (h.ovLt hk).1).trans (Sc.grown_ne hg (h.ovLt hk).2 (h.ob k hk))
 have hav : ∀ k, av.ownBlock = some k → (w4.setCell ⟨g, 8, none⟩ bv').heap[k]? = w.heap[k]? := fun k hk => (hne k (h.attrs.lt k hk).1).trans (Sc.grown_ne hg (h.attrs.lt k hk).2 (fun e => h.ba k e hk))
 refine ⟨⟨?_, ?_, ?_, ?_, ?_, ?_, ?_⟩, ⟨hg.os, hg.tape, hg.output, by simpa using hg.size, fun k hk hfr => ⟨?_, hfr.1, hblk k hk hfr.2.1, hfr.2.2.1, hfr.2.2.2⟩⟩⟩
 ·
  exact (h.box.on (Sc.grown_ne hg hlt hgne)).set 8 bv' (by show 8 < 15; decide)
 ·
  exact Rm.own_on ho (fun k hk => hne k (ho.lt k hk).1)
 ·
  exact h.out.on (by simpa using hg.size) hov (fun k h1 h2 _ h4 => ⟨fun q => by
   rcases q with q | q
   ·
    exact hblk k h2 (fun e => h4 (Or.inl e)) q
   ·
    exact h4 (Or.inr q), (hne k h1).trans (Sc.grown_ne hg h2 (fun e => h4 (Or.inl e)))⟩)
 ·
  exact Rm.own_on h.attrs hav
 ·
  intro k hk
  exact hblk k (h.ovLt hk).2 (h.ob k hk)
 ·
  exact h.oa
 ·
  intro k hk hk2
  exact hblk k (h.attrs.lt k hk2).2 (fun e => h.ba k e hk2) hk
 ·
  rw [show (w4.setCell ⟨g, 8, none⟩ bv').heap[k]? = w4.heap[k]? from Below.heap_setCell _ _ _ _ hfr.1]
  exact Sc.grown_ne hg hk hfr.2.1
end Go.Proofs.YtblpkjlodncpeaaGreatDoor

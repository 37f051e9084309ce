/-
  THE WALK of stoleref1.Norm: what the document's own answer gives is 'Pl.normL' too (texts of up to 2^45 bytes).
-/
import Derived.Test.YtfjhbhddfpkebaaDoorSize
import Derived.Test.YtfjhbhddfpkebaaDoorNorm
namespace Go.Proofs.YtfjhbhddfpkebaaDoor
open Go.RowKit

/-- 'string(out)' of bytes that the call owns -/
theorem Rn.conv {wr : World} {B : Nat} {v : Value} {acc : List UInt8} (h : wr.ownsRow B 5 1 v acc.length (Lib.byteCells acc)) :
    (convert 28 9 v).run Tryd.prog wr = .ok (.string ⟨acc.toArray⟩) wr := by
  rcases h.2 with ⟨rfl, h0⟩ | ⟨g, cap, cur, rfl, _⟩
  · have e : acc = [] := List.eq_nil_of_length_eq_zero h0
    subst e
    rw [run_convert_bytes_string wr 28 9 5 none 0 0 Tryd.underlying28 Tryd.underlying5 Tryd.underlying9]
    simp [Conv.bytesToString]
    rfl
  · refine run_convert_bytes_back (P := Tryd.prog) wr 28 9 5 ⟨g, 0, none⟩ cap acc Tryd.underlying28 Tryd.underlying5 Tryd.underlying9 (fun j hj => ?_)
    have e : (⟨g, 0, none⟩ : Addr).add j = ⟨g, j, none⟩ := by rw [Addr.add_lit, Nat.zero_add]
    rw [e, h.cellAt j (by omega)]
    simp [Lib.byteCells, hj]
theorem Rn.below {w wr w' : World} {v : Value} {n : Nat} {xs : List Value} (hb : Below w.heap.size w wr) (hown : wr.ownsRow w.heap.size 5 1 v n xs) (hg : wr.grownBy w' v.ownBlock) : Below w.heap.size w w' :=
  hb.grown hg hb.size (fun k hk => (hown.lt k hk).1)
theorem Rn.c1 (W : World) : ∀ (j : Nat) (u : Value), [Value.int .u8 239, Value.int .u8 191, Value.int .u8 189][j]? = some u → (W.alloc (.cells #[.int .u8 239, .int .u8 191, .int .u8 189] 5)).cell? ((⟨W.heap.size, 0, none⟩ : Addr).add j) = some u := by
  intro j u h
  rw [Addr.add_lit, Nat.zero_add]
  have := World.cell?_alloc_mark W #[.int .u8 239, .int .u8 191, .int .u8 189] 5 (0, 0) j
  rw [this]
  simpa using h
theorem Rn.c2 : ∀ u ∈ [Value.int .u8 239, Value.int .u8 191, Value.int .u8 189], u.oneCell' = true := by
  intro u hu
  simp at hu
  rcases hu with rfl | rfl | rfl <;> rfl
theorem Rn.bad_rel {w wr w1 : World} {o v' : Value} {acc : List UInt8} {X : Obj} (hb : Below w.heap.size w wr) (hown : wr.ownsRow w.heap.size 5 1 o acc.length (Lib.byteCells acc))
    (hown' : w1.ownsRow w.heap.size 5 1 v' (acc.length + 3) (Lib.byteCells acc ++ [.int .u8 239, .int .u8 191, .int .u8 189])) (hg : (wr.alloc X).grownBy w1 o.ownBlock) :
    w1.ownsRow w.heap.size 5 1 v' (acc ++ Pl.fffd).length (Lib.byteCells (acc ++ Pl.fffd)) ∧ Below w.heap.size w w1 := by
  refine ⟨?_, (hb.alloc hb.size X).grown hg (by have := hb.size; simp; omega) (fun k hk => (hown.lt k hk).1)⟩
  rw [Lib.byteCells_append, List.length_append]
  exact hown'
theorem Rn.good_rel {w wr w1 : World} {o v' : Value} {acc l : List UInt8} {part : ByteArray} {n : Nat} (hsz : part.size = n) (hb : Below w.heap.size w wr) (hown : wr.ownsRow w.heap.size 5 1 o acc.length (Lib.byteCells acc)) (hp : part.data.toList = l)
    (hown' : w1.ownsRow w.heap.size 5 1 v' (acc.length + n) (Lib.byteCells acc ++ Lib.strCells part)) (hg : wr.grownBy w1 o.ownBlock) :
    w1.ownsRow w.heap.size 5 1 v' (acc ++ l).length (Lib.byteCells (acc ++ l)) ∧ Below w.heap.size w w1 := by
  refine ⟨?_, Rn.below hb hown hg⟩
  rw [Lib.byteCells_append, List.length_append, ← hp, Wk.len_data, hsz]
  exact hown'

set_option maxHeartbeats 2000000 in
theorem Sz.norm (s : ByteArray) (w : World) (hs : s.size ≤ 35184372088832) :
    Calls Tryd.prog 17 #[.string s] w fun e w' => e = .returned (.string ⟨(Pl.normL s.data.toList).toArray⟩) ∧ Below w.heap.size w w' := by
  obtain ⟨i0, hi, hz0, hz1, hz2⟩ := info_parts Wk.info5
  go_enter Tryd.func17, Tryd.ntmps17
  go_wp2
  go_loopw [3, 4] (fun o i wr => ∃ (k : Nat) (acc : List UInt8), k ≤ s.size ∧ i = .int .i64 k ∧ wr.ownsRow w.heap.size 5 1 o acc.length (Lib.byteCells acc) ∧ Below w.heap.size w wr ∧ Hid (acc ++ Pl.normL (s.data.toList.drop k) = Pl.normL s.data.toList) ∧ acc.length ≤ 3 * k) (fun _ i _ => s.size - (intOf i).toNat)
  case atStart => exact ⟨0, [], Nat.zero_le _, rfl, World.ownsRow_nil _ _ _ _, Below.refl _ _, rfl, Nat.le_refl _⟩
  case round =>
    obtain ⟨k, acc, hk, rfl, hown, hb, hn, hal⟩ := hrel
    have hsz := hb.size
    by_cases hlt : k < s.size
    · have hle := Pl.sgn_le (s.data.toList.drop k)
      rw [List.length_drop, Wk.len_data] at hle
      have h0 := (Sz.nb_at s k 0 (by omega)).symm
      have hboth := Sz.both (s.data.toList.drop k)
      have c := Sz.size s k hlt (by omega) wr
      have hsame := Sz.same (s.data.toList.drop k)
      have hnb := Pl.normL_bad _ (Wk.drop_ne s k hlt)
      have hns := Pl.normL_sign (s.data.toList.drop k)
      rw [List.drop_drop] at hns hnb
      have e0 : s[k].toNat = Pl.nb (s.data.toList.drop k) 0 := h0
      generalize Pl.nb (s.data.toList.drop k) 0 = v at *
      generalize Pl.siz (s.data.toList.drop k) = z at *
      generalize Pl.sgn (s.data.toList.drop k) = m at *
      have HNB : Hid (m = 0 → Pl.normL (s.data.toList.drop k) = Pl.fffd ++ Pl.normL (s.data.toList.drop (k + 1))) := hnb
      have HNS : Hid (m ≠ 0 → Pl.normL (s.data.toList.drop k) = (s.data.toList.drop k).take m ++ Pl.normL (s.data.toList.drop (k + m))) := hns
      have HB : Hid ((z = 0 ∨ v = 0) ↔ m = 0) := hboth
      have HS : Hid (m ≠ 0 → z = m) := hsame
      clear hnb hns hboth hsame h0
      by_cases m0 : m = 0
      · have hzv := HB.out.2 m0
        by_cases z0 : z = 0
        · have hz : ((z : Int) == 0) = true := beq_iff_eq.2 (by omega)
          go_wp2_with (first
            | (go_at_call 32; refine c.mono ?_; rintro e w' ⟨rfl, rfl⟩)
            | (at_builtin; refine wpList_append_own _ rfl _ _ 28 rfl w.heap.size 5 i0 (.int .u8 0) 1 1 Tryd.underlying28 hi hz0 hz1 hz2 rfl (by decide) _ _ _ rfl (hown.alloc _) ⟨_, 0, none⟩ 3 3 [.int .u8 239, .int .u8 191, .int .u8 189] rfl rfl (Rn.c1 _) Rn.c2 (by unfold maxLen; omega) (by omega) (by simp; omega) ?_))
          intro v' w1 hown' hgrow _
          have R := Rn.bad_rel hb hown hown' hgrow
          have HR : Hid ((acc ++ Pl.fffd) ++ Pl.normL (s.data.toList.drop (k + 1)) = Pl.normL s.data.toList) := by
            show _ = _
            rw [← hn.out, HNB.out m0, List.append_assoc]
          clear hown' hgrow hown c hb hn HNB HNS HB HS
          go_wp2
          go_roundw
          case rel => exact ⟨k + 1, acc ++ Pl.fffd, by omega, by go_num, R.1, R.2, HR, by simp [Pl.fffd]; omega⟩
          case measure => simp [intOf]; omega
        · have hz : ((z : Int) == 0) = false := beq_eq_false_iff_ne.2 (by omega)
          have hv : ((v : Int) == 0) = true := beq_iff_eq.2 (by omega)
          go_wp2_with (first
            | (go_at_call 32; refine c.mono ?_; rintro e w' ⟨rfl, rfl⟩)
            | (at_builtin; refine wpList_append_own _ rfl _ _ 28 rfl w.heap.size 5 i0 (.int .u8 0) 1 1 Tryd.underlying28 hi hz0 hz1 hz2 rfl (by decide) _ _ _ rfl (hown.alloc _) ⟨_, 0, none⟩ 3 3 [.int .u8 239, .int .u8 191, .int .u8 189] rfl rfl (Rn.c1 _) Rn.c2 (by unfold maxLen; omega) (by omega) (by simp; omega) ?_))
          intro v' w1 hown' hgrow _
          have R := Rn.bad_rel hb hown hown' hgrow
          have HR : Hid ((acc ++ Pl.fffd) ++ Pl.normL (s.data.toList.drop (k + 1)) = Pl.normL s.data.toList) := by
            show _ = _
            rw [← hn.out, HNB.out m0, List.append_assoc]
          clear hown' hgrow hown c hb hn HNB HNS HB HS
          go_wp2
          go_roundw
          case rel => exact ⟨k + 1, acc ++ Pl.fffd, by omega, by go_num, R.1, R.2, HR, by simp [Pl.fffd]; omega⟩
          case measure => simp [intOf]; omega
      · have hzm := HS.out m0
        have hv0 : ¬ v = 0 := fun e => m0 (HB.out.1 (.inr e))
        subst hzm
        have hz : ((z : Int) == 0) = false := beq_eq_false_iff_ne.2 (by omega)
        have hv : ((v : Int) == 0) = false := beq_eq_false_iff_ne.2 (by omega)
        have hcut : ∀ u : World, (Instr.slice 9 (.string s) (some (.int .i64 (k : Int))) (some (.int .i64 ((k : Int) + (z : Int)))) none).run Tryd.prog u = .ok (.string (s.extract k (k + z))) u := fun u => by
          have h := Wk.run_cut u s (k : Int) ((k : Int) + (z : Int)) (by omega) (by omega) (by omega)
          rwa [show ((k : Int) + (z : Int)).toNat = k + z by omega, Int.toNat_natCast] at h
        have hps := Wk.part_size s k z (by omega)
        have hpd := Wk.part_data s k z
        generalize s.extract k (k + z) = part at hcut hps hpd
        have HPD : Hid (part.data.toList = (s.data.toList.drop k).take z) := hpd
        clear hpd
        go_wp2_with (first
          | (go_at_call 32; refine c.mono ?_; rintro e w' ⟨rfl, rfl⟩)
          | (at_builtin; refine Lib.wpList_append_own_string _ rfl _ _ 28 9 rfl w.heap.size 5 i0 Tryd.underlying28 Tryd.underlying9 hi hz0 hz1 hz2 _ _ _ rfl hown part rfl (by unfold maxLen; omega) (by omega) (by omega) ?_))
        intro v' w1 hown' hgrow _
        have R := Rn.good_rel hps hb hown HPD.out hown' hgrow
        have HR : Hid ((acc ++ (s.data.toList.drop k).take z) ++ Pl.normL (s.data.toList.drop (k + z)) = Pl.normL s.data.toList) := by
          show _ = _
          rw [← hn.out, HNS.out m0, List.append_assoc]
        clear hown' hgrow hown c hb hn HNB HNS HB HS HPD hcut
        go_wp2
        go_roundw
        case rel => exact ⟨k + z, acc ++ (s.data.toList.drop k).take z, by omega, by go_num, R.1, R.2, HR, by simp; omega⟩
        case measure => simp [intOf]; omega
    · have hke : k = s.size := by omega
      have hconv := Rn.conv hown
      have HE : Hid (acc = Pl.normL s.data.toList) := by
        have := hn.out
        rw [hke, List.drop_of_length_le (by rw [Wk.len_data]; exact Nat.le_refl _), Pl.normL_nil, List.append_nil] at this
        exact this
      clear hown hn hke
      go_wp2
      go_ret
      exact ⟨Wk.ret_str HE.out, hb⟩
end Go.Proofs.YtfjhbhddfpkebaaDoor

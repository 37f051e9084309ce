/-
  THE WALK of stoleref1.Encode: what the document's own answer gives is 'Pl.encL' too (texts of up to 2^42 bytes).
-/
import Derived.Test.YtpehplamidbkeaaDoorRefRef
namespace Go.Proofs.YtpehplamidbkeaaDoor
open Go.RowKit

theorem Rn.one1 (W : World) (x : Int) : ∀ (j : Nat) (u : Value), [Value.int .u8 x][j]? = some u → (W.alloc (.cells #[.int .u8 x] 5)).cell? ((⟨W.heap.size, 0, none⟩ : Addr).add j) = some u := by
  intro j u h
  rw [Addr.add_lit, Nat.zero_add]
  have := World.cell?_alloc_mark W #[.int .u8 x] 5 (0, 0) j
  rw [this]
  simpa using h
theorem Rn.one2 (x : Int) : ∀ u ∈ [Value.int .u8 x], u.oneCell' = true := by
  intro u hu
  simp at hu
  subst hu; rfl
theorem Rn.one_rel {w wr w1 : World} {o v' : Value} {acc : List UInt8} {X : Obj} {c : UInt8} (hb : Below w.heap.size w wr) (hown : wr.ownsRow w.heap.size 5 1 o acc.length (Lib.byteCells acc))
    (hown' : w1.ownsRow w.heap.size 5 1 v' (acc.length + 1) (Lib.byteCells acc ++ [.int .u8 c.toNat])) (hg : (wr.alloc X).grownBy w1 o.ownBlock) :
    w1.ownsRow w.heap.size 5 1 v' (acc ++ [c]).length (Lib.byteCells (acc ++ [c])) ∧ Below w.heap.size w w1 := by
  refine ⟨?_, (hb.alloc hb.size X).grown hg (by have := hb.size; simp; omega) (fun k hk => (hown.lt k hk).1)⟩
  rw [Lib.byteCells_append, List.length_append]
  exact hown'

set_option maxRecDepth 100000 in
set_option maxHeartbeats 2000000 in
theorem Rt.encode (s : ByteArray) (w : World) (hs : s.size ≤ 4398046511104) :
    Calls Tryd.prog 10 #[.string s] w fun e w' => e = .returned (.string ⟨(Pl.encL s.data.toList).toArray⟩) ∧ Below w.heap.size w w' := by
  obtain ⟨i0, hi, hz0, hz1, hz2⟩ := info_parts Wk.info5
  have cn := Sz.norm s w (by omega)
  have HX : Hid (Pl.encL s.data.toList = Pl.encS (⟨(Pl.normL s.data.toList).toArray⟩ : ByteArray).data.toList) := rfl
  have hx1 : (⟨(Pl.normL s.data.toList).toArray⟩ : ByteArray).size ≤ 3 * s.size := by
    rw [← Wk.len_data, ← Wk.len_data]; exact Pl.norm_short _
  generalize (⟨(Pl.normL s.data.toList).toArray⟩ : ByteArray) = x at *
  go_enter Tryd.func10, Tryd.ntmps10
  go_wp2_with fail
  refine cn.mono ?_
  rintro e wn ⟨rfl, hbn⟩
  clear cn
  go_wp2_with fail
  go_loopw [4, 5] (fun o i wr => ∃ (k : Nat) (acc : List UInt8), k ≤ x.size ∧ i = .int .i64 k ∧ wr.ownsRow wn.heap.size 5 1 o acc.length (Lib.byteCells acc) ∧ Below wn.heap.size wn wr ∧ Hid (acc ++ Pl.encS (x.data.toList.drop k) = Pl.encS x.data.toList) ∧ acc.length ≤ 6 * k) (fun _ i _ => x.size - (intOf i).toNat)
  case atStart => exact ⟨0, [], Nat.zero_le _, rfl, World.ownsRow_nil _ _ _ _, Below.refl _ _, rfl, Nat.le_refl _⟩
  case round =>
    obtain ⟨k, acc, hk, rfl, hown, hb, hn, hal⟩ := hrel
    have hsr := hb.size
    by_cases hlt : k < x.size
    · obtain ⟨c, hc⟩ : ∃ c, x[k] = c := ⟨_, rfl⟩
      have HD : Hid (x.data.toList.drop k = c :: x.data.toList.drop (k + 1)) := by rw [← hc]; exact Rd.drop_cons x k hlt
      have hcn : x[k].toNat = c.toNat := by rw [hc]
      have HN : Hid ((acc ++ Pl.encB c) ++ Pl.encS (x.data.toList.drop (k + 1)) = Pl.encS x.data.toList) := Re.encS_step _ _ _ _ _ hn.out HD.out
      clear hc hn HD
      by_cases g38 : c = 38
      · have b38 : ((c.toNat : Int) == 38) = true := Re.beq_true c 38 (by rw [g38]; rfl)
        have HB : Hid (Pl.encB c = [38, 97, 109, 112, 59]) := by rw [g38]; rfl
        clear g38
        go_wp2_with (at_builtin; refine Lib.wpList_append_own_string _ rfl _ _ 27 9 rfl wn.heap.size 5 i0 Tryd.underlying27 Tryd.underlying9 hi hz0 hz1 hz2 _ _ _ rfl hown ⟨#[38, 97, 109, 112, 59]⟩ rfl (by show acc.length + 5 ≤ _; unfold maxLen; omega) (by show acc.length + 5 ≤ _; omega) (by show _; omega) ?_)
        intro v' w1 hown' hgrow _
        have R := Rn.good_rel (part := ⟨#[38, 97, 109, 112, 59]⟩) (l := Pl.encB c) (n := 5) rfl hb hown HB.out.symm hown' hgrow
        clear hown' hgrow hown hb
        go_wp2
        go_roundw
        case rel => exact ⟨k + 1, acc ++ Pl.encB c, by omega, by go_num, R.1, R.2, HN, by rw [List.length_append, HB.out]; simp; omega⟩
        case measure => simp [intOf]; omega
      have b38 : ((c.toNat : Int) == 38) = false := Re.beq_false c 38 38 rfl g38
      by_cases g60 : c = 60
      · have b60 : ((c.toNat : Int) == 60) = true := Re.beq_true c 60 (by rw [g60]; rfl)
        have HB : Hid (Pl.encB c = [38, 108, 116, 59]) := by rw [g60]; rfl
        clear g60
        go_wp2_with (at_builtin; refine Lib.wpList_append_own_string _ rfl _ _ 27 9 rfl wn.heap.size 5 i0 Tryd.underlying27 Tryd.underlying9 hi hz0 hz1 hz2 _ _ _ rfl hown ⟨#[38, 108, 116, 59]⟩ rfl (by show acc.length + 4 ≤ _; unfold maxLen; omega) (by show acc.length + 4 ≤ _; omega) (by show _; omega) ?_)
        intro v' w1 hown' hgrow _
        have R := Rn.good_rel (part := ⟨#[38, 108, 116, 59]⟩) (l := Pl.encB c) (n := 4) rfl hb hown HB.out.symm hown' hgrow
        clear hown' hgrow hown hb
        go_wp2
        go_roundw
        case rel => exact ⟨k + 1, acc ++ Pl.encB c, by omega, by go_num, R.1, R.2, HN, by rw [List.length_append, HB.out]; simp; omega⟩
        case measure => simp [intOf]; omega
      have b60 : ((c.toNat : Int) == 60) = false := Re.beq_false c 60 60 rfl g60
      by_cases g62 : c = 62
      · have b62 : ((c.toNat : Int) == 62) = true := Re.beq_true c 62 (by rw [g62]; rfl)
        have HB : Hid (Pl.encB c = [38, 103, 116, 59]) := by rw [g62]; rfl
        clear g62
        go_wp2_with (at_builtin; refine Lib.wpList_append_own_string _ rfl _ _ 27 9 rfl wn.heap.size 5 i0 Tryd.underlying27 Tryd.underlying9 hi hz0 hz1 hz2 _ _ _ rfl hown ⟨#[38, 103, 116, 59]⟩ rfl (by show acc.length + 4 ≤ _; unfold maxLen; omega) (by show acc.length + 4 ≤ _; omega) (by show _; omega) ?_)
        intro v' w1 hown' hgrow _
        have R := Rn.good_rel (part := ⟨#[38, 103, 116, 59]⟩) (l := Pl.encB c) (n := 4) rfl hb hown HB.out.symm hown' hgrow
        clear hown' hgrow hown hb
        go_wp2
        go_roundw
        case rel => exact ⟨k + 1, acc ++ Pl.encB c, by omega, by go_num, R.1, R.2, HN, by rw [List.length_append, HB.out]; simp; omega⟩
        case measure => simp [intOf]; omega
      have b62 : ((c.toNat : Int) == 62) = false := Re.beq_false c 62 62 rfl g62
      by_cases g34 : c = 34
      · have b34 : ((c.toNat : Int) == 34) = true := Re.beq_true c 34 (by rw [g34]; rfl)
        have HB : Hid (Pl.encB c = [38, 113, 117, 111, 116, 59]) := by rw [g34]; rfl
        clear g34
        go_wp2_with (at_builtin; refine Lib.wpList_append_own_string _ rfl _ _ 27 9 rfl wn.heap.size 5 i0 Tryd.underlying27 Tryd.underlying9 hi hz0 hz1 hz2 _ _ _ rfl hown ⟨#[38, 113, 117, 111, 116, 59]⟩ rfl (by show acc.length + 6 ≤ _; unfold maxLen; omega) (by show acc.length + 6 ≤ _; omega) (by show _; omega) ?_)
        intro v' w1 hown' hgrow _
        have R := Rn.good_rel (part := ⟨#[38, 113, 117, 111, 116, 59]⟩) (l := Pl.encB c) (n := 6) rfl hb hown HB.out.symm hown' hgrow
        clear hown' hgrow hown hb
        go_wp2
        go_roundw
        case rel => exact ⟨k + 1, acc ++ Pl.encB c, by omega, by go_num, R.1, R.2, HN, by rw [List.length_append, HB.out]; simp; omega⟩
        case measure => simp [intOf]; omega
      have b34 : ((c.toNat : Int) == 34) = false := Re.beq_false c 34 34 rfl g34
      by_cases g39 : c = 39
      · have b39 : ((c.toNat : Int) == 39) = true := Re.beq_true c 39 (by rw [g39]; rfl)
        have HB : Hid (Pl.encB c = [38, 35, 51, 57, 59]) := by rw [g39]; rfl
        clear g39
        go_wp2_with (at_builtin; refine Lib.wpList_append_own_string _ rfl _ _ 27 9 rfl wn.heap.size 5 i0 Tryd.underlying27 Tryd.underlying9 hi hz0 hz1 hz2 _ _ _ rfl hown ⟨#[38, 35, 51, 57, 59]⟩ rfl (by show acc.length + 5 ≤ _; unfold maxLen; omega) (by show acc.length + 5 ≤ _; omega) (by show _; omega) ?_)
        intro v' w1 hown' hgrow _
        have R := Rn.good_rel (part := ⟨#[38, 35, 51, 57, 59]⟩) (l := Pl.encB c) (n := 5) rfl hb hown HB.out.symm hown' hgrow
        clear hown' hgrow hown hb
        go_wp2
        go_roundw
        case rel => exact ⟨k + 1, acc ++ Pl.encB c, by omega, by go_num, R.1, R.2, HN, by rw [List.length_append, HB.out]; simp; omega⟩
        case measure => simp [intOf]; omega
      have b39 : ((c.toNat : Int) == 39) = false := Re.beq_false c 39 39 rfl g39
      by_cases g13 : c = 13
      · have b13 : ((c.toNat : Int) == 13) = true := Re.beq_true c 13 (by rw [g13]; rfl)
        have HB : Hid (Pl.encB c = [38, 35, 49, 51, 59]) := by rw [g13]; rfl
        clear g13
        go_wp2_with (at_builtin; refine Lib.wpList_append_own_string _ rfl _ _ 27 9 rfl wn.heap.size 5 i0 Tryd.underlying27 Tryd.underlying9 hi hz0 hz1 hz2 _ _ _ rfl hown ⟨#[38, 35, 49, 51, 59]⟩ rfl (by show acc.length + 5 ≤ _; unfold maxLen; omega) (by show acc.length + 5 ≤ _; omega) (by show _; omega) ?_)
        intro v' w1 hown' hgrow _
        have R := Rn.good_rel (part := ⟨#[38, 35, 49, 51, 59]⟩) (l := Pl.encB c) (n := 5) rfl hb hown HB.out.symm hown' hgrow
        clear hown' hgrow hown hb
        go_wp2
        go_roundw
        case rel => exact ⟨k + 1, acc ++ Pl.encB c, by omega, by go_num, R.1, R.2, HN, by rw [List.length_append, HB.out]; simp; omega⟩
        case measure => simp [intOf]; omega
      have b13 : ((c.toNat : Int) == 13) = false := Re.beq_false c 13 13 rfl g13
      have HB : Hid (Pl.encB c = [c]) := by show _ = _; unfold Pl.encB; rw [if_neg g38, if_neg g60, if_neg g62, if_neg g34, if_neg g39, if_neg g13]
      clear g38 g60 g62 g34 g39 g13
      go_wp2_with (at_builtin; refine wpList_append_own _ rfl _ _ 27 rfl wn.heap.size 5 i0 (.int .u8 0) 1 1 Tryd.underlying27 hi hz0 hz1 hz2 rfl (by decide) _ _ _ rfl (hown.alloc _) ⟨_, 0, none⟩ 1 1 [.int .u8 c.toNat] rfl rfl (Rn.one1 _ _) (Rn.one2 _) (by unfold maxLen; omega) (by omega) (by simp; omega) ?_)
      intro v' w1 hown' hgrow _
      have R := Rn.one_rel (c := c) hb hown hown' hgrow
      rw [← HB.out] at R
      clear hown' hgrow hown hb
      go_wp2
      go_roundw
      case rel => exact ⟨k + 1, acc ++ Pl.encB c, by omega, by go_num, R.1, R.2, HN, by rw [List.length_append, HB.out]; simp; omega⟩
      case measure => simp [intOf]; omega
    · have hke : k = x.size := by omega
      have HE : Hid (acc = Pl.encL s.data.toList) := by
        have := hn.out
        rw [hke, List.drop_of_length_le (by rw [Wk.len_data]; exact Nat.le_refl _), Pl.encS_nil, List.append_nil] at this
        exact this.trans HX.out.symm
      have hconv := Rn.conv hown
      clear hown hn hke
      go_wp2
      go_ret
      exact ⟨Wk.ret_str HE.out, hbn.trans (hb.mono hbn.size)⟩
end Go.Proofs.YtpehplamidbkeaaDoor

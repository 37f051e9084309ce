/-
  THE WALK of refs.Encode: it returns what 'Pl.encL' gives of the bytes (texts of up to 2^42 bytes: a Builder's room), and turns nothing that was there.
-/
import Derived.Test.YtpehplamidbkeaaDoorRDig
import Derived.Test.YtpehplamidbkeaaDoorNorm
namespace Go.Proofs.YtpehplamidbkeaaDoor
open Go.RowKit

theorem Re.beq_true (c : UInt8) (n : Nat) (h : c.toNat = n) : ((c.toNat : Int) == (n : Int)) = true := by rw [h]; exact beq_iff_eq.2 rfl
theorem Re.beq_false (c d : UInt8) (n : Nat) (hd : d.toNat = n) (h : c ≠ d) : ((c.toNat : Int) == (n : Int)) = false :=
  beq_eq_false_iff_ne.2 fun e => h (UInt8.toNat_inj.1 (by rw [hd]; omega))
theorem Re.encS_step (acc l r out : List UInt8) (c : UInt8) (h : acc ++ Pl.encS l = out) (hl : l = c :: r) : (acc ++ Pl.encB c) ++ Pl.encS r = out := by
  rw [← h, hl, Pl.encS_cons, List.append_assoc]

set_option maxRecDepth 100000 in
set_option maxHeartbeats 2000000 in
theorem Re.encode (s : ByteArray) (w : World) (hT : Lib.Utf8Tabs 1 2 w) (hs : s.size ≤ 4398046511104) :
    Calls Tryd.prog 9 #[.string s] w fun e w' => e = .returned (.string ⟨(Pl.encL s.data.toList).toArray⟩) ∧ Below w.heap.size w w' := by
  have cn := Wk.norm s w hT (by omega)
  have HX : Hid (Pl.encL s.data.toList = Pl.encS (⟨(Pl.normL s.data.toList).toArray⟩ : ByteArray).data.toList) := rfl
  have hx1 : (⟨(Pl.normL s.data.toList).toArray⟩ : ByteArray).size ≤ 3 * s.size := by
    rw [← Wk.len_data, ← Wk.len_data]; exact Pl.norm_short _
  generalize (⟨(Pl.normL s.data.toList).toArray⟩ : ByteArray) = x at *
  go_enter Tryd.func9, Tryd.ntmps9
  go_wp2_with fail
  refine cn.mono ?_
  rintro e wn ⟨rfl, hbn⟩
  have c0 := Sh.Builder_Grow_fresh wn.heap.size wn.heap.size x.size (wn.alloc (.cells #[.pointer none, .slice none 0 0] 36)) (Nat.le_refl _) (heap_alloc_new wn _) (by simp) (by omega)
  clear cn
  go_wp2_with fail
  refine c0.mono ?_
  rintro e w0 ⟨rfl, hB0, hb0⟩
  have hbw0 : Below wn.heap.size wn w0 := ((Below.refl _ _).alloc (Nat.le_refl _) _).trans hb0
  have hI0 : Lib.IsBuilderF 36 5 wn.heap.size wn.heap.size (Lib.byteCells []) w0 := .inr (Lib.BuilderAtF.of hB0)
  clear c0 hB0 hb0
  go_wp2_with fail
  go_loopw [12] (fun i wr => ∃ (k : Nat) (acc : List UInt8), k ≤ x.size ∧ i = .int .i64 k ∧ Lib.IsBuilderF 36 5 wn.heap.size wn.heap.size (Lib.byteCells acc) wr ∧ Below wn.heap.size wn wr ∧ Hid (acc ++ Pl.encS (x.data.toList.drop k) = Pl.encS x.data.toList) ∧ acc.length ≤ 6 * k) (fun i _ => x.size - (intOf i).toNat)
  case atStart => exact ⟨0, [], Nat.zero_le _, rfl, hI0, hbw0, rfl, Nat.le_refl _⟩
  case round =>
    clear hI0 hbw0
    obtain ⟨k, acc, hk, rfl, hI, hb, hn, hal⟩ := hrel
    have hsr := hb.size
    by_cases hlt : k < x.size
    · obtain ⟨c, hc⟩ : ∃ c, x[k] = c := ⟨_, rfl⟩
      have HD : Hid (x.data.toList.drop k = c :: x.data.toList.drop (k + 1)) := by rw [← hc]; exact Rd.drop_cons x k hlt
      have hcn : x[k].toNat = c.toNat := by rw [hc]
      have HN : Hid ((acc ++ Pl.encB c) ++ Pl.encS (x.data.toList.drop (k + 1)) = Pl.encS x.data.toList) := Re.encS_step _ _ _ _ _ hn.out HD.out
      clear hc hn HD
      by_cases g38 : c = 38
      · have b38 : ((c.toNat : Int) == 38) = true := Re.beq_true c 38 (by rw [g38]; rfl)
        have HB : Hid (Pl.encB c = [38, 97, 109, 112, 59]) := by rw [g38]; rfl
        clear g38
        go_wp2_with fail
        refine (Sh.Builder_WriteString_k wn.heap.size wn.heap.size _ _ wr hI (by rw [Lib.byteCells_length]; show acc.length + 5 ≤ _; omega) (by omega)).mono ?_
        rintro e w2 ⟨rfl, hI2, hb2, _⟩
        have hb' : Below wn.heap.size wn w2 := hb.trans hb2
        have hI' : Lib.IsBuilderF 36 5 wn.heap.size wn.heap.size (Lib.byteCells (acc ++ Pl.encB c)) w2 := by
          rw [Lib.byteCells_append, HB.out]; exact .inr hI2
        clear hI hI2 hb2 hb
        go_wp2
        go_roundw
        case rel => exact ⟨k + 1, acc ++ Pl.encB c, by omega, by go_num, hI', hb', HN, by rw [List.length_append, HB.out]; simp; omega⟩
        case measure => simp [intOf]; omega
      have b38 : ((c.toNat : Int) == 38) = false := Re.beq_false c 38 38 rfl g38
      by_cases g60 : c = 60
      · have b60 : ((c.toNat : Int) == 60) = true := Re.beq_true c 60 (by rw [g60]; rfl)
        have HB : Hid (Pl.encB c = [38, 108, 116, 59]) := by rw [g60]; rfl
        clear g60
        go_wp2_with fail
        refine (Sh.Builder_WriteString_k wn.heap.size wn.heap.size _ _ wr hI (by rw [Lib.byteCells_length]; show acc.length + 4 ≤ _; omega) (by omega)).mono ?_
        rintro e w2 ⟨rfl, hI2, hb2, _⟩
        have hb' : Below wn.heap.size wn w2 := hb.trans hb2
        have hI' : Lib.IsBuilderF 36 5 wn.heap.size wn.heap.size (Lib.byteCells (acc ++ Pl.encB c)) w2 := by
          rw [Lib.byteCells_append, HB.out]; exact .inr hI2
        clear hI hI2 hb2 hb
        go_wp2
        go_roundw
        case rel => exact ⟨k + 1, acc ++ Pl.encB c, by omega, by go_num, hI', hb', HN, by rw [List.length_append, HB.out]; simp; omega⟩
        case measure => simp [intOf]; omega
      have b60 : ((c.toNat : Int) == 60) = false := Re.beq_false c 60 60 rfl g60
      by_cases g62 : c = 62
      · have b62 : ((c.toNat : Int) == 62) = true := Re.beq_true c 62 (by rw [g62]; rfl)
        have HB : Hid (Pl.encB c = [38, 103, 116, 59]) := by rw [g62]; rfl
        clear g62
        go_wp2_with fail
        refine (Sh.Builder_WriteString_k wn.heap.size wn.heap.size _ _ wr hI (by rw [Lib.byteCells_length]; show acc.length + 4 ≤ _; omega) (by omega)).mono ?_
        rintro e w2 ⟨rfl, hI2, hb2, _⟩
        have hb' : Below wn.heap.size wn w2 := hb.trans hb2
        have hI' : Lib.IsBuilderF 36 5 wn.heap.size wn.heap.size (Lib.byteCells (acc ++ Pl.encB c)) w2 := by
          rw [Lib.byteCells_append, HB.out]; exact .inr hI2
        clear hI hI2 hb2 hb
        go_wp2
        go_roundw
        case rel => exact ⟨k + 1, acc ++ Pl.encB c, by omega, by go_num, hI', hb', HN, by rw [List.length_append, HB.out]; simp; omega⟩
        case measure => simp [intOf]; omega
      have b62 : ((c.toNat : Int) == 62) = false := Re.beq_false c 62 62 rfl g62
      by_cases g34 : c = 34
      · have b34 : ((c.toNat : Int) == 34) = true := Re.beq_true c 34 (by rw [g34]; rfl)
        have HB : Hid (Pl.encB c = [38, 113, 117, 111, 116, 59]) := by rw [g34]; rfl
        clear g34
        go_wp2_with fail
        refine (Sh.Builder_WriteString_k wn.heap.size wn.heap.size _ _ wr hI (by rw [Lib.byteCells_length]; show acc.length + 6 ≤ _; omega) (by omega)).mono ?_
        rintro e w2 ⟨rfl, hI2, hb2, _⟩
        have hb' : Below wn.heap.size wn w2 := hb.trans hb2
        have hI' : Lib.IsBuilderF 36 5 wn.heap.size wn.heap.size (Lib.byteCells (acc ++ Pl.encB c)) w2 := by
          rw [Lib.byteCells_append, HB.out]; exact .inr hI2
        clear hI hI2 hb2 hb
        go_wp2
        go_roundw
        case rel => exact ⟨k + 1, acc ++ Pl.encB c, by omega, by go_num, hI', hb', HN, by rw [List.length_append, HB.out]; simp; omega⟩
        case measure => simp [intOf]; omega
      have b34 : ((c.toNat : Int) == 34) = false := Re.beq_false c 34 34 rfl g34
      by_cases g39 : c = 39
      · have b39 : ((c.toNat : Int) == 39) = true := Re.beq_true c 39 (by rw [g39]; rfl)
        have HB : Hid (Pl.encB c = [38, 35, 51, 57, 59]) := by rw [g39]; rfl
        clear g39
        go_wp2_with fail
        refine (Sh.Builder_WriteString_k wn.heap.size wn.heap.size _ _ wr hI (by rw [Lib.byteCells_length]; show acc.length + 5 ≤ _; omega) (by omega)).mono ?_
        rintro e w2 ⟨rfl, hI2, hb2, _⟩
        have hb' : Below wn.heap.size wn w2 := hb.trans hb2
        have hI' : Lib.IsBuilderF 36 5 wn.heap.size wn.heap.size (Lib.byteCells (acc ++ Pl.encB c)) w2 := by
          rw [Lib.byteCells_append, HB.out]; exact .inr hI2
        clear hI hI2 hb2 hb
        go_wp2
        go_roundw
        case rel => exact ⟨k + 1, acc ++ Pl.encB c, by omega, by go_num, hI', hb', HN, by rw [List.length_append, HB.out]; simp; omega⟩
        case measure => simp [intOf]; omega
      have b39 : ((c.toNat : Int) == 39) = false := Re.beq_false c 39 39 rfl g39
      by_cases g13 : c = 13
      · have b13 : ((c.toNat : Int) == 13) = true := Re.beq_true c 13 (by rw [g13]; rfl)
        have HB : Hid (Pl.encB c = [38, 35, 49, 51, 59]) := by rw [g13]; rfl
        clear g13
        go_wp2_with fail
        refine (Sh.Builder_WriteString_k wn.heap.size wn.heap.size _ _ wr hI (by rw [Lib.byteCells_length]; show acc.length + 5 ≤ _; omega) (by omega)).mono ?_
        rintro e w2 ⟨rfl, hI2, hb2, _⟩
        have hb' : Below wn.heap.size wn w2 := hb.trans hb2
        have hI' : Lib.IsBuilderF 36 5 wn.heap.size wn.heap.size (Lib.byteCells (acc ++ Pl.encB c)) w2 := by
          rw [Lib.byteCells_append, HB.out]; exact .inr hI2
        clear hI hI2 hb2 hb
        go_wp2
        go_roundw
        case rel => exact ⟨k + 1, acc ++ Pl.encB c, by omega, by go_num, hI', hb', HN, by rw [List.length_append, HB.out]; simp; omega⟩
        case measure => simp [intOf]; omega
      have b13 : ((c.toNat : Int) == 13) = false := Re.beq_false c 13 13 rfl g13
      have HB : Hid (Pl.encB c = [c]) := by show _ = _; unfold Pl.encB; rw [if_neg g38, if_neg g60, if_neg g62, if_neg g34, if_neg g39, if_neg g13]
      clear g38 g60 g62 g34 g39 g13
      go_wp2_with fail
      refine (Sh.Builder_WriteByte_k wn.heap.size wn.heap.size _ _ wr hI (by rw [Lib.byteCells_length]; omega) (by omega)).mono ?_
      rintro e w2 ⟨rfl, hI2, hb2, _⟩
      have hb' : Below wn.heap.size wn w2 := hb.trans hb2
      have hI' : Lib.IsBuilderF 36 5 wn.heap.size wn.heap.size (Lib.byteCells (acc ++ Pl.encB c)) w2 := by
        rw [Lib.byteCells_append, HB.out]; exact .inr hI2
      clear hI hI2 hb2 hb
      go_wp2
      go_roundw
      case rel => exact ⟨k + 1, acc ++ Pl.encB c, by omega, by go_num, hI', hb', HN, by rw [List.length_append, HB.out]; simp; omega⟩
      case measure => simp [intOf]; omega
    · have hke : k = x.size := by omega
      have HE : Hid (acc = Pl.encL s.data.toList) := by
        have := hn.out
        rw [hke, List.drop_of_length_le (by rw [Wk.len_data]; exact Nat.le_refl _), Pl.encS_nil, List.append_nil] at this
        exact this.trans HX.out.symm
      clear hke
      go_wp2_with fail
      refine (Sh.Builder_String_any_k wn.heap.size wn.heap.size acc _ hI (by omega)).mono ?_
      rintro e w1 ⟨rfl, _, hb1, _⟩
      go_wp2
      go_ret
      exact ⟨Wk.ret_str HE.out, hbn.trans ((hb.trans hb1).mono hbn.size)⟩
end Go.Proofs.YtpehplamidbkeaaDoor

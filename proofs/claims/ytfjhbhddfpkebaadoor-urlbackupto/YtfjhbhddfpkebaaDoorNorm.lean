/-
  THE WALK of utf.Norm: it returns what 'Pl.normL' gives of the bytes (texts of up to 2^45 bytes: a Builder's room), and turns nothing that was there.
-/
import Derived.Test.YtfjhbhddfpkebaaDoorSign
namespace Go.Proofs.YtfjhbhddfpkebaaDoor
open Go.RowKit

theorem Wk.atF_below {T e : TypeId} {B b : Nat} {p : Value} {bs : List Value} {W W' : World} (h : Lib.BuilderAtF T e B b p bs W) (hb : Below W.heap.size W W') : Lib.BuilderAtF T e B b p bs W' := by
  have hlt := h.lt
  obtain ⟨hB, v, hv, hown, hne⟩ := h
  exact ⟨hB, v, (hb.block b hlt).trans hv, hown.kept (row := none) ⟨hb.os, hb.tape, hb.output, hb.size, fun k hk _ => hb.block k hk⟩ (Classical.em _), hne⟩
theorem Wk.isF_below {T e : TypeId} {B b : Nat} {bs : List Value} {W W' : World} (h : Lib.IsBuilderF T e B b bs W) (hb : Below W.heap.size W W') : Lib.IsBuilderF T e B b bs W' :=
  h.elim (fun x => .inl (Wk.atF_below x hb)) (fun x => .inr (Wk.atF_below x hb))
theorem Wk.part_data (s : ByteArray) (k m : Nat) : (s.extract k (k + m)).data.toList = (s.data.toList.drop k).take m := by
  rw [Lib.extract_data, Nat.add_sub_cancel_left]
theorem Wk.part_size (s : ByteArray) (k m : Nat) (h : k + m ≤ s.size) : (s.extract k (k + m)).size = m := by
  rw [← Wk.len_data, Wk.part_data, List.length_take, List.length_drop, Wk.len_data]; omega

/-- a text from one place to another -/
theorem Wk.run_cut (w : World) (s : ByteArray) (l h : Int) (h0 : 0 ≤ l) (h1 : l ≤ h) (h2 : h ≤ s.size) :
    (Instr.slice 9 (.string s) (some (.int .i64 l)) (some (.int .i64 h)) none).run Tryd.prog w = .ok (.string (s.extract l.toNat h.toNat)) w := by
  have eh : (h.toNat : Int) = h := Int.toNat_of_nonneg (by omega)
  simp [Instr.slice, run_underlying Tryd.underlying9, Instr.sliceBounds, run_sliceBound, h0, h1, h2, eh, (by omega : 0 ≤ h)]
theorem Wk.ret_str {a b : List UInt8} (h : a = b) : Ending.returned (.string ⟨a.toArray⟩) = .returned (.string ⟨b.toArray⟩) := by rw [h]

set_option maxHeartbeats 1000000 in
theorem Wk.norm (s : ByteArray) (w : World) (hT : Lib.Utf8Tabs 1 2 w) (hs : s.size ≤ 35184372088832) :
    Calls Tryd.prog 27 #[.string s] w fun e w' => e = .returned (.string ⟨(Pl.normL s.data.toList).toArray⟩) ∧ Below w.heap.size w w' := by
  have c0 := Sh.Builder_Grow_fresh w.heap.size w.heap.size s.size (w.alloc (.cells #[.pointer none, .slice none 0 0] 45)) (Nat.le_refl _) (heap_alloc_new w _) (by simp) (by omega)
  go_enter Tryd.func27, Tryd.ntmps27
  go_wp2_with (go_at_call 35; refine c0.mono ?_; rintro e w0 ⟨rfl, hB0, hb0⟩)
  have hbw0 : Below w.heap.size w w0 := ((Below.refl _ _).alloc (Nat.le_refl _) _).trans hb0
  have hI0 : Lib.IsBuilderF 45 5 w.heap.size w.heap.size (Lib.byteCells []) w0 := .inr (Lib.BuilderAtF.of hB0)
  clear c0 hB0 hb0
  go_loopw [4] (fun i wr => ∃ (k : Nat) (acc : List UInt8), k ≤ s.size ∧ i = .int .i64 k ∧ Lib.IsBuilderF 45 5 w.heap.size w.heap.size (Lib.byteCells acc) wr ∧ Below w.heap.size w wr ∧ Hid (acc ++ Pl.normL (s.data.toList.drop k) = Pl.normL s.data.toList) ∧ acc.length ≤ 3 * k) (fun i _ => s.size - (intOf i).toNat)
  case atStart => exact ⟨0, [], Nat.zero_le _, rfl, hI0, hbw0, rfl, Nat.le_refl _⟩
  case round =>
    clear hI0 hbw0
    obtain ⟨k, acc, hk, rfl, hI, hb, hn, hal⟩ := hrel
    have c := Wk.sign_at s k wr (Utf8Tabs_below hT hb)
    have hsz := hb.size
    by_cases hlt : k < s.size
    · have hle := Pl.sgn_le (s.data.toList.drop k)
      rw [List.length_drop, Wk.len_data] at hle
      obtain ⟨m, hmm⟩ : ∃ m, Pl.sgn (s.data.toList.drop k) = m := ⟨_, rfl⟩
      rw [hmm] at c hle
      have HM : Hid (Pl.sgn (s.data.toList.drop k) = m) := hmm
      clear hmm
      by_cases h0 : m = 0
      · have hz : ((m : Int) == 0) = true := beq_iff_eq.2 (by omega)
        go_wp2_with (go_at_call 36; refine c.mono ?_; rintro e w1 ⟨rfl, hb1⟩)
        refine (Sh.Builder_WriteString_k w.heap.size w.heap.size _ _ w1 (Wk.isF_below hI hb1) (by rw [Lib.byteCells_length]; show acc.length + 3 ≤ _; omega) (by have := hb1.size; omega)).mono ?_
        rintro e w2 ⟨rfl, hI2, hb2, _⟩
        have hb' : Below w.heap.size w w2 := (Wk.below_step hb hb1).trans hb2
        have hI' : Lib.IsBuilderF 45 5 w.heap.size w.heap.size (Lib.byteCells (acc ++ Pl.fffd)) w2 := by
          rw [Lib.byteCells_append]; exact .inr hI2
        have HN : Hid ((acc ++ Pl.fffd) ++ Pl.normL (s.data.toList.drop (k + 1)) = Pl.normL s.data.toList) := by
          have h1 := Pl.normL_bad _ (Wk.drop_ne s k hlt) (HM.out.trans h0)
          rw [List.drop_drop] at h1
          show _ = _
          rw [← hn.out, h1, List.append_assoc]
        clear hI hI2 hb1 hb2 c hn HM
        go_wp2
        go_roundw
        case rel => exact ⟨k + 1, acc ++ Pl.fffd, by omega, by go_num, hI', hb', HN, by simp [Pl.fffd]; omega⟩
        case measure => simp [intOf]; omega
      · have hz : ((m : Int) == 0) = false := beq_eq_false_iff_ne.2 (by omega)
        have hcut : ∀ u : World, (Instr.slice 9 (.string s) (some (.int .i64 (k : Int))) (some (.int .i64 ((k : Int) + (m : Int)))) none).run Tryd.prog u = .ok (.string (s.extract k (k + m))) u := fun u => by
          have h := Wk.run_cut u s (k : Int) ((k : Int) + (m : Int)) (by omega) (by omega) (by omega)
          rwa [show ((k : Int) + (m : Int)).toNat = k + m by omega, Int.toNat_natCast] at h
        have hps := Wk.part_size s k m (by omega)
        have hpd := Wk.part_data s k m
        generalize s.extract k (k + m) = part at hcut hps hpd
        have HPS := hps
        have HPD : Hid (part.data.toList = (s.data.toList.drop k).take m) := hpd
        clear hps hpd
        go_wp2_with (go_at_call 36; refine c.mono ?_; rintro e w1 ⟨rfl, hb1⟩)
        refine (Sh.Builder_WriteString_k w.heap.size w.heap.size _ _ w1 (Wk.isF_below hI hb1) (by rw [Lib.byteCells_length]; omega) (by have := hb1.size; omega)).mono ?_
        rintro e w2 ⟨rfl, hI2, hb2, _⟩
        have hb' : Below w.heap.size w w2 := (Wk.below_step hb hb1).trans hb2
        have hI' : Lib.IsBuilderF 45 5 w.heap.size w.heap.size (Lib.byteCells (acc ++ (s.data.toList.drop k).take m)) w2 := by
          rw [Lib.byteCells_append, ← HPD.out]; exact .inr hI2
        have HN : Hid ((acc ++ (s.data.toList.drop k).take m) ++ Pl.normL (s.data.toList.drop (k + m)) = Pl.normL s.data.toList) := by
          have h1 := Pl.normL_sign (s.data.toList.drop k) (by rw [HM.out]; exact h0)
          rw [HM.out, List.drop_drop] at h1
          show _ = _
          rw [← hn.out, h1, List.append_assoc]
        clear hI hI2 hb1 hb2 c hn HM HPD HPS hcut
        go_wp2
        go_roundw
        case rel => exact ⟨k + m, acc ++ (s.data.toList.drop k).take m, by omega, by go_num, hI', hb', HN, by simp; omega⟩
        case measure => simp [intOf]; omega
    · have hke : k = s.size := by omega
      go_wp2_with (go_at_call 38; refine (Sh.Builder_String_any_k w.heap.size w.heap.size acc _ hI (by omega)).mono ?_; rintro e w1 ⟨rfl, _, hb1, _⟩)
      go_ret
      refine ⟨Wk.ret_str ?_, hb.trans hb1⟩
      have := hn.out
      rwa [hke, List.drop_of_length_le (by rw [Wk.len_data]; exact Nat.le_refl _), Pl.normL_nil, List.append_nil] at this
end Go.Proofs.YtfjhbhddfpkebaaDoor

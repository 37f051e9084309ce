/-
  THE WALKS of areAttrs' own function, and of slices.ContainsFunc at it.
-/
import Derived.Test.YthfobjkdcncoiaaUMay
namespace Go.Proofs.Ythfobjkdcncoiaa
open Go.RowKit
theorem Rm.ba_beq (a b : ByteArray) : (a.toList == b.toList) = decide (a = b) := by
  rw [ByteArray.toList_eq, ByteArray.toList_eq, Bool.eq_iff_iff, beq_iff_eq, decide_eq_true_iff]
  constructor
  · intro h
    cases a; cases b
    simp only at h
    congr 1
    exact Array.toList_inj.1 h
  · rintro rfl; rfl
theorem Rm.isName (n v nm : ByteArray) (q : Nat) (w : World) (hq : w.cell? ⟨q, 0, none⟩ = some (.string nm)) :
    Calls Try.prog 33 #[.agg #[.string n, .string v], .pointer (some ⟨q, 0, none⟩)] w fun e w' => e = .returned (.bool (decide (n = nm))) ∧ Below w.heap.size w w' := by
  have hlt := World.block_lt_of_cell? _ _ hq
  simp only at hlt
  have n1 : w.heap.size ≠ q := by omega
  have n2 : q ≠ w.heap.size := by omega
  have hb := Rm.ba_beq n nm
  generalize decide (n = nm) = b at *
  go_enter Try.func33, Try.ntmps33
  go_wp2
  go_ret
  exact ⟨rfl, (Below.refl _ _).alloc (Nat.le_refl _) _⟩
set_option maxHeartbeats 1000000 in
theorem Rm.indexFunc (al : List (ByteArray × ByteArray)) (a : Option Addr) (d : Nat) (nm : ByteArray) (q : Nat) (w : World) (hl : Ak.Lies w (· < w.heap.size) al (.slice a al.length d)) (hq : w.cell? ⟨q, 0, none⟩ = some (.string nm)) :
    Calls Try.prog 37 #[.slice a al.length d, .func (.func 33) #[] #[.pointer (some ⟨q, 0, none⟩)]] w fun e w' => ∃ i : Int, e = .returned (.int .i64 i) ∧ decide (0 ≤ i) = al.any (fun x => decide (x.1 = nm)) ∧ Below w.heap.size w w' := by
  obtain ⟨a', d', e, hd1, hd2, hx⟩ := hl
  injection e with e1 e2 e3
  subst e1
  subst e3
  have hqlt := World.block_lt_of_cell? _ _ hq
  simp only at hqlt
  have hbig : al.length ≤ 9223372036854775807 := by unfold maxLen at hd2; omega
  have HX := Lib.hid hx
  clear hx
  go_enter Try.func37, Try.ntmps37
  go_wp2
  go_loopw [8] (fun i wr => ∃ k : Nat, k ≤ al.length ∧ i = .int .i64 (k : Int) ∧ Below w.heap.size w wr ∧ Hid ((al.take k).any (fun x => decide (x.1 = nm)) = false)) (fun i _ => al.length - (intOf i).toNat)
  case atStart => exact ⟨0, Nat.zero_le _, rfl, Below.refl _ _, by simp [Hid]⟩
  case round =>
    obtain ⟨k, hk, rfl, hb, HN⟩ := hrel
    by_cases hlt : k < al.length
    · obtain ⟨b, o, rfl, hbl, c1, c2⟩ := HX.out k al[k] (List.getElem?_eq_getElem hlt)
      have k1 := Tp.keep hb c1
      have k2 := Tp.keep hb c2
      have hqr := Tp.keep hb hq
      have hcall := fun u (hu : Below wr.heap.size wr u) => Rm.isName al[k].1 al[k].2 nm q u (Tp.keep hu hqr)
      have HT : Hid (al.take (k + 1) = al.take k ++ [al[k]]) := List.take_succ_eq_append_getElem hlt
      have HA : Hid (decide (al[k].1 = nm) = true → al.any (fun x => decide (x.1 = nm)) = true) := fun hh => List.any_eq_true.2 ⟨al[k], List.getElem_mem hlt, hh⟩
      generalize al[k] = y at *
      cases hy : decide (y.1 = nm) with
      | true =>
        rw [hy] at hcall
        go_wp2_with (go_at_call 33; refine (hcall _ (Below.refl _ _)).mono ?_; rintro e w' ⟨rfl, hb'⟩)
        go_ret
        exact ⟨_, rfl, by rw [HA.out hy]; simp, hb.trans (hb'.mono hb.size)⟩
      | false =>
        rw [hy] at hcall
        go_wp2_with (go_at_call 33; refine (hcall _ (Below.refl _ _)).mono ?_; rintro e w' ⟨rfl, hb'⟩)
        go_roundw
        case rel => exact ⟨k + 1, by omega, by go_num, hb.trans (hb'.mono hb.size), by unfold Hid; rw [HT.out, List.any_append, HN.out]; simp only [List.any_cons, List.any_nil, hy, Bool.or_false]⟩
        case measure => simp [intOf]; omega
    · have hke : k = al.length := by omega
      have HE := Lib.hid hke
      clear hke
      go_wp2
      go_ret
      refine ⟨_, rfl, ?_, hb⟩
      have := HN.out
      rw [HE.out, List.take_length] at this
      rw [this]
      rfl
theorem Rm.containsFunc (al : List (ByteArray × ByteArray)) (a : Option Addr) (d : Nat) (nm : ByteArray) (q : Nat) (w : World) (hl : Ak.Lies w (· < w.heap.size) al (.slice a al.length d)) (hq : w.cell? ⟨q, 0, none⟩ = some (.string nm)) :
    Calls Try.prog 34 #[.slice a al.length d, .func (.func 33) #[] #[.pointer (some ⟨q, 0, none⟩)]] w fun e w' => e = .returned (.bool (al.any (fun x => decide (x.1 = nm)))) ∧ Below w.heap.size w w' := by
  have h := fun u => Rm.indexFunc al a d nm q u
  generalize al.any (fun x => decide (x.1 = nm)) = r at *
  go_enter Try.func34, Try.ntmps34
  go_wp2_with (go_at_call 37; refine (h _ hl hq).mono ?_; rintro e w' ⟨i, rfl, hi, hb⟩)
  go_ret
  exact ⟨rfl, hb⟩
end Go.Proofs.Ythfobjkdcncoiaa

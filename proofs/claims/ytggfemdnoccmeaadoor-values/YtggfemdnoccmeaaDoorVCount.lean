/-
  THE WALKS of the reference's count and ValueMay.
-/
import Derived.Test.YtggfemdnoccmeaaDoorVShape3
import Derived.Test.YtggfemdnoccmeaaDoorVKit
namespace Go.Proofs.YtggfemdnoccmeaaDoor
open Go.RowKit

theorem Vt.sum_stop {f : Nat → Int} {i : Nat} (h : 1024 < Vt.sum f i) : ∀ n, i ≤ n → Vt.sum f n = Vt.sum f i := by
  intro n hn
  induction n with
  | zero => rw [Nat.le_zero.1 hn]
  | succ n ih =>
    by_cases e : i = n + 1
    · rw [e]
    · have := ih (by omega)
      rw [Vt.sum, this, if_neg (by omega)]

set_option maxRecDepth 100000 in
set_option maxHeartbeats 4000000 in
theorem Rv.count : ∀ (t : Vt) (v : Value) (deep : Int) (w : World), t.Lies w (· < w.heap.size) v → 0 ≤ deep → deep ≤ 8 →
    Calls Tryd.prog 35 #[v, .int .i64 deep] w fun e w' => e = .returned (.int .i64 (t.count deep)) ∧ Below w.heap.size w w' := by
  intro t
  induction t with
  | nil => intro v deep w h; exact h.elim
  | mk k x b s n it m ks ih =>
    rintro v deep w h hd0 hd1
    have H := Lib.hid h
    obtain ⟨ai, c, ak, d, rfl, hb, hn, hc, hk, hi⟩ := h
    have HI : Hid (∀ i : Nat, ∀ (v : Value) (deep : Int) (w : World), (it i).Lies w (· < w.heap.size) v → 0 ≤ deep → deep ≤ 8 →
      Calls Tryd.prog 35 #[v, .int .i64 deep] w fun e w' => e = .returned (.int .i64 ((it i).count deep)) ∧ Below w.heap.size w w') := ih
    have HC := Lib.hid hi
    have HK := Lib.hid hk
    have HN : Hid ((Vt.mk k x b s n it m ks).count deep = if deep < 1 ∨ Vt.formed k x b s n m ks = false then 1025 else min (Vt.sum (fun i => (it i).count (deep - 1)) n) 1025) := by
      unfold Hid; rw [Vt.count]
    have HR : Hid (∀ i, 1 ≤ Vt.sum (fun i => (it i).count (deep - 1)) i ∧ Vt.sum (fun i => (it i).count (deep - 1)) i ≤ 2049) := Vt.sum_range (fun i => Vt.count_range (it i) _)
    have HG : Hid (∀ i, 1 ≤ (it i).count (deep - 1) ∧ (it i).count (deep - 1) ≤ 1025) := fun i => Vt.count_range (it i) _
    clear ih hi hk
    generalize hZ : (Vt.mk k x b s n it m ks).count deep = Z at *
    clear hZ
    by_cases g1 : deep < 1
    · have g1' : decide (deep < 1) = true := decide_eq_true g1
      have HZ : Hid (Z = 1025) := by have := HN.out; rw [if_pos (.inl g1)] at this; exact this
      clear HN HI HR HG HC
      go_enter Tryd.func35, Tryd.ntmps35
      go_wp2
      go_ret
      rw [HZ.out]
      exact ⟨rfl, (Below.refl _ _).alloc (Nat.le_refl _) _⟩
    have g1' : decide (deep < 1) = false := decide_eq_false g1
    go_enter Tryd.func35, Tryd.ntmps35
    go_wp2_with fail
    refine (Rv.shape k x b s ai n c m ks ak d (fun g => g < w.heap.size) _ (fun g hg => by simp; omega) (HK.out.on fun g hg => ⟨hg, Below.heap_alloc _ _ _ hg⟩)).mono ?_
    rintro e w1 ⟨rfl, hw⟩
    have BX := Vm.box hw
    have hb1 := Vm.behind hw
    clear hw
    generalize hF : Vt.formed k x b s n m ks = F at *
    clear hF
    cases F with
    | false =>
      have HZ : Hid (Z = 1025) := by have := HN.out; rw [if_pos (.inr rfl)] at this; exact this
      clear HN HI HR HG HC BX
      go_wp2
      go_ret
      rw [HZ.out]
      exact ⟨rfl, hb1⟩
    | true =>
      have HZ : Hid (Z = min (Vt.sum (fun i => (it i).count (deep - 1)) n) 1025) := by have := HN.out; rw [if_neg (by rintro (h | h); omega; cases h)] at this; exact this
      clear HN
      have hnm : n ≤ 9223372036854775807 := by unfold maxLen at hc; omega
      have hgl : w.heap.size < w1.heap.size := BX.lt
      have HBX := Lib.hid BX
      clear BX
      go_wp2
      go_loopw [5, 6] (fun kk ix wr => ∃ i : Nat, i ≤ n ∧ ix = .int .i64 (i : Int) ∧ kk = .int .i64 (Vt.sum (fun i => (it i).count (deep - 1)) i) ∧ Below w1.heap.size w1 wr) (fun _ ix _ => n - (intOf ix).toNat)
      case atStart => exact ⟨0, Nat.zero_le _, by go_num, by simp [Vt.sum], Below.refl _ _⟩
      case round =>
        obtain ⟨i, hin, rfl, rfl, hbr⟩ := hrel
        have hrg := HR.out i
        obtain ⟨c0, c1, c2, c3, c4, c5⟩ := (HBX.out.on hgl hbr).cells
        clear c0 c1 c2 c3 c5
        by_cases hlt : i < n
        · have d1 : decide ((i : Int) < (n : Int)) = true := decide_eq_true (by omega)
          by_cases hs : Vt.sum (fun i => (it i).count (deep - 1)) i ≤ 1024
          · have hs' : decide (Vt.sum (fun i => (it i).count (deep - 1)) i ≤ 1024) = true := decide_eq_true hs
            have HU : Hid (Vt.sum (fun i => (it i).count (deep - 1)) (i + 1) = Vt.sum (fun i => (it i).count (deep - 1)) i + (it i).count (deep - 1)) := by
              unfold Hid
              rw [Vt.sum, if_pos hs]
            have hgg := HG.out i
            obtain ⟨bi, oi, v0, v1, v2, v3, v4, v5, rfl, hbi, z0, z1, z2, z3, z4, z5, hli⟩ := HC.out i hlt
            have hic : i < c := Nat.lt_of_lt_of_le hlt hn
            have hbl : wr.heap[bi]? = w.heap[bi]? := (hbr.block bi (by have := hb1.size; omega)).trans (hb1.block bi hbi)
            replace z0 := Vt.cell_on hbl z0
            replace z1 := Vt.cell_on hbl z1
            replace z2 := Vt.cell_on hbl z2
            replace z3 := Vt.cell_on hbl z3
            replace z4 := Vt.cell_on hbl z4
            replace z5 := Vt.cell_on hbl z5
            obtain ⟨k', x', b', s', ai', n', c', ak', m', d', rfl, rfl, rfl, rfl, rfl, rfl⟩ := hli.cells
            have HLI := Lib.hid (hli.on' (Vm.then hb1 hbr))
            clear hbl hli
            generalize hQ : (it i).count (deep - 1) = Q at *
            have HQ := Lib.hid hQ
            clear hQ
            generalize Vt.sum (fun i => (it i).count (deep - 1)) i = S at *
            go_wp2_with fail
            refine (HI.out i _ (deep - 1) _ HLI.out (by omega) (by omega)).mono ?_
            rintro e w2 ⟨rfl, hb2⟩
            rw [HQ.out]
            have hbs := Vm.then hbr hb2
            clear hb2 hbr
            go_wp2
            refine ⟨⟨i + 1, hlt, by go_num, by rw [HU.out], hbs⟩, ?_⟩
            simp [intOf]
            omega
          · have hs' : decide (Vt.sum (fun i => (it i).count (deep - 1)) i ≤ 1024) = false := decide_eq_false hs
            have HE : Hid (Z = 1025) := by
              have := HZ.out
              rw [Vt.sum_stop (by omega) n hin] at this
              unfold Hid
              omega
            generalize Vt.sum (fun i => (it i).count (deep - 1)) i = S at *
            have hmin : min S 1025 = (if S ≤ 1025 then S else 1025) := by omega
            go_wp2
            all_goals go_ret
            all_goals refine ⟨?_, Vm.then hb1 hbr⟩
            all_goals have hz := HE.out
            all_goals simp
            all_goals omega
        · have e : i = n := by omega
          subst e
          have d1 : decide ((i : Int) < (i : Int)) = false := decide_eq_false (by omega)
          generalize Vt.sum (fun i => (it i).count (deep - 1)) i = S at *
          go_wp2
          all_goals go_ret
          all_goals refine ⟨?_, Vm.then hb1 hbr⟩
          all_goals have hz := HZ.out
          all_goals simp
          all_goals omega

set_option maxRecDepth 100000 in
theorem Rv.may (t : Vt) (v : Value) (w : World) (h : t.Lies w (· < w.heap.size) v) : Calls Tryd.prog 16 #[v] w fun e w' => e = .returned (.bool t.may) ∧ Below w.heap.size w w' := by
  obtain ⟨k, x, b, s, ai, n, c, ak, m, d, rfl⟩ := h.form
  have H := Lib.hid h
  clear h
  have HM : Hid (decide (t.count 8 ≤ 1024) = t.may) := (Vt.may_count t).symm
  go_enter Tryd.func16, Tryd.ntmps16
  go_wp2_with fail
  refine (Rv.count t _ 8 _ (H.out.alloc _) (by decide) (by decide)).mono ?_
  rintro e w1 ⟨rfl, hw⟩
  have hb1 := Vm.behind hw
  clear hw H
  generalize t.count 8 = Q at *
  go_wp2
  go_ret
  rw [← HM.out]
  exact ⟨rfl, hb1⟩
end Go.Proofs.YtggfemdnoccmeaaDoor

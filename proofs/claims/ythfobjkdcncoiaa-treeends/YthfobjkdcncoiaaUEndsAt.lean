/-
  THE WALK of stolelaw7.at: where the k-th begin stands.
-/
import Derived.Test.YthfobjkdcncoiaaUEnds
namespace Go.Proofs.Ythfobjkdcncoiaa
open Go.RowKit
theorem Te.tags_mono (ts : List Tk) {i j : Nat} (h : i ≤ j) : Bt.tags (ts.take i) ≤ Bt.tags (ts.take j) := by
  unfold Bt.tags
  exact List.Sublist.countP_le (List.take_sublist_take_left h)
set_option maxRecDepth 100000 in
set_option maxHeartbeats 4000000 in
theorem Te.at (ts : List Tk) (a : Option Addr) (d : Nat) (w : World) (R : Nat → Prop) (h : Tk.Lies w R ts (.slice a ts.length d)) (hlen : ts.length ≤ 64) {i k : Nat} {t : Tk} (h1 : ts[i]? = some t) (h2 : t.kind = 1) (h3 : Bt.tags (ts.take i) + 1 = k) :
    Calls Try.prog 18 #[.slice a ts.length d, .int .i64 (k : Int)] w fun e w' => e = .returned (.int .i64 (i : Int)) ∧ w' = w := by
  have hil := (List.getElem?_eq_some_iff.1 h1).1
  have hdl : ts.length ≤ d := by
    obtain ⟨a', d', e, h1, h2, hx⟩ := h
    injection e with e1 e2 e3
    omega
  have H := Lib.hid h
  have H1 := Lib.hid h1
  have H2 := Lib.hid h2
  have hk64 : k ≤ 64 := by have := Sy.tags_le (ts.take i); rw [List.length_take] at this; omega
  clear h h1 h2
  go_enter Try.func18, Try.ntmps18
  go_wp2
  go_loopw [1, 5] (fun kv ix wn => ∃ j : Nat, j ≤ i ∧ ix = .int .i64 (j : Int) ∧ kv = .int .i64 ((k - Bt.tags (ts.take j) : Nat) : Int) ∧ wn = w) (fun _ ix _ => ts.length - (intOf ix).toNat)
  case atStart => exact ⟨0, Nat.zero_le _, rfl, rfl, rfl⟩
  case round =>
    obtain ⟨j, hj, rfl, rfl, rfl⟩ := hrel
    have d1 : decide ((j : Int) < (ts.length : Int)) = true := decide_eq_true (by omega)
    obtain ⟨u, hu⟩ : ∃ u, ts[j]? = some u := ⟨_, List.getElem?_eq_getElem (by omega)⟩
    obtain ⟨b1, o1, ea, c0, c2⟩ := Sy.tokenAt H.out hu
    subst ea
    have hue : ts[j]'(by omega) = u := (List.getElem?_eq_some_iff.1 hu).2
    have hti := Sy.tags_take ts j (by omega)
    rw [hue] at hti
    have hjd : j < d := by omega
    have hjl : j < ts.length := by omega
    have hmj := Te.tags_mono ts hj
    generalize hT : Bt.tags (ts.take j) = T at *
    by_cases hlt : j < i
    · have hm := Te.tags_mono ts (show j + 1 ≤ i by omega)
      by_cases q : u.kind = 1
      · rw [q] at c0
        rw [if_pos q] at hti
        have hw1 : IntKind.i64.wrap (((k - T : Nat) : Int) - 1) = ((k - (T + 1) : Nat) : Int) := by rw [IntKind.wrap_i64]; omega
        have z : (((k - (T + 1) : Nat) : Int) == 0) = false := by rw [beq_eq_false_iff_ne]; omega
        have HTI := Lib.hid hti
        clear q hti hm hmj hT hu hue c2
        go_wp2
        go_roundw
        case rel => exact ⟨j + 1, by omega, by go_num, by rw [HTI.out], trivial⟩
        case measure => simp [intOf]; omega
      · have q1 : (u.kind == 1) = false := by rw [beq_eq_false_iff_ne]; exact q
        rw [if_neg q] at hti
        have z : (((k - T : Nat) : Int) == 0) = false := by rw [beq_eq_false_iff_ne]; omega
        have HTI := Lib.hid hti
        clear q hti hm hmj hT hu hue c2
        go_wp2
        go_roundw
        case rel => exact ⟨j + 1, by omega, by go_num, by rw [HTI.out]; rfl, trivial⟩
        case measure => simp [intOf]; omega
    · have e : j = i := by omega
      subst e
      rw [H1.out] at hu
      injection hu with hu
      subst hu
      rw [H2.out] at c0
      rw [hT] at h3
      have hw1 : IntKind.i64.wrap (((k - T : Nat) : Int) - 1) = 0 := by rw [IntKind.wrap_i64]; omega
      clear hti hmj hT hue c2
      go_wp2
      go_ret
      exact ⟨rfl, rfl⟩
end Go.Proofs.Ythfobjkdcncoiaa

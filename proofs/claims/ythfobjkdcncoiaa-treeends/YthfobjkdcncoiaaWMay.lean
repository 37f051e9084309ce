/-
  THE WALKS of the program's areAttrs and mayBe.
-/
import Derived.Test.YthfobjkdcncoiaaWAny
namespace Go.Proofs.Ythfobjkdcncoiaa
open Go.RowKit
theorem Pg.takeLies {w : World} {R : Nat → Prop} {al : List (ByteArray × ByteArray)} {a : Option Addr} {d : Nat} (h : Ak.Lies w R al (.slice a al.length d)) (k : Nat) (hk : k ≤ al.length) : Ak.Lies w R (al.take k) (.slice a (al.take k).length d) := by
  obtain ⟨a', d', e, h1, h2, hx⟩ := h
  injection e with e1 e2 e3
  subst e1
  subst e3
  refine ⟨a, d, rfl, by rw [List.length_take]; omega, h2, fun j x hj => hx j x ?_⟩
  rw [List.getElem?_take] at hj
  split at hj
  · exact hj
  · cases hj
theorem Pg.any_false {al : List (ByteArray × ByteArray)} {k : Nat} {nm : ByteArray} (h : (al.take k).any (fun x => decide (x.1 = nm)) = false) : ∀ j y, j < k → al[j]? = some y → y.1 ≠ nm := fun j y hj hy e => by
  have : (al.take k).any (fun x => decide (x.1 = nm)) = true := List.any_eq_true.2 ⟨y, List.mem_of_getElem? (i := j) (by rw [List.getElem?_take, if_pos hj]; exact hy), decide_eq_true e⟩
  rw [h] at this
  cases this
theorem Pg.any_true {al : List (ByteArray × ByteArray)} {k : Nat} {nm : ByteArray} (h : (al.take k).any (fun x => decide (x.1 = nm)) = true) : ∃ j y, j < k ∧ al[j]? = some y ∧ y.1 = nm := by
  obtain ⟨y, hy, e⟩ := List.any_eq_true.1 h
  obtain ⟨j, hj⟩ := List.getElem?_of_mem hy
  rw [List.getElem?_take] at hj
  split at hj
  · next q => exact ⟨j, y, q, hj, of_decide_eq_true e⟩
  · cases hj
set_option maxRecDepth 100000 in
set_option maxHeartbeats 4000000 in
theorem Pg.areAttrs (al : List (ByteArray × ByteArray)) (a : Option Addr) (d : Nat) (R : Nat → Prop) (w : World) (h : Ak.Lies w R al (.slice a al.length d)) (b : Bool) (hb : b = true ↔ al.length ≤ 32 ∧ Bt.named al al.length) :
    Calls Try.prog 26 #[.slice a al.length d] w fun e w' => e = .returned (.bool b) ∧ Below w.heap.size w w' := by
  have hL : Ak.Lies w (· < w.heap.size) al (.slice a al.length d) := by
    obtain ⟨a', d', e, h1, h2, hx⟩ := h
    refine ⟨a', d', e, h1, h2, fun j x hj => ?_⟩
    obtain ⟨b', o', e', _, c1, c2⟩ := hx j x hj
    exact ⟨b', o', e', World.block_lt_of_cell? _ _ c1, c1, c2⟩
  obtain ⟨hd1, hd2⟩ : al.length ≤ d ∧ d ≤ maxLen := by
    obtain ⟨a', d', e, h1, h2, hx⟩ := h
    injection e with e1 e2 e3
    omega
  have hbig : al.length ≤ 9223372036854775807 := by unfold maxLen at hd2; omega
  have H := Lib.hid hL
  have HB := Lib.hid hb
  clear h hL hb hd2
  by_cases hm : al.length ≤ 32
  · have l32 : decide ((32 : Int) < (al.length : Int)) = false := decide_eq_false (by omega)
    have HM := Lib.hid hm
    go_enter Try.func26, Try.ntmps26
    go_wp2
    go_loopw [11] (fun i wr => ∃ k : Nat, k ≤ al.length ∧ i = .int .i64 (k : Int) ∧ Hid (Bt.named al k) ∧ Hid (Below w.heap.size w wr)) (fun i _ => al.length - (intOf i).toNat)
    case atStart => exact ⟨0, Nat.zero_le _, rfl, (fun i x h _ => absurd h (Nat.not_lt_zero _)), Below.refl _ _⟩
    case round =>
      obtain ⟨k, hk, rfl, HN, HW⟩ := hrel
      by_cases hlt : k < al.length
      · have d1 : decide ((k : Int) < (al.length : Int)) = true := decide_eq_true (by omega)
        have HL : Hid (Ak.Lies wr (· < w.heap.size) al (.slice a al.length d)) := H.out.on fun q hq => ⟨hq, HW.out.block q hq⟩
        have HK : Hid (Ak.Lies wr (· < w.heap.size) (al.take k) (.slice a k d)) := by
          have := Pg.takeLies HL.out k hk
          rw [List.length_take, Nat.min_eq_left hk] at this
          exact this
        obtain ⟨a', d', e', _, _, hx⟩ := id HL.out
        injection e' with e1 e2 e3
        subst e1
        obtain ⟨bb, oo, rfl, hbb, c1, c2⟩ := hx k al[k] (List.getElem?_eq_getElem hlt)
        clear hx e2 e3
        have hkd : k < d := by omega
        have hkd2 : k ≤ d := by omega
        have hws := HW.out.size
        have hbw : bb < wr.heap.size := Nat.lt_of_lt_of_le hbb hws
        have n1 : wr.heap.size ≠ bb := by omega
        have n2 : bb ≠ wr.heap.size := by omega
        obtain ⟨y, hy⟩ : ∃ y, al[k] = y := ⟨_, rfl⟩
        rw [hy] at c1 c2
        have HY : Hid (al[k]? = some y) := by unfold Hid; rw [List.getElem?_eq_getElem hlt, hy]
        clear hy
        by_cases YE : y.1.toList = []
        · have y1 : (y.1.toList == []) = true := by rw [YE]; rfl
          have y2 : y.1.toList.isEmpty = true := by rw [YE]; rfl
          have hbf : b = false := by
            cases b
            · rfl
            · exact absurd ((Um.empty _).1 YE) ((HB.out.1 rfl).2 k y hlt HY.out).1
          subst hbf
          have HWW : Hid (∀ o, Below w.heap.size w (wr.alloc o)) := fun o => HW.out.alloc hws _
          go_wp2
          go_ret
          exact ⟨rfl, HWW.out _⟩
        · have y1 : (y.1.toList == []) = false := beq_eq_false_iff_ne.2 YE
          have y2 : y.1.toList.isEmpty = false := by cases hq : y.1.toList with | nil => exact absurd hq YE | cons _ _ => rfl
          have cf : ∀ u q, Below wr.heap.size wr u → u.cell? ⟨q, 0, none⟩ = some (.string y.1) → Calls Try.prog 34 #[.slice (some ⟨bb, oo, none⟩) k d, .func (.func 33) #[] #[.pointer (some ⟨q, 0, none⟩)]] u fun e w' => e = .returned (.bool ((al.take k).any (fun x => decide (x.1 = y.1)))) ∧ Below u.heap.size u w' := fun u q hu hq => by
            have := Rm.containsFunc (al.take k) (some ⟨bb, oo, none⟩) d y.1 q u (by rw [List.length_take, Nat.min_eq_left hk]; exact HK.out.on fun j hj => ⟨Nat.lt_of_lt_of_le (Nat.lt_of_lt_of_le hj hws) hu.size, hu.block j (Nat.lt_of_lt_of_le hj hws)⟩) hq
            rw [List.length_take, Nat.min_eq_left hk] at this
            exact this
          have HYE : Hid (y.1 ≠ Ts.e) := fun e => YE ((Um.empty _).2 e)
          clear YE
          cases hany : (al.take k).any (fun x => decide (x.1 = y.1)) with
          | true =>
            have hbf : b = false := by
              cases b
              · rfl
              · obtain ⟨j, z, hj, hz, e⟩ := Pg.any_true hany
                exact absurd e (((HB.out.1 rfl).2 k y hlt HY.out).2 j z hj hz)
            subst hbf
            rw [hany] at cf
            clear hany
            go_wp2_with (go_at_call 34; refine (cf _ _ ((Below.refl _ _).alloc (Nat.le_refl _) _) (by simp)).mono ?_; rintro e w' ⟨rfl, hb'⟩; clear cf)
            go_ret
            exact ⟨rfl, (HW.out.alloc hws _).trans (hb'.mono (by simp; omega))⟩
          | false =>
            have HN2 : Hid (Bt.named al (k + 1)) := fun i x hi hx => by
              by_cases e : i = k
              · subst e
                rw [HY.out] at hx
                injection hx with hx
                subst hx
                exact ⟨HYE.out, fun j y' hj hy' => Pg.any_false hany j y' hj hy'⟩
              · exact HN.out i x (by omega) hx
            rw [hany] at cf
            clear hany
            go_wp2_with (go_at_call 34; refine (cf _ _ ((Below.refl _ _).alloc (Nat.le_refl _) _) (by simp)).mono ?_; rintro e w' ⟨rfl, hb'⟩; clear cf)
            go_roundw
            case rel => exact ⟨k + 1, by omega, by go_num, HN2, (HW.out.alloc hws _).trans (hb'.mono (by simp; omega))⟩
            case measure => simp [intOf]; omega
      · have e : k = al.length := by omega
        subst e
        have d1 : decide ((al.length : Int) < (al.length : Int)) = false := decide_eq_false (by omega)
        have hbt : b = true := HB.out.2 ⟨HM.out, HN.out⟩
        subst hbt
        go_wp2
        go_ret
        exact ⟨rfl, HW.out⟩
  · have l32 : decide ((32 : Int) < (al.length : Int)) = true := decide_eq_true (by omega)
    have hbf : b = false := by
      cases b
      · rfl
      · exact absurd (HB.out.1 rfl).1 hm
    subst hbf
    clear hm
    go_enter Try.func26, Try.ntmps26
    go_wp2
    go_ret
    exact ⟨rfl, Below.refl _ _⟩
end Go.Proofs.Ythfobjkdcncoiaa

/-
  THE WALKS of the program's value.areKeys.
-/
import Derived.Test.YtggfemdnoccmeaaDoorVTree
import Derived.BigQuiet
import Derived.Laws.Cover1
namespace Go.Proofs.YtggfemdnoccmeaaDoor
open Go.RowKit

set_option maxRecDepth 100000 in
theorem Vm.keys (m : Nat) (ks : Nat → ByteArray) (ak : Option Addr) (d : Nat) (R : Nat → Prop) (w : World) (h : Vt.Keys w R m ks ak d) :
    Calls Tryd.prog 67 #[.slice ak m d] w fun e w' => e = .returned (.bool (Vt.keysOk ks m)) ∧ w' = w := by
  have hm : m ≤ 9223372036854775807 := by have := h.le; have := h.max; unfold maxLen at this; omega
  go_enter Tryd.func67, Tryd.ntmps67
  go_wp2
  go_loop [3, 8] (fun p i => ∃ j : Nat, j ≤ m ∧ i = .int .i64 j ∧ p = .string (Vt.prev ks j) ∧ Hid (Vt.keysOk ks j = true)) (fun _ i => m - (intOf i).toNat)
  case atStart => exact ⟨0, Nat.zero_le _, by go_num, rfl, rfl⟩
  case round =>
    obtain ⟨j, hj, rfl, rfl, HK⟩ := hrel
    by_cases hjm : j < m
    · obtain ⟨b, o, rfl, _, hc⟩ := h.cell j hjm
      have hle : j < d := Nat.lt_of_lt_of_le hjm h.le
      have hmd := h.le
      have HN : Hid (Vt.key ks j = (!(Op.bytesLess (ks j).toList (Vt.prev ks j).toList || (ks j).toList == (Vt.prev ks j).toList) && decide ((ks j).size ≤ 32))) := rfl
      have HP : Hid (Vt.prev ks (j + 1) = ks j) := rfl
      have HA : Hid (Vt.key ks j = false → Vt.keysOk ks m = false) := fun hx => Vt.keysOk_no hx hjm
      have HB : Hid (Vt.key ks j = true → Vt.keysOk ks (j + 1) = true) := fun hx => by simp only [Vt.keysOk]; rw [HK.out, hx]; rfl
      generalize hX : ks j = X at *
      clear hX
      generalize Vt.prev ks j = Y at *
      cases hl : (Op.bytesLess X.toList Y.toList || X.toList == Y.toList) with
      | true =>
        have HX : Hid (Vt.key ks j = false) := by
          have := HN.out
          rw [hl] at this
          exact this
        clear HN
        go_wp2
        go_ret
        rw [HA.out HX.out]
        exact ⟨rfl, rfl⟩
      | false =>
        by_cases hs : X.size ≤ 32
        · have hs' : decide (32 < (X.size : Int)) = false := decide_eq_false (by omega)
          have HX : Hid (Vt.key ks j = true) := by
            have := HN.out
            rw [hl, decide_eq_true hs] at this
            exact this
          clear HN
          go_wp2
          refine ⟨⟨j + 1, by omega, by go_num, by rw [HP.out], HB.out HX.out⟩, ?_⟩
          simp [intOf]
          omega
        · have hs' : decide (32 < (X.size : Int)) = true := decide_eq_true (by omega)
          have HX : Hid (Vt.key ks j = false) := by
            have := HN.out
            rw [hl, decide_eq_false hs] at this
            exact this
          clear HN
          go_wp2
          go_ret
          rw [HA.out HX.out]
          exact ⟨rfl, rfl⟩
    · have e : j = m := by omega
      subst e
      go_wp2
      go_ret
      rw [HK.out]
      exact ⟨rfl, rfl⟩

end Go.Proofs.YtggfemdnoccmeaaDoor

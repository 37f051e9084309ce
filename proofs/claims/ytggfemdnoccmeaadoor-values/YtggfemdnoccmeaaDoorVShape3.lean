/-
  THE WALKS of the reference's shape, count, ValueMay.
-/
import Derived.Test.YtggfemdnoccmeaaDoorVShape2
import Derived.Lib.Strings
import Derived.Test.YtggfemdnoccmeaaDoorVPlain2
import Derived.BigQuiet
namespace Go.Proofs.YtggfemdnoccmeaaDoor
open Go.RowKit


theorem Rv.low {a b : List UInt8} (h : a = []) : (Op.bytesLess a b || a == b) = true := by
  subst h
  cases b with
  | nil => simp
  | cons c l => simp [Op.bytesLess]
theorem Rv.high {a b : List UInt8} (h : Op.bytesLess b a = true) : (Op.bytesLess a b || a == b) = false := by
  rw [Bool.or_eq_false_iff]
  refine ⟨?_, beq_eq_false_iff_ne.2 (Vo.ne h).symm⟩
  cases e : Op.bytesLess a b with
  | false => rfl
  | true => have := Vo.trans _ _ _ h e; rw [Vo.irr] at this; cases this
theorem Rv.not {a b : List UInt8} (h : Op.bytesLess b a = false) : (Op.bytesLess a b || a == b) = true := by
  by_cases e : a = b
  · subst e; simp
  · rw [Vo.tot b a h (fun x => e x.symm)]; rfl
theorem Rv.key0 {ks : Nat → ByteArray} : Vt.key ks 0 = (!((ks 0).toList == []) && decide ((ks 0).size ≤ 32)) := by
  unfold Vt.key Vt.prev
  have e : (⟨#[]⟩ : ByteArray).toList = [] := by rw [Lib.toList_data]
  rw [e]
  cases h : (ks 0).toList with
  | nil => simp [Op.bytesLess]
  | cons c l => simp [Op.bytesLess]


set_option maxRecDepth 100000 in
set_option maxHeartbeats 4000000 in
theorem Rv.shape6 (x : Int) (b : Nat) (s : ByteArray) (ai : Option Addr) (n c : Nat) (m : Nat) (ks : Nat → ByteArray) (ak : Option Addr) (d : Nat) (w : World) (R : Nat → Prop) (hR : ∀ g, R g → g < w.heap.size) (h : Vt.Keys w R m ks ak d) :
    Calls Tryd.prog 54 #[.agg #[.int .i64 6, .int .i64 x, .int .u64 (b : Int), .string s, .slice ai n c, .slice ak m d]] w fun e w' => e = .returned (.bool (Vt.formed 6 x b s n m ks)) ∧ Below w.heap.size w w' := by
  by_cases hb : ¬ (b = 0)
  · have hb' : ((b : Int) == 0) = false := beq_eq_false_iff_ne.2 (by omega)
    go_enter Tryd.func54, Tryd.ntmps54
    go_wp2
    all_goals go_ret
    all_goals refine ⟨?_, (by repeat (first | exact Below.refl _ _ | refine Below.alloc ?_ (by simp) _))⟩
    all_goals simp_all [Vt.formed]
    all_goals first | done | omega | (intros; omega)
  replace hb := Decidable.not_not.1 hb
  subst hb
  by_cases hs : ¬ (s.toList = [])
  · have hs' : (s.toList == []) = false := beq_eq_false_iff_ne.2 hs
    go_enter Tryd.func54, Tryd.ntmps54
    go_wp2
    all_goals go_ret
    all_goals refine ⟨?_, (by repeat (first | exact Below.refl _ _ | refine Below.alloc ?_ (by simp) _))⟩
    all_goals simp_all [Vt.formed]
    all_goals first | done | omega | (intros; omega)
  replace hs := Decidable.not_not.1 hs
  have hs0 : s.size = 0 := by have := congrArg List.length hs; rw [Lib.toList_data] at this; simpa using this
  have hs' : (s.toList == []) = true := beq_iff_eq.2 hs
  by_cases hn : ¬ (n ≤ 64)
  · have hn' : decide (64 < (n : Int)) = true := decide_eq_true (by omega)
    clear h hR
    go_enter Tryd.func54, Tryd.ntmps54
    go_wp2
    all_goals go_ret
    all_goals refine ⟨?_, (by repeat (first | exact Below.refl _ _ | refine Below.alloc ?_ (by simp) _))⟩
    all_goals simp_all [Vt.formed]
    all_goals first | done | omega | (intros; omega)
  replace hn := Decidable.not_not.1 hn
  have hn' : decide (64 < (n : Int)) = false := decide_eq_false (by omega)
  by_cases hm : ¬ (m = n)
  · have hm' : ((m : Int) == (n : Int)) = false := beq_eq_false_iff_ne.2 (by omega)
    clear h hR
    go_enter Tryd.func54, Tryd.ntmps54
    go_wp2
    all_goals go_ret
    all_goals refine ⟨?_, (by repeat (first | exact Below.refl _ _ | refine Below.alloc ?_ (by simp) _))⟩
    all_goals simp_all [Vt.formed]
    all_goals first | done | omega | (intros; omega)
  replace hm := Decidable.not_not.1 hm
  subst hm
  have hm' : ((m : Int) == (m : Int)) = true := beq_iff_eq.2 rfl
  have HF : Hid (Vt.formed 6 x 0 s m m ks = (Vt.keysOk ks m && (x == 0))) := by
    unfold Hid
    simp_all [Vt.formed]
    rfl
  have HZ := Lib.hid hn
  have hmx : m ≤ 9223372036854775807 := by omega
  clear hn
  generalize Vt.formed 6 x 0 s m m ks = Z at *
  go_enter Tryd.func54, Tryd.ntmps54
  go_wp2_with fail
  have hbW : Below w.heap.size w (w.alloc (.cells #[.int .i64 6, .int .i64 x, .int .u64 (0 : Int), .string s, .slice ai m c, .slice ak m d] 26)) := (Below.refl _ _).alloc (Nat.le_refl _) _
  obtain ⟨c0, c1, c2, c3, c4, c5⟩ : (w.alloc (.cells #[.int .i64 6, .int .i64 x, .int .u64 (0 : Int), .string s, .slice ai m c, .slice ak m d] 26)).cell? ⟨w.heap.size, 0, none⟩ = some (.int .i64 6) ∧ (w.alloc (.cells #[.int .i64 6, .int .i64 x, .int .u64 (0 : Int), .string s, .slice ai m c, .slice ak m d] 26)).cell? ⟨w.heap.size, 1, none⟩ = some (.int .i64 x) ∧ (w.alloc (.cells #[.int .i64 6, .int .i64 x, .int .u64 (0 : Int), .string s, .slice ai m c, .slice ak m d] 26)).cell? ⟨w.heap.size, 2, none⟩ = some (.int .u64 (0 : Int)) ∧ (w.alloc (.cells #[.int .i64 6, .int .i64 x, .int .u64 (0 : Int), .string s, .slice ai m c, .slice ak m d] 26)).cell? ⟨w.heap.size, 3, none⟩ = some (.string s) ∧ (w.alloc (.cells #[.int .i64 6, .int .i64 x, .int .u64 (0 : Int), .string s, .slice ai m c, .slice ak m d] 26)).cell? ⟨w.heap.size, 4, none⟩ = some (.slice ai m c) ∧ (w.alloc (.cells #[.int .i64 6, .int .i64 x, .int .u64 (0 : Int), .string s, .slice ai m c, .slice ak m d] 26)).cell? ⟨w.heap.size, 5, none⟩ = some (.slice ak m d) := by simp
  have hK : Vt.Keys (w.alloc (.cells #[.int .i64 6, .int .i64 x, .int .u64 (0 : Int), .string s, .slice ai m c, .slice ak m d] 26)) (fun g => g < w.heap.size) m ks ak d := h.on fun g hg => ⟨hR g hg, Below.heap_alloc _ _ _ (hR g hg)⟩
  generalize w.alloc (.cells #[.int .i64 6, .int .i64 x, .int .u64 (0 : Int), .string s, .slice ai m c, .slice ak m d] 26) = W at *
  clear h hR
  have hKl := hK.le
  have hKm := hK.max
  unfold maxLen at hKm
  go_loopw [4] (fun i wr => ∃ j : Nat, j ≤ m ∧ i = .int .i64 j ∧ Hid (Vt.keysOk ks j = true) ∧ Below W.heap.size W wr) (fun i _ => m - (intOf i).toNat)
  case atStart => exact ⟨0, Nat.zero_le _, by go_num, rfl, Below.refl _ _⟩
  case round =>
    obtain ⟨j, hj, rfl, HK, hbr⟩ := hrel
    replace c0 := Vt.cell_on (hbr.block _ (Vt.cell_lt c0)) c0
    replace c1 := Vt.cell_on (hbr.block _ (Vt.cell_lt c1)) c1
    replace c5 := Vt.cell_on (hbr.block _ (Vt.cell_lt c5)) c5
    clear c2 c3 c4
    by_cases hjm : j < m
    · obtain ⟨b1, o1, rfl, hb1, hc1⟩ := hK.cell j hjm
      have hle : j < d := by omega
      cases j with
      | zero =>
        have HA : Hid (Vt.key ks 0 = false → Vt.keysOk ks m = false) := fun hx => Vt.keysOk_no hx hjm
        have HB : Hid (Vt.key ks 0 = true → Vt.keysOk ks (0 + 1) = true) := fun hx => by rw [Vt.keysOk, hx]; rfl
        replace hc1 := Vt.cell_on (hbr.block b1 (Vt.cell_lt hc1)) hc1
        rw [Nat.add_zero] at hc1
        have HE : Hid (Vt.key ks 0 = (!((ks 0).toList == []) && decide ((ks 0).size ≤ 32))) := Rv.key0
        generalize ks 0 = X at *
        by_cases he : X.toList = []
        · have he' : (X.toList == []) = true := beq_iff_eq.2 he
          have HX : Hid (Z = false) := by have := HF.out; rw [HA.out (by rw [HE.out, he']; rfl)] at this; exact this
          clear HE HF HA HB HK
          go_wp2_with fail
          go_quiet (fail)
          go_wp2
          go_ret
          rw [HX.out]
          exact ⟨rfl, Vm.then hbW (Vm.drewN hbr _)⟩
        have he' : (X.toList == []) = false := beq_eq_false_iff_ne.2 he
        by_cases hz : X.size ≤ 32
        · have hz' : decide (32 < (X.size : Int)) = false := decide_eq_false (by omega)
          have HY := Lib.hid (HB.out (by rw [HE.out, he', decide_eq_true hz]; rfl))
          clear HE HF HA HB HK
          go_wp2_with fail
          go_quiet (fail)
          go_wp2
          refine ⟨⟨0 + 1, by omega, by go_num, HY, Vm.drewN hbr _⟩, ?_⟩
          simp [intOf]
          omega
        · have hz' : decide (32 < (X.size : Int)) = true := decide_eq_true (by omega)
          have HX : Hid (Z = false) := by have := HF.out; rw [HA.out (by rw [HE.out, he', decide_eq_false hz]; rfl)] at this; exact this
          clear HE HF HA HB HK
          go_wp2_with fail
          go_quiet (fail)
          go_wp2
          go_ret
          rw [HX.out]
          exact ⟨rfl, Vm.then hbW (Vm.drewN hbr _)⟩
      | succ j =>
        obtain ⟨b2, o2, e2, hb2, hc2⟩ := hK.cell j (by omega)
        cases e2
        have HA : Hid (Vt.key ks (j + 1) = false → Vt.keysOk ks m = false) := fun hx => Vt.keysOk_no hx hjm
        have HB : Hid (Vt.key ks (j + 1) = true → Vt.keysOk ks (j + 1 + 1) = true) := fun hx => by rw [Vt.keysOk, HK.out, hx]; rfl
        replace hc1 := Vt.cell_on (hbr.block b1 (Vt.cell_lt hc1)) hc1
        replace hc2 := Vt.cell_on (hbr.block b1 (Vt.cell_lt hc2)) hc2
        have HE : Hid (Vt.key ks (j + 1) = (!(Op.bytesLess (ks (j + 1)).toList (ks j).toList || (ks (j + 1)).toList == (ks j).toList) && decide ((ks (j + 1)).size ≤ 32))) := rfl
        generalize ks (j + 1) = X at *
        generalize ks j = Y at *
        have hj0 : decide (0 < ((j + 1 : Nat) : Int)) = true := decide_eq_true (by omega)
        by_cases he : X.toList = []
        · have he' : (X.toList == []) = true := beq_iff_eq.2 he
          have hk0 : (Op.bytesLess X.toList Y.toList || X.toList == Y.toList) = true := Rv.low he
          have HX : Hid (Z = false) := by have := HF.out; rw [HA.out (by rw [HE.out, hk0]; rfl)] at this; exact this
          clear HE hk0 HF HA HB HK
          go_wp2_with fail
          go_quiet (fail)
          go_wp2
          go_ret
          rw [HX.out]
          exact ⟨rfl, Vm.then hbW (Vm.drewN hbr _)⟩
        have he' : (X.toList == []) = false := beq_eq_false_iff_ne.2 he
        by_cases hz : X.size ≤ 32
        · have hz' : decide (32 < (X.size : Int)) = false := decide_eq_false (by omega)
          cases hq : Op.bytesLess Y.toList X.toList with
          | true =>
            have hk0 : (Op.bytesLess X.toList Y.toList || X.toList == Y.toList) = false := Rv.high hq
            have HY := Lib.hid (HB.out (by rw [HE.out, hk0, decide_eq_true hz]; rfl))
            clear HE hk0 HF HA HB HK
            go_wp2_with fail
            go_quiet (fail)
            go_wp2
            refine ⟨⟨j + 1 + 1, by omega, by go_num, HY, Vm.drewN hbr _⟩, ?_⟩
            simp [intOf]
            omega
          | false =>
            have hk0 : (Op.bytesLess X.toList Y.toList || X.toList == Y.toList) = true := Rv.not hq
            have HX : Hid (Z = false) := by have := HF.out; rw [HA.out (by rw [HE.out, hk0]; rfl)] at this; exact this
            clear HE hk0 HF HA HB HK
            go_wp2_with fail
            go_quiet (fail)
            go_wp2
            go_ret
            rw [HX.out]
            exact ⟨rfl, Vm.then hbW (Vm.drewN hbr _)⟩
        · have hz' : decide (32 < (X.size : Int)) = true := decide_eq_true (by omega)
          have HX : Hid (Z = false) := by have := HF.out; rw [HA.out (by rw [HE.out, decide_eq_false hz]; simp)] at this; exact this
          clear HE HF HA HB HK
          go_wp2_with fail
          go_quiet (fail)
          go_wp2
          go_ret
          rw [HX.out]
          exact ⟨rfl, Vm.then hbW (Vm.drewN hbr _)⟩
    · have e : j = m := by omega
      subst e
      go_wp2
      go_ret
      rw [HF.out, HK.out]
      refine ⟨?_, Vm.then hbW hbr⟩
      simp

theorem Rv.shape (k x : Int) (b : Nat) (s : ByteArray) (ai : Option Addr) (n c : Nat) (m : Nat) (ks : Nat → ByteArray) (ak : Option Addr) (d : Nat) (R : Nat → Prop) (w : World) (hR : ∀ g, R g → g < w.heap.size) (h : Vt.Keys w R m ks ak d) :
    Calls Tryd.prog 54 #[.agg #[.int .i64 k, .int .i64 x, .int .u64 (b : Int), .string s, .slice ai n c, .slice ak m d]] w fun e w' => e = .returned (.bool (Vt.formed k x b s n m ks)) ∧ Below w.heap.size w w' := by
  by_cases k0 : k = 0
  · subst k0; exact Rv.shape0 x b s ai n c m ks ak d w
  by_cases k1 : k = 1
  · subst k1; exact Rv.shape1 x b s ai n c m ks ak d w
  by_cases k2 : k = 2
  · subst k2; exact Rv.shape2 x b s ai n c m ks ak d w
  by_cases k3 : k = 3
  · subst k3; exact Rv.shape3 x b s ai n c m ks ak d w
  by_cases k4 : k = 4
  · subst k4; exact Rv.shape4 x b s ai n c m ks ak d w
  by_cases k5 : k = 5
  · subst k5; exact Rv.shape5 x b s ai n c m ks ak d w
  by_cases k6 : k = 6
  · subst k6; exact Rv.shape6 x b s ai n c m ks ak d w R hR h
  exact Rv.shapeN k (by omega) x b s ai n c m ks ak d w
end Go.Proofs.YtggfemdnoccmeaaDoor

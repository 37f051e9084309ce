/-
  THE WALK of stolelaw4.ValueOrders.
-/
import Derived.Test.YtmiabkoodoekdaaDoorVKit
import Derived.Test.YtmiabkoodoekdaaDoorReDec
namespace Go.Proofs.YtmiabkoodoekdaaDoor
open Go.RowKit

theorem Vy.int_may (x : Int) (h : -9007199254740991 ≤ x ∧ x ≤ 9007199254740991) : (Vt.mk 2 x 0 ⟨#[]⟩ 0 (fun _ => .nil) 0 (fun _ => ⟨#[]⟩)).may = true := by
  have h1 := Vw.int_may x
  rw [decide_eq_true h.1, decide_eq_true h.2] at h1
  exact h1
theorem Vy.text_may (s : ByteArray) (h : s.size ≤ 65536) : (Vt.mk 4 0 0 s 0 (fun _ => .nil) 0 (fun _ => ⟨#[]⟩)).may = true := by
  have h1 := Vw.text_may s
  rw [decide_eq_true h] at h1
  exact h1
theorem Vy.text_no (s : ByteArray) (h : ¬ s.size ≤ 65536) : (Vt.mk 4 0 0 s 0 (fun _ => .nil) 0 (fun _ => ⟨#[]⟩)).may = false := by
  have h1 := Vw.text_may s
  rw [decide_eq_false h] at h1
  exact h1
theorem Vy.int_less (x y : Int) (hx : -9007199254740991 ≤ x ∧ x ≤ 9007199254740991) (hy : -9007199254740991 ≤ y ∧ y ≤ 9007199254740991) : (Vt.leaf 2 x 0 ⟨#[]⟩).less (Vt.leaf 2 y 0 ⟨#[]⟩) = (decide (x < y), 0) := by
  simp [Vt.leaf, Vt.less, Vy.int_may x hx, Vy.int_may y hy]
theorem Vy.text_less (s t : ByteArray) (hs : s.size ≤ 65536) (ht : t.size ≤ 65536) : (Vt.leaf 4 0 0 s).less (Vt.leaf 4 0 0 t) = (Op.bytesLess s.toList t.toList, 0) := by
  simp [Vt.leaf, Vt.less, Vy.text_may s hs, Vy.text_may t ht]
theorem Vy.text_less_no (s t : ByteArray) (h : ¬ s.size ≤ 65536 ∨ ¬ t.size ≤ 65536) : (Vt.leaf 4 0 0 s).less (Vt.leaf 4 0 0 t) = (false, 400) := by
  rcases h with h | h
  · simp [Vt.leaf, Vt.less, Vy.text_no s h]
  · simp [Vt.leaf, Vt.less, Vy.text_no t h]
theorem Vy.int_same (x y : Int) (hx : -9007199254740991 ≤ x ∧ x ≤ 9007199254740991) (hy : -9007199254740991 ≤ y ∧ y ≤ 9007199254740991) : (Vt.leaf 2 x 0 ⟨#[]⟩).same (Vt.leaf 2 y 0 ⟨#[]⟩) = (x == y) := by
  simp [Vt.leaf, Vt.same, Vt.alike, Vt.sameKeys, Vt.allTo, Vy.int_may x hx, Vy.int_may y hy]
  rfl
theorem Vy.text_same (s t : ByteArray) (hs : s.size ≤ 65536) (ht : t.size ≤ 65536) : (Vt.leaf 4 0 0 s).same (Vt.leaf 4 0 0 t) = (s.toList == t.toList) := by
  simp [Vt.leaf, Vt.same, Vt.alike, Vt.sameKeys, Vt.allTo, Vy.text_may s hs, Vy.text_may t ht]
theorem Vy.mixed_same (x : Int) (s : ByteArray) : (Vt.leaf 2 x 0 ⟨#[]⟩).same (Vt.leaf 4 0 0 s) = false := by
  simp [Vt.leaf, Vt.same, Vt.alike]

set_option maxRecDepth 100000 in
set_option maxHeartbeats 8000000 in
theorem Vx.orders (a : Int) (_ : -9223372036854775808 ≤ a ∧ a ≤ 9223372036854775807) (b : Int) (_ : -9223372036854775808 ≤ b ∧ b ≤ 9223372036854775807) (s t : ByteArray) (w : World) (ht : Re.Tabs w) :
    Calls Tryd.prog 5 #[.int .i64 a, .int .i64 b, .string s, .string t] w fun e w' => e = .returned (.bool true) ∧ Below w.heap.size w w' := by
  obtain ⟨K, hK⟩ : ∃ K : Int, a % 9007199254740992 = K := ⟨_, rfl⟩
  obtain ⟨J, hJ⟩ : ∃ K : Int, b % 9007199254740992 = K := ⟨_, rfl⟩
  have hk : 0 ≤ K ∧ K ≤ 9007199254740991 := by omega
  have hj : 0 ≤ J ∧ J ≤ 9007199254740991 := by omega
  have h1 := Bt.and53 a
  have h2 := Bt.and53 b
  rw [hK] at h1
  rw [hJ] at h2
  clear hK hJ
  have HD : Hid (∀ w : World, Calls Tryd.prog 32 #[.int .i64 K] w fun e w' => e = .returned (.string ⟨(Lib.decDigits K.toNat).toArray⟩) ∧ Below w.heap.size w w') := by
    intro w
    have := Dm.decimal K.toNat (by omega) w
    rw [Int.toNat_of_nonneg hk.1] at this
    exact this
  go_enter Tryd.func5, Tryd.ntmps5
  go_wp2_with fail
  refine (Vw.awake w ht).mono ?_
  rintro e w0 ⟨rfl, B⟩
  go_wp2_with fail
  refine (Vn.num K _).mono ?_
  rintro e w1 ⟨rfl, hb'⟩
  replace B := Vm.then B hb'
  clear hb'
  go_wp2_with fail
  refine (Vn.num (-J) _).mono ?_
  rintro e w2 ⟨rfl, hb'⟩
  replace B := Vm.then B hb'
  clear hb'
  go_wp2_with fail
  refine (Vl.less (Vt.leaf 2 K 0 ⟨#[]⟩) (Vt.leaf 2 (-J) 0 ⟨#[]⟩) _ _ _ (Vw.iLies K _ _) (Vw.iLies (-J) _ _)).mono ?_
  rintro e w3 ⟨rfl, hb'⟩
  rw [Vy.int_less K (-J) (by omega) (by omega)]
  replace B := Vm.then B hb'
  clear hb' h1 h2
  go_wp2_with fail
  refine (Vn.text s _).mono ?_
  rintro e w4 ⟨rfl, hb'⟩
  replace B := Vm.then B hb'
  clear hb'
  go_wp2_with fail
  refine (Vn.text t _).mono ?_
  rintro e w5 ⟨rfl, hb'⟩
  replace B := Vm.then B hb'
  clear hb'
  go_wp2_with fail
  refine (Vl.less (Vt.leaf 4 0 0 s) (Vt.leaf 4 0 0 t) _ _ _ (Vw.sLies s _ _) (Vw.sLies t _ _)).mono ?_
  rintro e w6 ⟨rfl, hb'⟩
  replace B := Vm.then B hb'
  clear hb'
  by_cases hs : s.size ≤ 65536
  · have ds : decide (65536 < (s.size : Int)) = false := decide_eq_false (by omega)
    by_cases hz : t.size ≤ 65536
    · have dz : decide (65536 < (t.size : Int)) = false := decide_eq_false (by omega)
      rw [Vy.text_less s t hs hz]
      have HS := Lib.hid hs
      have HZ := Lib.hid hz
      clear hs hz
      go_wp2_with fail
      refine (Vn.errno 0 _).mono ?_
      rintro e w7 ⟨rfl, rfl⟩
      go_wp2_with fail
      refine (Vn.errno 0 _).mono ?_
      rintro e w7 ⟨rfl, rfl⟩
      go_wp2_with fail
      refine (Vn.num K _).mono ?_
      rintro e w8 ⟨rfl, hb'⟩
      replace B := Vm.then B hb'
      clear hb'
      go_wp2_with fail
      refine (Vn.num J _).mono ?_
      rintro e w9 ⟨rfl, hb'⟩
      replace B := Vm.then B hb'
      clear hb'
      go_wp2_with fail
      refine (Va.same (Vt.leaf 2 K 0 ⟨#[]⟩) (Vt.leaf 2 J 0 ⟨#[]⟩) _ _ _ (Vw.iLies K _ _) (Vw.iLies J _ _)).mono ?_
      rintro e w10 ⟨rfl, hb'⟩
      rw [Vy.int_same K J (by omega) (by omega)]
      replace B := Vm.then B hb'
      clear hb'
      go_wp2_with fail
      refine (Vn.text s _).mono ?_
      rintro e w11 ⟨rfl, hb'⟩
      replace B := Vm.then B hb'
      clear hb'
      go_wp2_with fail
      refine (Vn.text t _).mono ?_
      rintro e w12 ⟨rfl, hb'⟩
      replace B := Vm.then B hb'
      clear hb'
      go_wp2_with fail
      refine (Va.same (Vt.leaf 4 0 0 s) (Vt.leaf 4 0 0 t) _ _ _ (Vw.sLies s _ _) (Vw.sLies t _ _)).mono ?_
      rintro e w13 ⟨rfl, hb'⟩
      rw [Vy.text_same s t HS.out HZ.out]
      replace B := Vm.then B hb'
      clear hb'
      go_wp2_with fail
      refine (Vn.num K _).mono ?_
      rintro e w14 ⟨rfl, hb'⟩
      replace B := Vm.then B hb'
      clear hb'
      go_wp2_with fail
      refine (HD.out _).mono ?_
      rintro e w15 ⟨rfl, hb'⟩
      replace B := Vm.then B hb'
      clear hb'
      generalize (⟨(Lib.decDigits K.toNat).toArray⟩ : ByteArray) = D at *
      go_wp2_with fail
      refine (Vn.text D _).mono ?_
      rintro e w16 ⟨rfl, hb'⟩
      replace B := Vm.then B hb'
      clear hb'
      go_wp2_with fail
      refine (Va.same (Vt.leaf 2 K 0 ⟨#[]⟩) (Vt.leaf 4 0 0 D) _ _ _ (Vw.iLies K _ _) (Vw.sLies D _ _)).mono ?_
      rintro e w17 ⟨rfl, hb'⟩
      rw [Vy.mixed_same]
      replace B := Vm.then B hb'
      clear hb'
      go_wp2
      go_ret
      exact ⟨rfl, B⟩
    · have dz : decide (65536 < (t.size : Int)) = true := decide_eq_true (by omega)
      rw [Vy.text_less_no s t (.inr hz)]
      clear hs hz
      go_wp2_with fail
      refine (Vn.errno 400 _).mono ?_
      rintro e w7 ⟨rfl, rfl⟩
      go_wp2
      go_ret
      exact ⟨rfl, B⟩
  · have ds : decide (65536 < (s.size : Int)) = true := decide_eq_true (by omega)
    rw [Vy.text_less_no s t (.inl hs)]
    clear hs
    go_wp2_with fail
    refine (Vn.errno 400 _).mono ?_
    rintro e w7 ⟨rfl, rfl⟩
    go_wp2
    go_ret
    exact ⟨rfl, B⟩
end Go.Proofs.YtmiabkoodoekdaaDoor

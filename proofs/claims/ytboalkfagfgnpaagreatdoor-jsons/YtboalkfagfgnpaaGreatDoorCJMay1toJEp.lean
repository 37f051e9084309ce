/-
  THE WALK of utf.May.
-/
import Derived.Test.YtboalkfagfgnpaaGreatDoorCShelftoSign
import Derived.Test.YtboalkfagfgnpaaGreatDoorCJAgaintoJSaid
import Derived.Test.YtboalkfagfgnpaaGreatDoorCShelf3toVKeys
import Derived.Test.YtboalkfagfgnpaaGreatDoorCVFormtoReText
import Derived.Test.YtboalkfagfgnpaaGreatDoorCRToktoQPlain
import Derived.Lib.RuneBytes
namespace Go.Proofs.YtboalkfagfgnpaaGreatDoor
open Go.RowKit
set_option maxHeartbeats 1000000 in
theorem Wk.may (s : ByteArray) (w : World) (hT : Lib.Utf8Tabs 1 2 w) (hs : s.size ≤ maxLen) :
    Calls Tryz.prog 21 #[.string s] w fun e w' => e = .returned (.bool (Pl.mayL s.data.toList)) ∧ Below w.heap.size w w' := by
  unfold maxLen at hs
  go_enter Tryz.func21, Tryz.ntmps21
  go_wp2
  go_loopw [3] (fun i wr => ∃ k : Nat, k ≤ s.size ∧ i = .int .i64 k ∧ Hid (Pl.mayL (s.data.toList.drop k) = Pl.mayL s.data.toList) ∧ Below w.heap.size w wr) (fun i _ => s.size - (intOf i).toNat)
  case atStart => exact ⟨0, Nat.zero_le _, rfl, rfl, Below.refl _ _⟩
  case round =>
    obtain ⟨k, hk, rfl, hm, hb⟩ := hrel
    have c := Wk.sign_at s k wr (Utf8Tabs_below hT hb)
    by_cases hlt : k < s.size
    · have hle := Pl.sgn_le (s.data.toList.drop k)
      rw [List.length_drop, Wk.len_data] at hle
      obtain ⟨m, hmm⟩ : ∃ m, Pl.sgn (s.data.toList.drop k) = m := ⟨_, rfl⟩
      rw [hmm] at c hle
      have HM : Hid (Pl.sgn (s.data.toList.drop k) = m) := hmm
      clear hmm
      by_cases h0 : m = 0
      · have hz : ((m : Int) == 0) = true := beq_iff_eq.2 (by omega)
        go_wp2_with (go_at_call 47; refine c.mono ?_; rintro e w' ⟨rfl, hb1⟩)
        go_ret
        refine ⟨Wk.ret_bool ?_, Wk.below_step hb hb1⟩
        rw [← hm.out, Pl.mayL_bad _ (Wk.drop_ne s k hlt) (HM.out.trans h0)]
      · have hz : ((m : Int) == 0) = false := beq_eq_false_iff_ne.2 (by omega)
        go_wp2_with (go_at_call 47; refine c.mono ?_; rintro e w' ⟨rfl, hb1⟩)
        go_roundw
        case rel =>
          refine ⟨k + m, by omega, by go_num, ?_, Wk.below_step hb hb1⟩
          have h1 := Pl.mayL_sign (s.data.toList.drop k) (by rw [HM.out]; exact h0)
          rw [HM.out, List.drop_drop] at h1
          show _ = _
          rw [← hm.out, h1]
        case measure => simp [intOf]; omega
    · have hke : k = s.size := by omega
      go_wp2
      go_ret
      refine ⟨Wk.ret_bool ?_, hb⟩
      rw [← hm.out, hke, List.drop_of_length_le (by rw [Wk.len_data]; exact Nat.le_refl _)]
      rfl
end Go.Proofs.YtboalkfagfgnpaaGreatDoor
/-
  THE WALK of json.Get.
-/
namespace Go.Proofs.YtboalkfagfgnpaaGreatDoor
open Go.RowKit
theorem Jr.got_none {s : ByteArray} (h : Jr.get s.data.toList = none) : Js.gerr s.data.toList = 1000 ∧ Js.got s.data.toList = Js.leaf 0 0 0 ⟨#[]⟩ := by
  rw [Jr.get_eq] at h
  unfold Js.gerr Js.got
  rw [h]
  exact ⟨rfl, rfl⟩
theorem Jr.got_some {s : ByteArray} {t : Vt} (h : Jr.get s.data.toList = some t) : Js.gerr s.data.toList = 0 ∧ Js.got s.data.toList = t := by
  rw [Jr.get_eq] at h
  unfold Js.gerr Js.got
  rw [h]
  exact ⟨rfl, rfl⟩
/-- Get's end with an error -/
theorem Jr.no_end {w W : World} {s : ByteArray} (h : Jr.get s.data.toList = none) (hb : Below w.heap.size w W) :
    ∃ v, Ending.returned (.tuple #[.agg #[.int .i64 0, .int .i64 0, .int .u64 0, .string ⟨#[]⟩, .slice none 0 0, .slice none 0 0], .int .i64 1000]) = .returned (.tuple #[v, .int .i64 (Js.gerr s.data.toList)]) ∧ (Js.got s.data.toList).Lies W (fun g => w.heap.size ≤ g ∧ g < W.heap.size) v ∧ Below w.heap.size w W := by
  obtain ⟨e1, e2⟩ := Jr.got_none h
  rw [e1, e2]
  exact ⟨_, rfl, Jr.leaf_lies _ _ 0 0 0 ⟨#[]⟩ (by decide), hb⟩
set_option maxRecDepth 100000 in
set_option maxHeartbeats 4000000 in
theorem Jc.get (s : ByteArray) (w : World) (hT : Jt w) :
    Calls Tryz.prog 8 #[.string s] w fun e w' => ∃ v, e = .returned (.tuple #[v, .int .i64 (Js.gerr s.data.toList)]) ∧ (Js.got s.data.toList).Lies w' (fun g => w.heap.size ≤ g ∧ g < w'.heap.size) v ∧ Below w.heap.size w w' := by
  have HX0 : Hid (Vm.Box (w.alloc (.cells #[.int .i64 0, .int .i64 0, .int .u64 0, .string ⟨#[]⟩, .slice none 0 0, .slice none 0 0] 26)) w.heap.size (.int .i64 0) (.int .i64 0) (.int .u64 0) (.string ⟨#[]⟩) (.slice none 0 0) (.slice none 0 0)) := ⟨Vm.Has.new w _ _ rfl⟩
  have HB0 := Lib.hid ((Below.refl w.heap.size w).alloc (Nat.le_refl _) (.cells #[.int .i64 0, .int .i64 0, .int .u64 0, .string ⟨#[]⟩, .slice none 0 0, .slice none 0 0] 26))
  have HT0 := Lib.hid (hT.on HB0.out)
  clear hT
  by_cases hlong : 65536 < s.size
  · have hg : Jr.get s.data.toList = none := by
      unfold Jr.get
      rw [if_pos (.inl (by rw [Wk.len_data]; exact hlong))]
    have HG := Lib.hid hg
    have d1 : decide ((65536 : Int) < (s.size : Int)) = true := decide_eq_true (by omega)
    clear hg hlong HT0
    go_enter Tryz.func8, Tryz.ntmps8
    go_wp2
    refine bodyPost_ret (v := .tuple #[.agg #[.int .i64 0, .int .i64 0, .int .u64 0, .string ⟨#[]⟩, .slice none 0 0, .slice none 0 0], .int .i64 1000]) (by simp [results, Tryz.results8, go_sem]) rfl ?_
    exact Jr.no_end HG.out HB0.out
  · have d1 : decide ((65536 : Int) < (s.size : Int)) = false := decide_eq_false (by omega)
    have my := Wk.may s _ HT0.out.utf (by unfold maxLen; omega)
    have hr := fun u => Jr.readW s (by omega) u
    by_cases hm : Pl.mayL s.data.toList = true
    · rw [hm] at my
      cases hrd : Jr.read s.data.toList with
      | none =>
        rw [hrd] at hr
        have HG : Hid (Jr.get s.data.toList = none) := by
          unfold Hid Jr.get
          rw [if_neg (by rw [Wk.len_data, hm]; simp; omega), hrd]
        clear hm hrd hlong HT0
        go_enter Tryz.func8, Tryz.ntmps8
        go_wp2_with (first | (go_at_call 21; refine my.mono ?_; rintro e1 w1 ⟨rfl, b1⟩; have HX1 : Hid (Vm.Box w1 w.heap.size (.int .i64 0) (.int .i64 0) (.int .u64 0) (.string ⟨#[]⟩) (.slice none 0 0) (.slice none 0 0)) := ⟨(b1.block _ HX0.out.lt).trans HX0.out.all⟩; have HB1 := Lib.hid (HB0.out.trans (b1.mono HB0.out.size)); clear b1 my) | (go_at_call 22; refine (hr _).mono ?_; rintro e2 w2 ⟨rfl, b2⟩; have HX2 : Hid (Vm.Box w2 w.heap.size (.int .i64 0) (.int .i64 0) (.int .u64 0) (.string ⟨#[]⟩) (.slice none 0 0) (.slice none 0 0)) := ⟨(b2.block _ HX1.out.lt).trans HX1.out.all⟩; have HB2 := Lib.hid (HB1.out.trans (b2.mono HB1.out.size)); have HX3 := Lib.hid (HX2.out.alloc HX2.out.lt (.cells #[.int .i64 0, .int .i64 0, .int .u64 0, .string ⟨#[]⟩, .slice none 0 0, .slice none 0 0] 26)); have HB3 := Lib.hid (HB2.out.alloc HB2.out.size (.cells #[.int .i64 0, .int .i64 0, .int .u64 0, .string ⟨#[]⟩, .slice none 0 0, .slice none 0 0] 26)); obtain ⟨c0, c1, c2, c3, c4, c5⟩ := HX3.out.cells; have f0 := HX3.out.has.frozen 0; have f1 := HX3.out.has.frozen 1; have f2 := HX3.out.has.frozen 2; have f3 := HX3.out.has.frozen 3; have f4 := HX3.out.has.frozen 4; have f5 := HX3.out.has.frozen 5; clear b2 hr))
        obtain ⟨W, hW, hX, hb⟩ := Jr.six HX3.out (.int .i64 0) (.int .i64 0) (.int .u64 0) (.string ⟨#[]⟩) (.slice none 0 0) (.slice none 0 0)
        rw [hW]
        obtain ⟨x0, x1, x2, x3, x4, x5⟩ := hX.cells
        refine bodyPost_ret (v := .tuple #[.agg #[.int .i64 0, .int .i64 0, .int .u64 0, .string ⟨#[]⟩, .slice none 0 0, .slice none 0 0], .int .i64 1000]) (by simp [results, Tryz.results8, go_sem, x0, x1, x2, x3, x4, x5]) rfl ?_
        exact Jr.no_end HG.out (HB3.out.trans hb)
      | some t =>
        rw [hrd] at hr
        have hgt : Jr.get s.data.toList = if t.may = true then some t else none := by
          unfold Jr.get
          rw [if_neg (by rw [Wk.len_data, hm]; simp; omega), hrd]
        have mv := fun v u h => Vm.may t v u h
        clear hm hrd hlong HT0
        by_cases hmay : t.may = true
        · rw [if_pos hmay] at hgt
          rw [hmay] at mv
          have HG := Lib.hid hgt
          clear hgt hmay
          go_enter Tryz.func8, Tryz.ntmps8
          go_wp2_with (first | (go_at_call 21; refine my.mono ?_; rintro e1 w1 ⟨rfl, b1⟩; have HX1 : Hid (Vm.Box w1 w.heap.size (.int .i64 0) (.int .i64 0) (.int .u64 0) (.string ⟨#[]⟩) (.slice none 0 0) (.slice none 0 0)) := ⟨(b1.block _ HX0.out.lt).trans HX0.out.all⟩; have HB1 := Lib.hid (HB0.out.trans (b1.mono HB0.out.size)); clear b1 my) | (go_at_call 22; refine (hr _).mono ?_; rintro e2 w2 ⟨⟨v2, rfl, l2⟩, b2⟩; obtain ⟨k3, y3, z3, s3, ai3, n3, m3, ak3, o3, d3, rfl⟩ := l2.form; have HX2 : Hid (Vm.Box w2 w.heap.size (.int .i64 0) (.int .i64 0) (.int .u64 0) (.string ⟨#[]⟩) (.slice none 0 0) (.slice none 0 0)) := ⟨(b2.block _ HX1.out.lt).trans HX1.out.all⟩; have HB2 := Lib.hid (HB1.out.trans (b2.mono HB1.out.size)); have HX3 := Lib.hid (HX2.out.alloc HX2.out.lt (.cells #[.int .i64 k3, .int .i64 y3, .int .u64 (z3 : Int), .string s3, .slice ai3 n3 m3, .slice ak3 o3 d3] 26)); have HB3 := Lib.hid (HB2.out.alloc HB2.out.size (.cells #[.int .i64 k3, .int .i64 y3, .int .u64 (z3 : Int), .string s3, .slice ai3 n3 m3, .slice ak3 o3 d3] 26)); have HV3 : Hid (Vm.Box (w2.alloc (.cells #[.int .i64 k3, .int .i64 y3, .int .u64 (z3 : Int), .string s3, .slice ai3 n3 m3, .slice ak3 o3 d3] 26)) w2.heap.size (.int .i64 k3) (.int .i64 y3) (.int .u64 (z3 : Int)) (.string s3) (.slice ai3 n3 m3) (.slice ak3 o3 d3)) := ⟨Vm.Has.new w2 _ _ rfl⟩; have HL3 : Hid (t.Lies (w2.alloc (.cells #[.int .i64 k3, .int .i64 y3, .int .u64 (z3 : Int), .string s3, .slice ai3 n3 m3, .slice ak3 o3 d3] 26)) (fun k => w.heap.size + 1 ≤ k ∧ k < (w2.alloc (.cells #[.int .i64 k3, .int .i64 y3, .int .u64 (z3 : Int), .string s3, .slice ai3 n3 m3, .slice ak3 o3 d3] 26)).heap.size) (.agg #[.int .i64 k3, .int .i64 y3, .int .u64 (z3 : Int), .string s3, .slice ai3 n3 m3, .slice ak3 o3 d3])) := l2.on (fun k hk => ⟨⟨Nat.le_trans HX1.out.lt hk.1, Nat.lt_of_lt_of_le hk.2 (by simp)⟩, Below.heap_alloc _ _ _ hk.2⟩); replace mv := mv (.agg #[.int .i64 k3, .int .i64 y3, .int .u64 (z3 : Int), .string s3, .slice ai3 n3 m3, .slice ak3 o3 d3]) (w2.alloc (.cells #[.int .i64 k3, .int .i64 y3, .int .u64 (z3 : Int), .string s3, .slice ai3 n3 m3, .slice ak3 o3 d3] 26)) (HL3.out.on (fun k hk => ⟨hk.2, rfl⟩)); clear b2 hr l2) | (go_at_call 15; refine mv.mono ?_; rintro e4 w4 ⟨rfl, b4⟩; have HX4 : Hid (Vm.Box w4 w.heap.size (.int .i64 0) (.int .i64 0) (.int .u64 0) (.string ⟨#[]⟩) (.slice none 0 0) (.slice none 0 0)) := ⟨(b4.block _ HX3.out.lt).trans HX3.out.all⟩; have HB4 := Lib.hid (HB3.out.trans (b4.mono HB3.out.size)); have HV4 : Hid (Vm.Box w4 w2.heap.size (.int .i64 k3) (.int .i64 y3) (.int .u64 (z3 : Int)) (.string s3) (.slice ai3 n3 m3) (.slice ak3 o3 d3)) := ⟨(b4.block _ HV3.out.lt).trans HV3.out.all⟩; obtain ⟨v0, v1, v2, v3, v4, v5⟩ := HV4.out.cells; have HL4 : Hid (t.Lies w4 (fun k => w.heap.size + 1 ≤ k ∧ k < w4.heap.size) (.agg #[.int .i64 k3, .int .i64 y3, .int .u64 (z3 : Int), .string s3, .slice ai3 n3 m3, .slice ak3 o3 d3])) := HL3.out.on (fun k hk => ⟨⟨hk.1, Nat.lt_of_lt_of_le hk.2 b4.size⟩, b4.block k hk.2⟩); obtain ⟨c0, c1, c2, c3, c4, c5⟩ := HX4.out.cells; have f0 := HX4.out.has.frozen 0; have f1 := HX4.out.has.frozen 1; have f2 := HX4.out.has.frozen 2; have f3 := HX4.out.has.frozen 3; have f4 := HX4.out.has.frozen 4; have f5 := HX4.out.has.frozen 5; clear b4 mv))
          obtain ⟨W, hW, hX, hb⟩ := Jr.six HX4.out (.int .i64 k3) (.int .i64 y3) (.int .u64 (z3 : Int)) (.string s3) (.slice ai3 n3 m3) (.slice ak3 o3 d3)
          have hq : ∀ k, k ≠ w.heap.size → W.heap[k]? = w4.heap[k]? := fun k hk => by rw [← hW]; exact Jr.six_other w4 w.heap.size 0 _ _ _ _ _ _ k hk
          have hsz : W.heap.size = w4.heap.size := by rw [← hW]; simp only [Jr.set_size]
          rw [hW]
          obtain ⟨x0, x1, x2, x3, x4, x5⟩ := hX.cells
          refine bodyPost_ret (v := .tuple #[.agg #[.int .i64 k3, .int .i64 y3, .int .u64 (z3 : Int), .string s3, .slice ai3 n3 m3, .slice ak3 o3 d3], .int .i64 0]) (by simp [results, Tryz.results8, go_sem, x0, x1, x2, x3, x4, x5]) rfl ?_
          obtain ⟨e1, e2⟩ := Jr.got_some HG.out
          rw [e1, e2]
          exact ⟨_, rfl, HL4.out.on fun k hk => ⟨⟨by have := hk.1; omega, by have := hk.2; omega⟩, hq k (by have := hk.1; omega)⟩, HB4.out.trans hb⟩
        · rw [if_neg hmay] at hgt
          rw [Bool.eq_false_iff.2 hmay] at mv
          have HG := Lib.hid hgt
          clear hgt hmay
          go_enter Tryz.func8, Tryz.ntmps8
          go_wp2_with (first | (go_at_call 21; refine my.mono ?_; rintro e1 w1 ⟨rfl, b1⟩; have HX1 : Hid (Vm.Box w1 w.heap.size (.int .i64 0) (.int .i64 0) (.int .u64 0) (.string ⟨#[]⟩) (.slice none 0 0) (.slice none 0 0)) := ⟨(b1.block _ HX0.out.lt).trans HX0.out.all⟩; have HB1 := Lib.hid (HB0.out.trans (b1.mono HB0.out.size)); clear b1 my) | (go_at_call 22; refine (hr _).mono ?_; rintro e2 w2 ⟨⟨v2, rfl, l2⟩, b2⟩; obtain ⟨k3, y3, z3, s3, ai3, n3, m3, ak3, o3, d3, rfl⟩ := l2.form; have HX2 : Hid (Vm.Box w2 w.heap.size (.int .i64 0) (.int .i64 0) (.int .u64 0) (.string ⟨#[]⟩) (.slice none 0 0) (.slice none 0 0)) := ⟨(b2.block _ HX1.out.lt).trans HX1.out.all⟩; have HB2 := Lib.hid (HB1.out.trans (b2.mono HB1.out.size)); have HX3 := Lib.hid (HX2.out.alloc HX2.out.lt (.cells #[.int .i64 k3, .int .i64 y3, .int .u64 (z3 : Int), .string s3, .slice ai3 n3 m3, .slice ak3 o3 d3] 26)); have HB3 := Lib.hid (HB2.out.alloc HB2.out.size (.cells #[.int .i64 k3, .int .i64 y3, .int .u64 (z3 : Int), .string s3, .slice ai3 n3 m3, .slice ak3 o3 d3] 26)); have HV3 : Hid (Vm.Box (w2.alloc (.cells #[.int .i64 k3, .int .i64 y3, .int .u64 (z3 : Int), .string s3, .slice ai3 n3 m3, .slice ak3 o3 d3] 26)) w2.heap.size (.int .i64 k3) (.int .i64 y3) (.int .u64 (z3 : Int)) (.string s3) (.slice ai3 n3 m3) (.slice ak3 o3 d3)) := ⟨Vm.Has.new w2 _ _ rfl⟩; have HL3 : Hid (t.Lies (w2.alloc (.cells #[.int .i64 k3, .int .i64 y3, .int .u64 (z3 : Int), .string s3, .slice ai3 n3 m3, .slice ak3 o3 d3] 26)) (fun k => w.heap.size + 1 ≤ k ∧ k < (w2.alloc (.cells #[.int .i64 k3, .int .i64 y3, .int .u64 (z3 : Int), .string s3, .slice ai3 n3 m3, .slice ak3 o3 d3] 26)).heap.size) (.agg #[.int .i64 k3, .int .i64 y3, .int .u64 (z3 : Int), .string s3, .slice ai3 n3 m3, .slice ak3 o3 d3])) := l2.on (fun k hk => ⟨⟨Nat.le_trans HX1.out.lt hk.1, Nat.lt_of_lt_of_le hk.2 (by simp)⟩, Below.heap_alloc _ _ _ hk.2⟩); replace mv := mv (.agg #[.int .i64 k3, .int .i64 y3, .int .u64 (z3 : Int), .string s3, .slice ai3 n3 m3, .slice ak3 o3 d3]) (w2.alloc (.cells #[.int .i64 k3, .int .i64 y3, .int .u64 (z3 : Int), .string s3, .slice ai3 n3 m3, .slice ak3 o3 d3] 26)) (HL3.out.on (fun k hk => ⟨hk.2, rfl⟩)); clear b2 hr l2) | (go_at_call 15; refine mv.mono ?_; rintro e4 w4 ⟨rfl, b4⟩; have HX4 : Hid (Vm.Box w4 w.heap.size (.int .i64 0) (.int .i64 0) (.int .u64 0) (.string ⟨#[]⟩) (.slice none 0 0) (.slice none 0 0)) := ⟨(b4.block _ HX3.out.lt).trans HX3.out.all⟩; have HB4 := Lib.hid (HB3.out.trans (b4.mono HB3.out.size)); have HV4 : Hid (Vm.Box w4 w2.heap.size (.int .i64 k3) (.int .i64 y3) (.int .u64 (z3 : Int)) (.string s3) (.slice ai3 n3 m3) (.slice ak3 o3 d3)) := ⟨(b4.block _ HV3.out.lt).trans HV3.out.all⟩; obtain ⟨v0, v1, v2, v3, v4, v5⟩ := HV4.out.cells; have HL4 : Hid (t.Lies w4 (fun k => w.heap.size + 1 ≤ k ∧ k < w4.heap.size) (.agg #[.int .i64 k3, .int .i64 y3, .int .u64 (z3 : Int), .string s3, .slice ai3 n3 m3, .slice ak3 o3 d3])) := HL3.out.on (fun k hk => ⟨⟨hk.1, Nat.lt_of_lt_of_le hk.2 b4.size⟩, b4.block k hk.2⟩); obtain ⟨c0, c1, c2, c3, c4, c5⟩ := HX4.out.cells; have f0 := HX4.out.has.frozen 0; have f1 := HX4.out.has.frozen 1; have f2 := HX4.out.has.frozen 2; have f3 := HX4.out.has.frozen 3; have f4 := HX4.out.has.frozen 4; have f5 := HX4.out.has.frozen 5; clear b4 mv))
          obtain ⟨W, hW, hX, hb⟩ := Jr.six HX4.out (.int .i64 0) (.int .i64 0) (.int .u64 0) (.string ⟨#[]⟩) (.slice none 0 0) (.slice none 0 0)
          rw [hW]
          obtain ⟨x0, x1, x2, x3, x4, x5⟩ := hX.cells
          refine bodyPost_ret (v := .tuple #[.agg #[.int .i64 0, .int .i64 0, .int .u64 0, .string ⟨#[]⟩, .slice none 0 0, .slice none 0 0], .int .i64 1000]) (by simp [results, Tryz.results8, go_sem, x0, x1, x2, x3, x4, x5]) rfl ?_
          exact Jr.no_end HG.out (HB4.out.trans hb)
    · rw [Bool.eq_false_iff.2 hm] at my
      have HG : Hid (Jr.get s.data.toList = none) := by
        unfold Hid Jr.get
        rw [if_pos (.inr (Bool.eq_false_iff.2 hm))]
      clear hm hr hlong HT0
      go_enter Tryz.func8, Tryz.ntmps8
      go_wp2_with (go_at_call 21; refine my.mono ?_; rintro e1 w1 ⟨rfl, b1⟩; have HX1 : Hid (Vm.Box w1 w.heap.size (.int .i64 0) (.int .i64 0) (.int .u64 0) (.string ⟨#[]⟩) (.slice none 0 0) (.slice none 0 0)) := ⟨(b1.block _ HX0.out.lt).trans HX0.out.all⟩; have HB1 := Lib.hid (HB0.out.trans (b1.mono HB0.out.size)); obtain ⟨c0, c1, c2, c3, c4, c5⟩ := HX1.out.cells; have f0 := HX1.out.has.frozen 0; have f1 := HX1.out.has.frozen 1; have f2 := HX1.out.has.frozen 2; have f3 := HX1.out.has.frozen 3; have f4 := HX1.out.has.frozen 4; have f5 := HX1.out.has.frozen 5; clear b1 my)
      obtain ⟨W, hW, hX, hb⟩ := Jr.six HX1.out (.int .i64 0) (.int .i64 0) (.int .u64 0) (.string ⟨#[]⟩) (.slice none 0 0) (.slice none 0 0)
      rw [hW]
      obtain ⟨x0, x1, x2, x3, x4, x5⟩ := hX.cells
      refine bodyPost_ret (v := .tuple #[.agg #[.int .i64 0, .int .i64 0, .int .u64 0, .string ⟨#[]⟩, .slice none 0 0, .slice none 0 0], .int .i64 1000]) (by simp [results, Tryz.results8, go_sem, x0, x1, x2, x3, x4, x5]) rfl ?_
      exact Jr.no_end HG.out (HB1.out.trans hb)
end Go.Proofs.YtboalkfagfgnpaaGreatDoor
/-
  PLAIN: Escape, sign by sign.
-/
namespace Go.Proofs.YtboalkfagfgnpaaGreatDoor
theorem Jw.byte_of {c : UInt8} {n : Nat} {z : Int} (h : z = (n : Int)) (hn : c.toNat = n) : z.toNat.toUInt8 = c := by
  subst h
  subst hn
  show (c.toNat : Int).toNat.toUInt8 = c
  rw [Int.toNat_natCast]
  exact UInt8.ofNat_toNat
set_option maxHeartbeats 1000000 in
/-- what a sign's bytes tell, and that they are its bytes again -/
theorem Jw.decN (n b0 b1 b2 b3 k : Nat) (h0 : b0 < 256) (h1 : b1 < 256) (h2 : b2 < 256) (h3 : b3 < 256) (h : Pl.sgnN n b0 b1 b2 b3 = k) (hk : k ≠ 0) :
    ∃ r, Lib.decodeN n b0 b1 b2 b3 = (r, k) ∧ ((k = 1 ∧ r = b0 ∧ b0 < 128 ∧ b0 ≠ 0) ∨
      (k = 2 ∧ r = b0 % 32 * 64 + b1 % 64 ∧ 194 ≤ b0 ∧ b0 < 224 ∧ 128 ≤ b1 ∧ b1 ≤ 191) ∨
      (k = 3 ∧ r = b0 % 16 * 4096 + b1 % 64 * 64 + b2 % 64 ∧ 224 ≤ b0 ∧ b0 < 240 ∧ 128 ≤ b1 ∧ b1 ≤ 191 ∧ 128 ≤ b2 ∧ b2 ≤ 191 ∧ 2048 ≤ r ∧ (r < 55296 ∨ 57344 ≤ r)) ∨
      (k = 4 ∧ r = b0 % 8 * 262144 + b1 % 64 * 4096 + b2 % 64 * 64 + b3 % 64 ∧ 240 ≤ b0 ∧ b0 < 245 ∧ 128 ≤ b1 ∧ b1 ≤ 191 ∧ 128 ≤ b2 ∧ b2 ≤ 191 ∧ 128 ≤ b3 ∧ b3 ≤ 191 ∧ 65536 ≤ r ∧ r ≤ 1114111)) := by
  cases hd : Lib.decodeN n b0 b1 b2 b3 with
  | mk r k' =>
    have e := Pl.sgnN_decode n b0 b1 b2 b3 h0 h1 h2 h3 r k' hd
    rw [h] at e
    have hk' : k' = k := by
      split at e
      · exact absurd e.symm hk
      · exact e
    subst hk'
    refine ⟨r, rfl, ?_⟩
    unfold Pl.sgnN at h
    unfold Lib.decodeN at hd
    repeat' split at h
    all_goals first
      | (exact absurd h.symm hk)
      | skip
    all_goals subst h
    all_goals repeat' split at hd
    all_goals simp only [Prod.mk.injEq] at hd
    all_goals omega
theorem Jw.nb_drop (l : List UInt8) (i j : Nat) : Pl.nb (l.drop i) j = Pl.nb l (i + j) := by
  simp [Pl.nb, List.getD_eq_getElem?_getD]
theorem Jw.line_226 {c : UInt8} {r : List UInt8} (h : Js.line c r = true) : c = 226 := (Js.line_parts h).1
theorem Jw.esc_high {c : UInt8} {r : List UInt8} (h : 128 ≤ c.toNat) (hl : Js.line c r = false) : Js.escS (c :: r) = c :: Js.escS r := by
  rw [Js.escS_byte hl, show Js.byte c = [c] from if_pos (.inr h)]
  rfl
theorem Jw.not_line {c : UInt8} (r : List UInt8) (h : c.toNat ≠ 226) : Js.line c r = false := by
  cases hl : Js.line c r with
  | false => rfl
  | true => exact absurd (by rw [Jw.line_226 hl]; rfl) h
theorem Jw.esc_on {c : UInt8} (r : List UInt8) (h1 : 128 ≤ c.toNat) (h2 : c.toNat ≤ 191) : Js.escS (c :: r) = c :: Js.escS r := Jw.esc_high h1 (Jw.not_line r (by omega))
theorem Jw.three : ∀ {l : List UInt8}, 3 ≤ l.length → ∃ a b c t, l = a :: b :: c :: t
  | a :: b :: c :: t, _ => ⟨a, b, c, t, rfl⟩
  | [], h => absurd h (by simp)
  | [_], h => absurd h (by simp)
  | [_, _], h => absurd h (by simp)
theorem Jw.four : ∀ {l : List UInt8}, 4 ≤ l.length → ∃ a b c d t, l = a :: b :: c :: d :: t
  | a :: b :: c :: d :: t, _ => ⟨a, b, c, d, t, rfl⟩
  | [], h => absurd h (by simp)
  | [_], h => absurd h (by simp)
  | [_, _], h => absurd h (by simp)
  | [_, _, _], h => absurd h (by simp)
theorem Jw.byte_eq {a b : UInt8} (h : a.toNat = b.toNat) : a = b := UInt8.toNat_inj.1 h
set_option maxHeartbeats 1000000 in
theorem Jw.stepL (l : List UInt8) (hs : Pl.sgn l ≠ 0) : ∃ r, Lib.decodeN l.length (Pl.nb l 0) (Pl.nb l 1) (Pl.nb l 2) (Pl.nb l 3) = (r, Pl.sgn l) ∧ r ≤ 1114111 ∧
    ((∃ c t, l = c :: t ∧ Pl.sgn l = 1 ∧ r = c.toNat ∧ r < 128 ∧ Js.escS l = Js.byte c ++ Js.escS t) ∨
     (r = 8232 ∧ Pl.sgn l = 3 ∧ Js.escS l = [92, 117, 50, 48, 50, 56] ++ Js.escS (l.drop 3)) ∨
     (r = 8233 ∧ Pl.sgn l = 3 ∧ Js.escS l = [92, 117, 50, 48, 50, 57] ++ Js.escS (l.drop 3)) ∨
     (128 ≤ r ∧ r ≠ 8232 ∧ r ≠ 8233 ∧ Lib.encodeRune (r : Int) = l.take (Pl.sgn l) ∧ Js.escS l = l.take (Pl.sgn l) ++ Js.escS (l.drop (Pl.sgn l)))) := by
  have hlen := Pl.sgn_le l
  obtain ⟨r, hd, hr⟩ := Jw.decN l.length (Pl.nb l 0) (Pl.nb l 1) (Pl.nb l 2) (Pl.nb l 3) (Pl.sgn l) (Pl.nb_lt _ _) (Pl.nb_lt _ _) (Pl.nb_lt _ _) (Pl.nb_lt _ _) rfl hs
  refine ⟨r, hd, ?_⟩
  clear hd
  generalize Pl.sgn l = k at *
  rcases hr with ⟨rfl, h1, h2, h3⟩ | ⟨rfl, h1, h2, h3, h4, h5⟩ | ⟨rfl, h1, h2, h3, h4, h5, h6, h7, h8, h9⟩ | ⟨rfl, h1, h2, h3, h4, h5, h6, h7, h8, h9, h10, h11⟩
  · match l, hlen with
    | c :: t, _ =>
      have e0 : Pl.nb (c :: t) 0 = c.toNat := rfl
      rw [e0] at h1 h2 h3
      exact ⟨by omega, .inl ⟨c, t, rfl, rfl, h1, by omega, Js.escS_byte (Jw.not_line t (by omega))⟩⟩
  · match l, hlen with
    | x0 :: x1 :: t, _ =>
      have e0 : Pl.nb (x0 :: x1 :: t) 0 = x0.toNat := rfl
      have e1 : Pl.nb (x0 :: x1 :: t) 1 = x1.toNat := rfl
      rw [e0] at h1 h2 h3
      rw [e1] at h1 h4 h5
      refine ⟨by omega, .inr (.inr (.inr ⟨by omega, by omega, by omega, ?_, ?_⟩))⟩
      · unfold Lib.encodeRune
        rw [Lib.encodeRuneZ_two (by omega) (by omega)]
        simp only [List.map_cons, List.map_nil, List.take_succ_cons, List.take_zero]
        rw [Jw.byte_of (c := x0) (n := x0.toNat) (by omega) rfl, Jw.byte_of (c := x1) (n := x1.toNat) (by omega) rfl]
      · rw [Jw.esc_high (by omega) (Jw.not_line _ (by omega)), Jw.esc_on _ h4 h5]
        rfl
  · obtain ⟨x0, x1, x2, t, rfl⟩ := Jw.three hlen
    have e0 : Pl.nb (x0 :: x1 :: x2 :: t) 0 = x0.toNat := rfl
    have e1 : Pl.nb (x0 :: x1 :: x2 :: t) 1 = x1.toNat := rfl
    have e2 : Pl.nb (x0 :: x1 :: x2 :: t) 2 = x2.toNat := rfl
    rw [e0] at h1 h2 h3
    rw [e1] at h1 h4 h5
    rw [e2] at h1 h6 h7
    have hle : r ≤ 1114111 := by omega
    refine ⟨hle, .inr ?_⟩
    by_cases q1 : r = 8232
    · have y0 : x0 = 226 := Jw.byte_eq (by show x0.toNat = 226; omega)
      have y1 : x1 = 128 := Jw.byte_eq (by show x1.toNat = 128; omega)
      have y2 : x2 = 168 := Jw.byte_eq (by show x2.toNat = 168; omega)
      subst y0 y1 y2
      have q := Js.escS_line (c := 226) (r := 128 :: 168 :: t) (by rfl)
      rw [show ((128 :: 168 :: t : List UInt8)).getD 1 0 = 168 from rfl, show (48 : UInt8) + (168 - 160) = 56 by decide] at q
      exact .inl ⟨q1, rfl, q⟩
    · by_cases q2 : r = 8233
      · have y0 : x0 = 226 := Jw.byte_eq (by show x0.toNat = 226; omega)
        have y1 : x1 = 128 := Jw.byte_eq (by show x1.toNat = 128; omega)
        have y2 : x2 = 169 := Jw.byte_eq (by show x2.toNat = 169; omega)
        subst y0 y1 y2
        have q := Js.escS_line (c := 226) (r := 128 :: 169 :: t) (by rfl)
        rw [show ((128 :: 169 :: t : List UInt8)).getD 1 0 = 169 from rfl, show (48 : UInt8) + (169 - 160) = 57 by decide] at q
        exact .inr (.inl ⟨q2, rfl, q⟩)
      · refine .inr (.inr ⟨by omega, q1, q2, ?_, ?_⟩)
        · unfold Lib.encodeRune
          rw [Lib.encodeRuneZ_three (by omega)]
          simp only [List.map_cons, List.map_nil, List.take_succ_cons, List.take_zero]
          rw [Jw.byte_of (c := x0) (n := x0.toNat) (by omega) rfl, Jw.byte_of (c := x1) (n := x1.toNat) (by omega) rfl, Jw.byte_of (c := x2) (n := x2.toNat) (by omega) rfl]
        · have hl : Js.line x0 (x1 :: x2 :: t) = false := by
            cases hl : Js.line x0 (x1 :: x2 :: t) with
            | false => rfl
            | true =>
              exfalso
              obtain ⟨z0, t', z | z⟩ := Js.line_parts hl
              · injection z with z1 z2
                injection z2 with z2 _
                rw [z0, z1, z2] at h1
                exact q1 h1
              · injection z with z1 z2
                injection z2 with z2 _
                rw [z0, z1, z2] at h1
                exact q2 h1
          rw [Jw.esc_high (by omega) hl, Jw.esc_on _ h4 h5, Jw.esc_on _ h6 h7]
          rfl
  · obtain ⟨x0, x1, x2, x3, t, rfl⟩ := Jw.four hlen
    have e0 : Pl.nb (x0 :: x1 :: x2 :: x3 :: t) 0 = x0.toNat := rfl
    have e1 : Pl.nb (x0 :: x1 :: x2 :: x3 :: t) 1 = x1.toNat := rfl
    have e2 : Pl.nb (x0 :: x1 :: x2 :: x3 :: t) 2 = x2.toNat := rfl
    have e3 : Pl.nb (x0 :: x1 :: x2 :: x3 :: t) 3 = x3.toNat := rfl
    rw [e0] at h1 h2 h3
    rw [e1] at h1 h4 h5
    rw [e2] at h1 h6 h7
    rw [e3] at h1 h8 h9
    refine ⟨h11, .inr (.inr (.inr ⟨by omega, by omega, by omega, ?_, ?_⟩))⟩
    · unfold Lib.encodeRune
      rw [Lib.encodeRuneZ_four (by omega) (by omega)]
      simp only [List.map_cons, List.map_nil, List.take_succ_cons, List.take_zero]
      rw [Jw.byte_of (c := x0) (n := x0.toNat) (by omega) rfl, Jw.byte_of (c := x1) (n := x1.toNat) (by omega) rfl, Jw.byte_of (c := x2) (n := x2.toNat) (by omega) rfl, Jw.byte_of (c := x3) (n := x3.toNat) (by omega) rfl]
    · rw [Jw.esc_high (by omega) (Jw.not_line _ (by omega)), Jw.esc_on _ h4 h5, Jw.esc_on _ h6 h7, Jw.esc_on _ h8 h9]
      rfl
theorem Jw.decode_drop (T : ByteArray) (pos : Nat) : Utf8.decode T pos = Lib.decodeN (T.data.toList.drop pos).length (Pl.nb (T.data.toList.drop pos) 0) (Pl.nb (T.data.toList.drop pos) 1) (Pl.nb (T.data.toList.drop pos) 2) (Pl.nb (T.data.toList.drop pos) 3) := by
  rw [Lib.decode_at, Jw.nb_drop, Jw.nb_drop, Jw.nb_drop, Jw.nb_drop, Wk.get_nb, Wk.get_nb, Wk.get_nb, Wk.get_nb, List.length_drop, Wk.len_data]
  rfl
end Go.Proofs.YtboalkfagfgnpaaGreatDoor

/-
  THE WALK of utf.May.
-/
import Derived.Test.YtboalkfagfgnpaaGreatDoorBSigntoRePlain
import Derived.Test.YtboalkfagfgnpaaGreatDoorBJRptoJSaid
import Derived.Test.YtboalkfagfgnpaaGreatDoorBReNumtoFrame10
import Derived.Test.YtboalkfagfgnpaaGreatDoorBVForm6toReText
namespace Go.Proofs.YtboalkfagfgnpaaGreatDoor
open Go.RowKit
set_option maxHeartbeats 1000000 in
theorem Wk.may (s : ByteArray) (w : World) (hT : Lib.Utf8Tabs 1 2 w) (hs : s.size ≤ maxLen) :
    Calls Tryz.prog 21 #[.string s] w fun e w' => e = .returned (.bool (Pl.mayL s.data.toList)) ∧ Below w.heap.size w w' := by
  unfold maxLen at hs
  go_enter Tryz.func21, Tryz.ntmps21
  go_wp2
  go_loopw [3] (fun i wr => ∃ k : Nat, k ≤ s.size ∧ i = .int .i64 k ∧ Hid (Pl.mayL (s.data.toList.drop k) = Pl.mayL s.data.toList) ∧ Below w.heap.size w wr) (fun i _ => s.size - (intOf i).toNat)
  case atStart => exact ⟨0, Nat.zero_le _, rfl, rfl, Below.refl _ _⟩
  case round =>
    obtain ⟨k, hk, rfl, hm, hb⟩ := hrel
    have c := Wk.sign_at s k wr (Utf8Tabs_below hT hb)
    by_cases hlt : k < s.size
    · have hle := Pl.sgn_le (s.data.toList.drop k)
      rw [List.length_drop, Wk.len_data] at hle
      obtain ⟨m, hmm⟩ : ∃ m, Pl.sgn (s.data.toList.drop k) = m := ⟨_, rfl⟩
      rw [hmm] at c hle
      have HM : Hid (Pl.sgn (s.data.toList.drop k) = m) := hmm
      clear hmm
      by_cases h0 : m = 0
      · have hz : ((m : Int) == 0) = true := beq_iff_eq.2 (by omega)
        go_wp2_with (go_at_call 47; refine c.mono ?_; rintro e w' ⟨rfl, hb1⟩)
        go_ret
        refine ⟨Wk.ret_bool ?_, Wk.below_step hb hb1⟩
        rw [← hm.out, Pl.mayL_bad _ (Wk.drop_ne s k hlt) (HM.out.trans h0)]
      · have hz : ((m : Int) == 0) = false := beq_eq_false_iff_ne.2 (by omega)
        go_wp2_with (go_at_call 47; refine c.mono ?_; rintro e w' ⟨rfl, hb1⟩)
        go_roundw
        case rel =>
          refine ⟨k + m, by omega, by go_num, ?_, Wk.below_step hb hb1⟩
          have h1 := Pl.mayL_sign (s.data.toList.drop k) (by rw [HM.out]; exact h0)
          rw [HM.out, List.drop_drop] at h1
          show _ = _
          rw [← hm.out, h1]
        case measure => simp [intOf]; omega
    · have hke : k = s.size := by omega
      go_wp2
      go_ret
      refine ⟨Wk.ret_bool ?_, hb⟩
      rw [← hm.out, hke, List.drop_of_length_le (by rw [Wk.len_data]; exact Nat.le_refl _)]
      rfl
end Go.Proofs.YtboalkfagfgnpaaGreatDoor
/-
  THE WALK of json.Get.
-/
namespace Go.Proofs.YtboalkfagfgnpaaGreatDoor
open Go.RowKit
theorem Jr.got_none {s : ByteArray} (h : Jr.get s.data.toList = none) : Js.gerr s.data.toList = 1000 ∧ Js.got s.data.toList = Js.leaf 0 0 0 ⟨#[]⟩ := by
  rw [Jr.get_eq] at h
  unfold Js.gerr Js.got
  rw [h]
  exact ⟨rfl, rfl⟩
theorem Jr.got_some {s : ByteArray} {t : Vt} (h : Jr.get s.data.toList = some t) : Js.gerr s.data.toList = 0 ∧ Js.got s.data.toList = t := by
  rw [Jr.get_eq] at h
  unfold Js.gerr Js.got
  rw [h]
  exact ⟨rfl, rfl⟩
/-- Get's end with an error -/
theorem Jr.no_end {w W : World} {s : ByteArray} (h : Jr.get s.data.toList = none) (hb : Below w.heap.size w W) :
    ∃ v, Ending.returned (.tuple #[.agg #[.int .i64 0, .int .i64 0, .int .u64 0, .string ⟨#[]⟩, .slice none 0 0, .slice none 0 0], .int .i64 1000]) = .returned (.tuple #[v, .int .i64 (Js.gerr s.data.toList)]) ∧ (Js.got s.data.toList).Lies W (fun g => w.heap.size ≤ g ∧ g < W.heap.size) v ∧ Below w.heap.size w W := by
  obtain ⟨e1, e2⟩ := Jr.got_none h
  rw [e1, e2]
  exact ⟨_, rfl, Jr.leaf_lies _ _ 0 0 0 ⟨#[]⟩ (by decide), hb⟩
set_option maxRecDepth 100000 in
set_option maxHeartbeats 4000000 in
theorem Jc.get (s : ByteArray) (w : World) (hT : Jt w) :
    Calls Tryz.prog 8 #[.string s] w fun e w' => ∃ v, e = .returned (.tuple #[v, .int .i64 (Js.gerr s.data.toList)]) ∧ (Js.got s.data.toList).Lies w' (fun g => w.heap.size ≤ g ∧ g < w'.heap.size) v ∧ Below w.heap.size w w' := by
  have HX0 : Hid (Vm.Box (w.alloc (.cells #[.int .i64 0, .int .i64 0, .int .u64 0, .string ⟨#[]⟩, .slice none 0 0, .slice none 0 0] 26)) w.heap.size (.int .i64 0) (.int .i64 0) (.int .u64 0) (.string ⟨#[]⟩) (.slice none 0 0) (.slice none 0 0)) := ⟨Vm.Has.new w _ _ rfl⟩
  have HB0 := Lib.hid ((Below.refl w.heap.size w).alloc (Nat.le_refl _) (.cells #[.int .i64 0, .int .i64 0, .int .u64 0, .string ⟨#[]⟩, .slice none 0 0, .slice none 0 0] 26))
  have HT0 := Lib.hid (hT.on HB0.out)
  clear hT
  by_cases hlong : 65536 < s.size
  · have hg : Jr.get s.data.toList = none := by
      unfold Jr.get
      rw [if_pos (.inl (by rw [Wk.len_data]; exact hlong))]
    have HG := Lib.hid hg
    have d1 : decide ((65536 : Int) < (s.size : Int)) = true := decide_eq_true (by omega)
    clear hg hlong HT0
    go_enter Tryz.func8, Tryz.ntmps8
    go_wp2
    refine bodyPost_ret (v := .tuple #[.agg #[.int .i64 0, .int .i64 0, .int .u64 0, .string ⟨#[]⟩, .slice none 0 0, .slice none 0 0], .int .i64 1000]) (by simp [results, Tryz.results8, go_sem]) rfl ?_
    exact Jr.no_end HG.out HB0.out
  · have d1 : decide ((65536 : Int) < (s.size : Int)) = false := decide_eq_false (by omega)
    have my := Wk.may s _ HT0.out.utf (by unfold maxLen; omega)
    have hr := fun u => Jr.readW s (by omega) u
    by_cases hm : Pl.mayL s.data.toList = true
    · rw [hm] at my
      cases hrd : Jr.read s.data.toList with
      | none =>
        rw [hrd] at hr
        have HG : Hid (Jr.get s.data.toList = none) := by
          unfold Hid Jr.get
          rw [if_neg (by rw [Wk.len_data, hm]; simp; omega), hrd]
        clear hm hrd hlong HT0
        go_enter Tryz.func8, Tryz.ntmps8
        go_wp2_with (first | (go_at_call 21; refine my.mono ?_; rintro e1 w1 ⟨rfl, b1⟩; have HX1 : Hid (Vm.Box w1 w.heap.size (.int .i64 0) (.int .i64 0) (.int .u64 0) (.string ⟨#[]⟩) (.slice none 0 0) (.slice none 0 0)) := ⟨(b1.block _ HX0.out.lt).trans HX0.out.all⟩; have HB1 := Lib.hid (HB0.out.trans (b1.mono HB0.out.size)); clear b1 my) | (go_at_call 22; refine (hr _).mono ?_; rintro e2 w2 ⟨rfl, b2⟩; have HX2 : Hid (Vm.Box w2 w.heap.size (.int .i64 0) (.int .i64 0) (.int .u64 0) (.string ⟨#[]⟩) (.slice none 0 0) (.slice none 0 0)) := ⟨(b2.block _ HX1.out.lt).trans HX1.out.all⟩; have HB2 := Lib.hid (HB1.out.trans (b2.mono HB1.out.size)); have HX3 := Lib.hid (HX2.out.alloc HX2.out.lt (.cells #[.int .i64 0, .int .i64 0, .int .u64 0, .string ⟨#[]⟩, .slice none 0 0, .slice none 0 0] 26)); have HB3 := Lib.hid (HB2.out.alloc HB2.out.size (.cells #[.int .i64 0, .int .i64 0, .int .u64 0, .string ⟨#[]⟩, .slice none 0 0, .slice none 0 0] 26)); obtain ⟨c0, c1, c2, c3, c4, c5⟩ := HX3.out.cells; have f0 := HX3.out.has.frozen 0; have f1 := HX3.out.has.frozen 1; have f2 := HX3.out.has.frozen 2; have f3 := HX3.out.has.frozen 3; have f4 := HX3.out.has.frozen 4; have f5 := HX3.out.has.frozen 5; clear b2 hr))
        obtain ⟨W, hW, hX, hb⟩ := Jr.six HX3.out (.int .i64 0) (.int .i64 0) (.int .u64 0) (.string ⟨#[]⟩) (.slice none 0 0) (.slice none 0 0)
        rw [hW]
        obtain ⟨x0, x1, x2, x3, x4, x5⟩ := hX.cells
        refine bodyPost_ret (v := .tuple #[.agg #[.int .i64 0, .int .i64 0, .int .u64 0, .string ⟨#[]⟩, .slice none 0 0, .slice none 0 0], .int .i64 1000]) (by simp [results, Tryz.results8, go_sem, x0, x1, x2, x3, x4, x5]) rfl ?_
        exact Jr.no_end HG.out (HB3.out.trans hb)
      | some t =>
        rw [hrd] at hr
        have hgt : Jr.get s.data.toList = if t.may = true then some t else none := by
          unfold Jr.get
          rw [if_neg (by rw [Wk.len_data, hm]; simp; omega), hrd]
        have mv := fun v u h => Vm.may t v u h
        clear hm hrd hlong HT0
        by_cases hmay : t.may = true
        · rw [if_pos hmay] at hgt
          rw [hmay] at mv
          have HG := Lib.hid hgt
          clear hgt hmay
          go_enter Tryz.func8, Tryz.ntmps8
          go_wp2_with (first | (go_at_call 21; refine my.mono ?_; rintro e1 w1 ⟨rfl, b1⟩; have HX1 : Hid (Vm.Box w1 w.heap.size (.int .i64 0) (.int .i64 0) (.int .u64 0) (.string ⟨#[]⟩) (.slice none 0 0) (.slice none 0 0)) := ⟨(b1.block _ HX0.out.lt).trans HX0.out.all⟩; have HB1 := Lib.hid (HB0.out.trans (b1.mono HB0.out.size)); clear b1 my) | (go_at_call 22; refine (hr _).mono ?_; rintro e2 w2 ⟨⟨v2, rfl, l2⟩, b2⟩; obtain ⟨k3, y3, z3, s3, ai3, n3, m3, ak3, o3, d3, rfl⟩ := l2.form; have HX2 : Hid (Vm.Box w2 w.heap.size (.int .i64 0) (.int .i64 0) (.int .u64 0) (.string ⟨#[]⟩) (.slice none 0 0) (.slice none 0 0)) := ⟨(b2.block _ HX1.out.lt).trans HX1.out.all⟩; have HB2 := Lib.hid (HB1.out.trans (b2.mono HB1.out.size)); have HX3 := Lib.hid (HX2.out.alloc HX2.out.lt (.cells #[.int .i64 k3, .int .i64 y3, .int .u64 (z3 : Int), .string s3, .slice ai3 n3 m3, .slice ak3 o3 d3] 26)); have HB3 := Lib.hid (HB2.out.alloc HB2.out.size (.cells #[.int .i64 k3, .int .i64 y3, .int .u64 (z3 : Int), .string s3, .slice ai3 n3 m3, .slice ak3 o3 d3] 26)); have HV3 : Hid (Vm.Box (w2.alloc (.cells #[.int .i64 k3, .int .i64 y3, .int .u64 (z3 : Int), .string s3, .slice ai3 n3 m3, .slice ak3 o3 d3] 26)) w2.heap.size (.int .i64 k3) (.int .i64 y3) (.int .u64 (z3 : Int)) (.string s3) (.slice ai3 n3 m3) (.slice ak3 o3 d3)) := ⟨Vm.Has.new w2 _ _ rfl⟩; have HL3 : Hid (t.Lies (w2.alloc (.cells #[.int .i64 k3, .int .i64 y3, .int .u64 (z3 : Int), .string s3, .slice ai3 n3 m3, .slice ak3 o3 d3] 26)) (fun k => w.heap.size + 1 ≤ k ∧ k < (w2.alloc (.cells #[.int .i64 k3, .int .i64 y3, .int .u64 (z3 : Int), .string s3, .slice ai3 n3 m3, .slice ak3 o3 d3] 26)).heap.size) (.agg #[.int .i64 k3, .int .i64 y3, .int .u64 (z3 : Int), .string s3, .slice ai3 n3 m3, .slice ak3 o3 d3])) := l2.on (fun k hk => ⟨⟨Nat.le_trans HX1.out.lt hk.1, Nat.lt_of_lt_of_le hk.2 (by simp)⟩, Below.heap_alloc _ _ _ hk.2⟩); replace mv := mv (.agg #[.int .i64 k3, .int .i64 y3, .int .u64 (z3 : Int), .string s3, .slice ai3 n3 m3, .slice ak3 o3 d3]) (w2.alloc (.cells #[.int .i64 k3, .int .i64 y3, .int .u64 (z3 : Int), .string s3, .slice ai3 n3 m3, .slice ak3 o3 d3] 26)) (HL3.out.on (fun k hk => ⟨hk.2, rfl⟩)); clear b2 hr l2) | (go_at_call 15; refine mv.mono ?_; rintro e4 w4 ⟨rfl, b4⟩; have HX4 : Hid (Vm.Box w4 w.heap.size (.int .i64 0) (.int .i64 0) (.int .u64 0) (.string ⟨#[]⟩) (.slice none 0 0) (.slice none 0 0)) := ⟨(b4.block _ HX3.out.lt).trans HX3.out.all⟩; have HB4 := Lib.hid (HB3.out.trans (b4.mono HB3.out.size)); have HV4 : Hid (Vm.Box w4 w2.heap.size (.int .i64 k3) (.int .i64 y3) (.int .u64 (z3 : Int)) (.string s3) (.slice ai3 n3 m3) (.slice ak3 o3 d3)) := ⟨(b4.block _ HV3.out.lt).trans HV3.out.all⟩; obtain ⟨v0, v1, v2, v3, v4, v5⟩ := HV4.out.cells; have HL4 : Hid (t.Lies w4 (fun k => w.heap.size + 1 ≤ k ∧ k < w4.heap.size) (.agg #[.int .i64 k3, .int .i64 y3, .int .u64 (z3 : Int), .string s3, .slice ai3 n3 m3, .slice ak3 o3 d3])) := HL3.out.on (fun k hk => ⟨⟨hk.1, Nat.lt_of_lt_of_le hk.2 b4.size⟩, b4.block k hk.2⟩); obtain ⟨c0, c1, c2, c3, c4, c5⟩ := HX4.out.cells; have f0 := HX4.out.has.frozen 0; have f1 := HX4.out.has.frozen 1; have f2 := HX4.out.has.frozen 2; have f3 := HX4.out.has.frozen 3; have f4 := HX4.out.has.frozen 4; have f5 := HX4.out.has.frozen 5; clear b4 mv))
          obtain ⟨W, hW, hX, hb⟩ := Jr.six HX4.out (.int .i64 k3) (.int .i64 y3) (.int .u64 (z3 : Int)) (.string s3) (.slice ai3 n3 m3) (.slice ak3 o3 d3)
          have hq : ∀ k, k ≠ w.heap.size → W.heap[k]? = w4.heap[k]? := fun k hk => by rw [← hW]; exact Jr.six_other w4 w.heap.size 0 _ _ _ _ _ _ k hk
          have hsz : W.heap.size = w4.heap.size := by rw [← hW]; simp only [Jr.set_size]
          rw [hW]
          obtain ⟨x0, x1, x2, x3, x4, x5⟩ := hX.cells
          refine bodyPost_ret (v := .tuple #[.agg #[.int .i64 k3, .int .i64 y3, .int .u64 (z3 : Int), .string s3, .slice ai3 n3 m3, .slice ak3 o3 d3], .int .i64 0]) (by simp [results, Tryz.results8, go_sem, x0, x1, x2, x3, x4, x5]) rfl ?_
          obtain ⟨e1, e2⟩ := Jr.got_some HG.out
          rw [e1, e2]
          exact ⟨_, rfl, HL4.out.on fun k hk => ⟨⟨by have := hk.1; omega, by have := hk.2; omega⟩, hq k (by have := hk.1; omega)⟩, HB4.out.trans hb⟩
        · rw [if_neg hmay] at hgt
          rw [Bool.eq_false_iff.2 hmay] at mv
          have HG := Lib.hid hgt
          clear hgt hmay
          go_enter Tryz.func8, Tryz.ntmps8
          go_wp2_with (first | (go_at_call 21; refine my.mono ?_; rintro e1 w1 ⟨rfl, b1⟩; have HX1 : Hid (Vm.Box w1 w.heap.size (.int .i64 0) (.int .i64 0) (.int .u64 0) (.string ⟨#[]⟩) (.slice none 0 0) (.slice none 0 0)) := ⟨(b1.block _ HX0.out.lt).trans HX0.out.all⟩; have HB1 := Lib.hid (HB0.out.trans (b1.mono HB0.out.size)); clear b1 my) | (go_at_call 22; refine (hr _).mono ?_; rintro e2 w2 ⟨⟨v2, rfl, l2⟩, b2⟩; obtain ⟨k3, y3, z3, s3, ai3, n3, m3, ak3, o3, d3, rfl⟩ := l2.form; have HX2 : Hid (Vm.Box w2 w.heap.size (.int .i64 0) (.int .i64 0) (.int .u64 0) (.string ⟨#[]⟩) (.slice none 0 0) (.slice none 0 0)) := ⟨(b2.block _ HX1.out.lt).trans HX1.out.all⟩; have HB2 := Lib.hid (HB1.out.trans (b2.mono HB1.out.size)); have HX3 := Lib.hid (HX2.out.alloc HX2.out.lt (.cells #[.int .i64 k3, .int .i64 y3, .int .u64 (z3 : Int), .string s3, .slice ai3 n3 m3, .slice ak3 o3 d3] 26)); have HB3 := Lib.hid (HB2.out.alloc HB2.out.size (.cells #[.int .i64 k3, .int .i64 y3, .int .u64 (z3 : Int), .string s3, .slice ai3 n3 m3, .slice ak3 o3 d3] 26)); have HV3 : Hid (Vm.Box (w2.alloc (.cells #[.int .i64 k3, .int .i64 y3, .int .u64 (z3 : Int), .string s3, .slice ai3 n3 m3, .slice ak3 o3 d3] 26)) w2.heap.size (.int .i64 k3) (.int .i64 y3) (.int .u64 (z3 : Int)) (.string s3) (.slice ai3 n3 m3) (.slice ak3 o3 d3)) := ⟨Vm.Has.new w2 _ _ rfl⟩; have HL3 : Hid (t.Lies (w2.alloc (.cells #[.int .i64 k3, .int .i64 y3, .int .u64 (z3 : Int), .string s3, .slice ai3 n3 m3, .slice ak3 o3 d3] 26)) (fun k => w.heap.size + 1 ≤ k ∧ k < (w2.alloc (.cells #[.int .i64 k3, .int .i64 y3, .int .u64 (z3 : Int), .string s3, .slice ai3 n3 m3, .slice ak3 o3 d3] 26)).heap.size) (.agg #[.int .i64 k3, .int .i64 y3, .int .u64 (z3 : Int), .string s3, .slice ai3 n3 m3, .slice ak3 o3 d3])) := l2.on (fun k hk => ⟨⟨Nat.le_trans HX1.out.lt hk.1, Nat.lt_of_lt_of_le hk.2 (by simp)⟩, Below.heap_alloc _ _ _ hk.2⟩); replace mv := mv (.agg #[.int .i64 k3, .int .i64 y3, .int .u64 (z3 : Int), .string s3, .slice ai3 n3 m3, .slice ak3 o3 d3]) (w2.alloc (.cells #[.int .i64 k3, .int .i64 y3, .int .u64 (z3 : Int), .string s3, .slice ai3 n3 m3, .slice ak3 o3 d3] 26)) (HL3.out.on (fun k hk => ⟨hk.2, rfl⟩)); clear b2 hr l2) | (go_at_call 15; refine mv.mono ?_; rintro e4 w4 ⟨rfl, b4⟩; have HX4 : Hid (Vm.Box w4 w.heap.size (.int .i64 0) (.int .i64 0) (.int .u64 0) (.string ⟨#[]⟩) (.slice none 0 0) (.slice none 0 0)) := ⟨(b4.block _ HX3.out.lt).trans HX3.out.all⟩; have HB4 := Lib.hid (HB3.out.trans (b4.mono HB3.out.size)); have HV4 : Hid (Vm.Box w4 w2.heap.size (.int .i64 k3) (.int .i64 y3) (.int .u64 (z3 : Int)) (.string s3) (.slice ai3 n3 m3) (.slice ak3 o3 d3)) := ⟨(b4.block _ HV3.out.lt).trans HV3.out.all⟩; obtain ⟨v0, v1, v2, v3, v4, v5⟩ := HV4.out.cells; have HL4 : Hid (t.Lies w4 (fun k => w.heap.size + 1 ≤ k ∧ k < w4.heap.size) (.agg #[.int .i64 k3, .int .i64 y3, .int .u64 (z3 : Int), .string s3, .slice ai3 n3 m3, .slice ak3 o3 d3])) := HL3.out.on (fun k hk => ⟨⟨hk.1, Nat.lt_of_lt_of_le hk.2 b4.size⟩, b4.block k hk.2⟩); obtain ⟨c0, c1, c2, c3, c4, c5⟩ := HX4.out.cells; have f0 := HX4.out.has.frozen 0; have f1 := HX4.out.has.frozen 1; have f2 := HX4.out.has.frozen 2; have f3 := HX4.out.has.frozen 3; have f4 := HX4.out.has.frozen 4; have f5 := HX4.out.has.frozen 5; clear b4 mv))
          obtain ⟨W, hW, hX, hb⟩ := Jr.six HX4.out (.int .i64 0) (.int .i64 0) (.int .u64 0) (.string ⟨#[]⟩) (.slice none 0 0) (.slice none 0 0)
          rw [hW]
          obtain ⟨x0, x1, x2, x3, x4, x5⟩ := hX.cells
          refine bodyPost_ret (v := .tuple #[.agg #[.int .i64 0, .int .i64 0, .int .u64 0, .string ⟨#[]⟩, .slice none 0 0, .slice none 0 0], .int .i64 1000]) (by simp [results, Tryz.results8, go_sem, x0, x1, x2, x3, x4, x5]) rfl ?_
          exact Jr.no_end HG.out (HB4.out.trans hb)
    · rw [Bool.eq_false_iff.2 hm] at my
      have HG : Hid (Jr.get s.data.toList = none) := by
        unfold Hid Jr.get
        rw [if_pos (.inr (Bool.eq_false_iff.2 hm))]
      clear hm hr hlong HT0
      go_enter Tryz.func8, Tryz.ntmps8
      go_wp2_with (go_at_call 21; refine my.mono ?_; rintro e1 w1 ⟨rfl, b1⟩; have HX1 : Hid (Vm.Box w1 w.heap.size (.int .i64 0) (.int .i64 0) (.int .u64 0) (.string ⟨#[]⟩) (.slice none 0 0) (.slice none 0 0)) := ⟨(b1.block _ HX0.out.lt).trans HX0.out.all⟩; have HB1 := Lib.hid (HB0.out.trans (b1.mono HB0.out.size)); obtain ⟨c0, c1, c2, c3, c4, c5⟩ := HX1.out.cells; have f0 := HX1.out.has.frozen 0; have f1 := HX1.out.has.frozen 1; have f2 := HX1.out.has.frozen 2; have f3 := HX1.out.has.frozen 3; have f4 := HX1.out.has.frozen 4; have f5 := HX1.out.has.frozen 5; clear b1 my)
      obtain ⟨W, hW, hX, hb⟩ := Jr.six HX1.out (.int .i64 0) (.int .i64 0) (.int .u64 0) (.string ⟨#[]⟩) (.slice none 0 0) (.slice none 0 0)
      rw [hW]
      obtain ⟨x0, x1, x2, x3, x4, x5⟩ := hX.cells
      refine bodyPost_ret (v := .tuple #[.agg #[.int .i64 0, .int .i64 0, .int .u64 0, .string ⟨#[]⟩, .slice none 0 0, .slice none 0 0], .int .i64 1000]) (by simp [results, Tryz.results8, go_sem, x0, x1, x2, x3, x4, x5]) rfl ?_
      exact Jr.no_end HG.out (HB1.out.trans hb)
end Go.Proofs.YtboalkfagfgnpaaGreatDoor

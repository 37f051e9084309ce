/-
  THE WALK of json.Get.
-/
import Derived.Test.YtiajclmhimkpnaaDoorBJRptoJMay1
import Derived.Test.YtiajclmhimkpnaaDoorBVForm6toVMay
import Derived.Test.YtiajclmhimkpnaaDoorBVGettoJBack
import Derived.Test.YtiajclmhimkpnaaDoorBEPlaintoVKit
import Derived.Test.YtiajclmhimkpnaaDoorBJSafetoQRow
import Derived.Test.YtiajclmhimkpnaaDoorBJPut3toJPut4
namespace Go.Proofs.YtiajclmhimkpnaaDoor
open Go.RowKit
theorem Jr.got_none {s : ByteArray} (h : Jr.get s.data.toList = none) : Js.gerr s.data.toList = 1000 ∧ Js.got s.data.toList = Js.leaf 0 0 0 ⟨#[]⟩ := by
  rw [Jr.get_eq] at h
  unfold Js.gerr Js.got
  rw [h]
  exact ⟨rfl, rfl⟩
theorem Jr.got_some {s : ByteArray} {t : Vt} (h : Jr.get s.data.toList = some t) : Js.gerr s.data.toList = 0 ∧ Js.got s.data.toList = t := by
  rw [Jr.get_eq] at h
  unfold Js.gerr Js.got
  rw [h]
  exact ⟨rfl, rfl⟩
/-- Get's end with an error -/
theorem Jr.no_end {w W : World} {s : ByteArray} (h : Jr.get s.data.toList = none) (hb : Below w.heap.size w W) :
    ∃ v, Ending.returned (.tuple #[.agg #[.int .i64 0, .int .i64 0, .int .u64 0, .string ⟨#[]⟩, .slice none 0 0, .slice none 0 0], .int .i64 1000]) = .returned (.tuple #[v, .int .i64 (Js.gerr s.data.toList)]) ∧ (Js.got s.data.toList).Lies W (fun g => w.heap.size ≤ g ∧ g < W.heap.size) v ∧ Below w.heap.size w W := by
  obtain ⟨e1, e2⟩ := Jr.got_none h
  rw [e1, e2]
  exact ⟨_, rfl, Jr.leaf_lies _ _ 0 0 0 ⟨#[]⟩ (by decide), hb⟩
set_option maxRecDepth 100000 in
set_option maxHeartbeats 4000000 in
theorem Jc.get (s : ByteArray) (w : World) (hT : Jt w) :
    Calls Tryd.prog 10 #[.string s] w fun e w' => ∃ v, e = .returned (.tuple #[v, .int .i64 (Js.gerr s.data.toList)]) ∧ (Js.got s.data.toList).Lies w' (fun g => w.heap.size ≤ g ∧ g < w'.heap.size) v ∧ Below w.heap.size w w' := by
  have HX0 : Hid (Vm.Box (w.alloc (.cells #[.int .i64 0, .int .i64 0, .int .u64 0, .string ⟨#[]⟩, .slice none 0 0, .slice none 0 0] 29)) w.heap.size (.int .i64 0) (.int .i64 0) (.int .u64 0) (.string ⟨#[]⟩) (.slice none 0 0) (.slice none 0 0)) := ⟨Vm.Has.new w _ _ rfl⟩
  have HB0 := Lib.hid ((Below.refl w.heap.size w).alloc (Nat.le_refl _) (.cells #[.int .i64 0, .int .i64 0, .int .u64 0, .string ⟨#[]⟩, .slice none 0 0, .slice none 0 0] 29))
  have HT0 := Lib.hid (hT.on HB0.out)
  clear hT
  by_cases hlong : 65536 < s.size
  · have hg : Jr.get s.data.toList = none := by
      unfold Jr.get
      rw [if_pos (.inl (by rw [Wk.len_data]; exact hlong))]
    have HG := Lib.hid hg
    have d1 : decide ((65536 : Int) < (s.size : Int)) = true := decide_eq_true (by omega)
    clear hg hlong HT0
    go_enter Tryd.func10, Tryd.ntmps10
    go_wp2
    refine bodyPost_ret (v := .tuple #[.agg #[.int .i64 0, .int .i64 0, .int .u64 0, .string ⟨#[]⟩, .slice none 0 0, .slice none 0 0], .int .i64 1000]) (by simp [results, Tryd.results10, go_sem]) rfl ?_
    exact Jr.no_end HG.out HB0.out
  · have d1 : decide ((65536 : Int) < (s.size : Int)) = false := decide_eq_false (by omega)
    have my := Wk.may s _ HT0.out.utf (by unfold maxLen; omega)
    have hr := fun u => Jr.readW s (by omega) u
    by_cases hm : Pl.mayL s.data.toList = true
    · rw [hm] at my
      cases hrd : Jr.read s.data.toList with
      | none =>
        rw [hrd] at hr
        have HG : Hid (Jr.get s.data.toList = none) := by
          unfold Hid Jr.get
          rw [if_neg (by rw [Wk.len_data, hm]; simp; omega), hrd]
        clear hm hrd hlong HT0
        go_enter Tryd.func10, Tryd.ntmps10
        go_wp2_with (first | (go_at_call 18; refine my.mono ?_; rintro e1 w1 ⟨rfl, b1⟩; have HX1 : Hid (Vm.Box w1 w.heap.size (.int .i64 0) (.int .i64 0) (.int .u64 0) (.string ⟨#[]⟩) (.slice none 0 0) (.slice none 0 0)) := ⟨(b1.block _ HX0.out.lt).trans HX0.out.all⟩; have HB1 := Lib.hid (HB0.out.trans (b1.mono HB0.out.size)); clear b1 my) | (go_at_call 19; refine (hr _).mono ?_; rintro e2 w2 ⟨rfl, b2⟩; have HX2 : Hid (Vm.Box w2 w.heap.size (.int .i64 0) (.int .i64 0) (.int .u64 0) (.string ⟨#[]⟩) (.slice none 0 0) (.slice none 0 0)) := ⟨(b2.block _ HX1.out.lt).trans HX1.out.all⟩; have HB2 := Lib.hid (HB1.out.trans (b2.mono HB1.out.size)); have HX3 := Lib.hid (HX2.out.alloc HX2.out.lt (.cells #[.int .i64 0, .int .i64 0, .int .u64 0, .string ⟨#[]⟩, .slice none 0 0, .slice none 0 0] 29)); have HB3 := Lib.hid (HB2.out.alloc HB2.out.size (.cells #[.int .i64 0, .int .i64 0, .int .u64 0, .string ⟨#[]⟩, .slice none 0 0, .slice none 0 0] 29)); obtain ⟨c0, c1, c2, c3, c4, c5⟩ := HX3.out.cells; have f0 := HX3.out.has.frozen 0; have f1 := HX3.out.has.frozen 1; have f2 := HX3.out.has.frozen 2; have f3 := HX3.out.has.frozen 3; have f4 := HX3.out.has.frozen 4; have f5 := HX3.out.has.frozen 5; clear b2 hr))
        obtain ⟨W, hW, hX, hb⟩ := Jr.six HX3.out (.int .i64 0) (.int .i64 0) (.int .u64 0) (.string ⟨#[]⟩) (.slice none 0 0) (.slice none 0 0)
        rw [hW]
        obtain ⟨x0, x1, x2, x3, x4, x5⟩ := hX.cells
        refine bodyPost_ret (v := .tuple #[.agg #[.int .i64 0, .int .i64 0, .int .u64 0, .string ⟨#[]⟩, .slice none 0 0, .slice none 0 0], .int .i64 1000]) (by simp [results, Tryd.results10, go_sem, x0, x1, x2, x3, x4, x5]) rfl ?_
        exact Jr.no_end HG.out (HB3.out.trans hb)
      | some t =>
        rw [hrd] at hr
        have hgt : Jr.get s.data.toList = if t.may = true then some t else none := by
          unfold Jr.get
          rw [if_neg (by rw [Wk.len_data, hm]; simp; omega), hrd]
        have mv := fun v u h => Vm.may t v u h
        clear hm hrd hlong HT0
        by_cases hmay : t.may = true
        · rw [if_pos hmay] at hgt
          rw [hmay] at mv
          have HG := Lib.hid hgt
          clear hgt hmay
          go_enter Tryd.func10, Tryd.ntmps10
          go_wp2_with (first | (go_at_call 18; refine my.mono ?_; rintro e1 w1 ⟨rfl, b1⟩; have HX1 : Hid (Vm.Box w1 w.heap.size (.int .i64 0) (.int .i64 0) (.int .u64 0) (.string ⟨#[]⟩) (.slice none 0 0) (.slice none 0 0)) := ⟨(b1.block _ HX0.out.lt).trans HX0.out.all⟩; have HB1 := Lib.hid (HB0.out.trans (b1.mono HB0.out.size)); clear b1 my) | (go_at_call 19; refine (hr _).mono ?_; rintro e2 w2 ⟨⟨v2, rfl, l2⟩, b2⟩; obtain ⟨k3, y3, z3, s3, ai3, n3, m3, ak3, o3, d3, rfl⟩ := l2.form; have HX2 : Hid (Vm.Box w2 w.heap.size (.int .i64 0) (.int .i64 0) (.int .u64 0) (.string ⟨#[]⟩) (.slice none 0 0) (.slice none 0 0)) := ⟨(b2.block _ HX1.out.lt).trans HX1.out.all⟩; have HB2 := Lib.hid (HB1.out.trans (b2.mono HB1.out.size)); have HX3 := Lib.hid (HX2.out.alloc HX2.out.lt (.cells #[.int .i64 k3, .int .i64 y3, .int .u64 (z3 : Int), .string s3, .slice ai3 n3 m3, .slice ak3 o3 d3] 29)); have HB3 := Lib.hid (HB2.out.alloc HB2.out.size (.cells #[.int .i64 k3, .int .i64 y3, .int .u64 (z3 : Int), .string s3, .slice ai3 n3 m3, .slice ak3 o3 d3] 29)); have HV3 : Hid (Vm.Box (w2.alloc (.cells #[.int .i64 k3, .int .i64 y3, .int .u64 (z3 : Int), .string s3, .slice ai3 n3 m3, .slice ak3 o3 d3] 29)) w2.heap.size (.int .i64 k3) (.int .i64 y3) (.int .u64 (z3 : Int)) (.string s3) (.slice ai3 n3 m3) (.slice ak3 o3 d3)) := ⟨Vm.Has.new w2 _ _ rfl⟩; have HL3 : Hid (t.Lies (w2.alloc (.cells #[.int .i64 k3, .int .i64 y3, .int .u64 (z3 : Int), .string s3, .slice ai3 n3 m3, .slice ak3 o3 d3] 29)) (fun k => w.heap.size + 1 ≤ k ∧ k < (w2.alloc (.cells #[.int .i64 k3, .int .i64 y3, .int .u64 (z3 : Int), .string s3, .slice ai3 n3 m3, .slice ak3 o3 d3] 29)).heap.size) (.agg #[.int .i64 k3, .int .i64 y3, .int .u64 (z3 : Int), .string s3, .slice ai3 n3 m3, .slice ak3 o3 d3])) := l2.on (fun k hk => ⟨⟨Nat.le_trans HX1.out.lt hk.1, Nat.lt_of_lt_of_le hk.2 (by simp)⟩, Below.heap_alloc _ _ _ hk.2⟩); replace mv := mv (.agg #[.int .i64 k3, .int .i64 y3, .int .u64 (z3 : Int), .string s3, .slice ai3 n3 m3, .slice ak3 o3 d3]) (w2.alloc (.cells #[.int .i64 k3, .int .i64 y3, .int .u64 (z3 : Int), .string s3, .slice ai3 n3 m3, .slice ak3 o3 d3] 29)) (HL3.out.on (fun k hk => ⟨hk.2, rfl⟩)); clear b2 hr l2) | (go_at_call 20; refine mv.mono ?_; rintro e4 w4 ⟨rfl, b4⟩; have HX4 : Hid (Vm.Box w4 w.heap.size (.int .i64 0) (.int .i64 0) (.int .u64 0) (.string ⟨#[]⟩) (.slice none 0 0) (.slice none 0 0)) := ⟨(b4.block _ HX3.out.lt).trans HX3.out.all⟩; have HB4 := Lib.hid (HB3.out.trans (b4.mono HB3.out.size)); have HV4 : Hid (Vm.Box w4 w2.heap.size (.int .i64 k3) (.int .i64 y3) (.int .u64 (z3 : Int)) (.string s3) (.slice ai3 n3 m3) (.slice ak3 o3 d3)) := ⟨(b4.block _ HV3.out.lt).trans HV3.out.all⟩; obtain ⟨v0, v1, v2, v3, v4, v5⟩ := HV4.out.cells; have HL4 : Hid (t.Lies w4 (fun k => w.heap.size + 1 ≤ k ∧ k < w4.heap.size) (.agg #[.int .i64 k3, .int .i64 y3, .int .u64 (z3 : Int), .string s3, .slice ai3 n3 m3, .slice ak3 o3 d3])) := HL3.out.on (fun k hk => ⟨⟨hk.1, Nat.lt_of_lt_of_le hk.2 b4.size⟩, b4.block k hk.2⟩); obtain ⟨c0, c1, c2, c3, c4, c5⟩ := HX4.out.cells; have f0 := HX4.out.has.frozen 0; have f1 := HX4.out.has.frozen 1; have f2 := HX4.out.has.frozen 2; have f3 := HX4.out.has.frozen 3; have f4 := HX4.out.has.frozen 4; have f5 := HX4.out.has.frozen 5; clear b4 mv))
          obtain ⟨W, hW, hX, hb⟩ := Jr.six HX4.out (.int .i64 k3) (.int .i64 y3) (.int .u64 (z3 : Int)) (.string s3) (.slice ai3 n3 m3) (.slice ak3 o3 d3)
          have hq : ∀ k, k ≠ w.heap.size → W.heap[k]? = w4.heap[k]? := fun k hk => by rw [← hW]; exact Jr.six_other w4 w.heap.size 0 _ _ _ _ _ _ k hk
          have hsz : W.heap.size = w4.heap.size := by rw [← hW]; simp only [Jr.set_size]
          rw [hW]
          obtain ⟨x0, x1, x2, x3, x4, x5⟩ := hX.cells
          refine bodyPost_ret (v := .tuple #[.agg #[.int .i64 k3, .int .i64 y3, .int .u64 (z3 : Int), .string s3, .slice ai3 n3 m3, .slice ak3 o3 d3], .int .i64 0]) (by simp [results, Tryd.results10, go_sem, x0, x1, x2, x3, x4, x5]) rfl ?_
          obtain ⟨e1, e2⟩ := Jr.got_some HG.out
          rw [e1, e2]
          exact ⟨_, rfl, HL4.out.on fun k hk => ⟨⟨by have := hk.1; omega, by have := hk.2; omega⟩, hq k (by have := hk.1; omega)⟩, HB4.out.trans hb⟩
        · rw [if_neg hmay] at hgt
          rw [Bool.eq_false_iff.2 hmay] at mv
          have HG := Lib.hid hgt
          clear hgt hmay
          go_enter Tryd.func10, Tryd.ntmps10
          go_wp2_with (first | (go_at_call 18; refine my.mono ?_; rintro e1 w1 ⟨rfl, b1⟩; have HX1 : Hid (Vm.Box w1 w.heap.size (.int .i64 0) (.int .i64 0) (.int .u64 0) (.string ⟨#[]⟩) (.slice none 0 0) (.slice none 0 0)) := ⟨(b1.block _ HX0.out.lt).trans HX0.out.all⟩; have HB1 := Lib.hid (HB0.out.trans (b1.mono HB0.out.size)); clear b1 my) | (go_at_call 19; refine (hr _).mono ?_; rintro e2 w2 ⟨⟨v2, rfl, l2⟩, b2⟩; obtain ⟨k3, y3, z3, s3, ai3, n3, m3, ak3, o3, d3, rfl⟩ := l2.form; have HX2 : Hid (Vm.Box w2 w.heap.size (.int .i64 0) (.int .i64 0) (.int .u64 0) (.string ⟨#[]⟩) (.slice none 0 0) (.slice none 0 0)) := ⟨(b2.block _ HX1.out.lt).trans HX1.out.all⟩; have HB2 := Lib.hid (HB1.out.trans (b2.mono HB1.out.size)); have HX3 := Lib.hid (HX2.out.alloc HX2.out.lt (.cells #[.int .i64 k3, .int .i64 y3, .int .u64 (z3 : Int), .string s3, .slice ai3 n3 m3, .slice ak3 o3 d3] 29)); have HB3 := Lib.hid (HB2.out.alloc HB2.out.size (.cells #[.int .i64 k3, .int .i64 y3, .int .u64 (z3 : Int), .string s3, .slice ai3 n3 m3, .slice ak3 o3 d3] 29)); have HV3 : Hid (Vm.Box (w2.alloc (.cells #[.int .i64 k3, .int .i64 y3, .int .u64 (z3 : Int), .string s3, .slice ai3 n3 m3, .slice ak3 o3 d3] 29)) w2.heap.size (.int .i64 k3) (.int .i64 y3) (.int .u64 (z3 : Int)) (.string s3) (.slice ai3 n3 m3) (.slice ak3 o3 d3)) := ⟨Vm.Has.new w2 _ _ rfl⟩; have HL3 : Hid (t.Lies (w2.alloc (.cells #[.int .i64 k3, .int .i64 y3, .int .u64 (z3 : Int), .string s3, .slice ai3 n3 m3, .slice ak3 o3 d3] 29)) (fun k => w.heap.size + 1 ≤ k ∧ k < (w2.alloc (.cells #[.int .i64 k3, .int .i64 y3, .int .u64 (z3 : Int), .string s3, .slice ai3 n3 m3, .slice ak3 o3 d3] 29)).heap.size) (.agg #[.int .i64 k3, .int .i64 y3, .int .u64 (z3 : Int), .string s3, .slice ai3 n3 m3, .slice ak3 o3 d3])) := l2.on (fun k hk => ⟨⟨Nat.le_trans HX1.out.lt hk.1, Nat.lt_of_lt_of_le hk.2 (by simp)⟩, Below.heap_alloc _ _ _ hk.2⟩); replace mv := mv (.agg #[.int .i64 k3, .int .i64 y3, .int .u64 (z3 : Int), .string s3, .slice ai3 n3 m3, .slice ak3 o3 d3]) (w2.alloc (.cells #[.int .i64 k3, .int .i64 y3, .int .u64 (z3 : Int), .string s3, .slice ai3 n3 m3, .slice ak3 o3 d3] 29)) (HL3.out.on (fun k hk => ⟨hk.2, rfl⟩)); clear b2 hr l2) | (go_at_call 20; refine mv.mono ?_; rintro e4 w4 ⟨rfl, b4⟩; have HX4 : Hid (Vm.Box w4 w.heap.size (.int .i64 0) (.int .i64 0) (.int .u64 0) (.string ⟨#[]⟩) (.slice none 0 0) (.slice none 0 0)) := ⟨(b4.block _ HX3.out.lt).trans HX3.out.all⟩; have HB4 := Lib.hid (HB3.out.trans (b4.mono HB3.out.size)); have HV4 : Hid (Vm.Box w4 w2.heap.size (.int .i64 k3) (.int .i64 y3) (.int .u64 (z3 : Int)) (.string s3) (.slice ai3 n3 m3) (.slice ak3 o3 d3)) := ⟨(b4.block _ HV3.out.lt).trans HV3.out.all⟩; obtain ⟨v0, v1, v2, v3, v4, v5⟩ := HV4.out.cells; have HL4 : Hid (t.Lies w4 (fun k => w.heap.size + 1 ≤ k ∧ k < w4.heap.size) (.agg #[.int .i64 k3, .int .i64 y3, .int .u64 (z3 : Int), .string s3, .slice ai3 n3 m3, .slice ak3 o3 d3])) := HL3.out.on (fun k hk => ⟨⟨hk.1, Nat.lt_of_lt_of_le hk.2 b4.size⟩, b4.block k hk.2⟩); obtain ⟨c0, c1, c2, c3, c4, c5⟩ := HX4.out.cells; have f0 := HX4.out.has.frozen 0; have f1 := HX4.out.has.frozen 1; have f2 := HX4.out.has.frozen 2; have f3 := HX4.out.has.frozen 3; have f4 := HX4.out.has.frozen 4; have f5 := HX4.out.has.frozen 5; clear b4 mv))
          obtain ⟨W, hW, hX, hb⟩ := Jr.six HX4.out (.int .i64 0) (.int .i64 0) (.int .u64 0) (.string ⟨#[]⟩) (.slice none 0 0) (.slice none 0 0)
          rw [hW]
          obtain ⟨x0, x1, x2, x3, x4, x5⟩ := hX.cells
          refine bodyPost_ret (v := .tuple #[.agg #[.int .i64 0, .int .i64 0, .int .u64 0, .string ⟨#[]⟩, .slice none 0 0, .slice none 0 0], .int .i64 1000]) (by simp [results, Tryd.results10, go_sem, x0, x1, x2, x3, x4, x5]) rfl ?_
          exact Jr.no_end HG.out (HB4.out.trans hb)
    · rw [Bool.eq_false_iff.2 hm] at my
      have HG : Hid (Jr.get s.data.toList = none) := by
        unfold Hid Jr.get
        rw [if_pos (.inr (Bool.eq_false_iff.2 hm))]
      clear hm hr hlong HT0
      go_enter Tryd.func10, Tryd.ntmps10
      go_wp2_with (go_at_call 18; refine my.mono ?_; rintro e1 w1 ⟨rfl, b1⟩; have HX1 : Hid (Vm.Box w1 w.heap.size (.int .i64 0) (.int .i64 0) (.int .u64 0) (.string ⟨#[]⟩) (.slice none 0 0) (.slice none 0 0)) := ⟨(b1.block _ HX0.out.lt).trans HX0.out.all⟩; have HB1 := Lib.hid (HB0.out.trans (b1.mono HB0.out.size)); obtain ⟨c0, c1, c2, c3, c4, c5⟩ := HX1.out.cells; have f0 := HX1.out.has.frozen 0; have f1 := HX1.out.has.frozen 1; have f2 := HX1.out.has.frozen 2; have f3 := HX1.out.has.frozen 3; have f4 := HX1.out.has.frozen 4; have f5 := HX1.out.has.frozen 5; clear b1 my)
      obtain ⟨W, hW, hX, hb⟩ := Jr.six HX1.out (.int .i64 0) (.int .i64 0) (.int .u64 0) (.string ⟨#[]⟩) (.slice none 0 0) (.slice none 0 0)
      rw [hW]
      obtain ⟨x0, x1, x2, x3, x4, x5⟩ := hX.cells
      refine bodyPost_ret (v := .tuple #[.agg #[.int .i64 0, .int .i64 0, .int .u64 0, .string ⟨#[]⟩, .slice none 0 0, .slice none 0 0], .int .i64 1000]) (by simp [results, Tryd.results10, go_sem, x0, x1, x2, x3, x4, x5]) rfl ?_
      exact Jr.no_end HG.out (HB1.out.trans hb)
end Go.Proofs.YtiajclmhimkpnaaDoor
/-
  THE WALK of stolelaw11.EscapeBack: it returns true.
-/
namespace Go.Proofs.YtiajclmhimkpnaaDoor
open Go.RowKit
theorem Je.ne {c d : UInt8} (h : c ≠ d) : ((c.toNat : Int) == (d.toNat : Int)) = false := by
  rw [beq_eq_false_iff_ne]
  exact fun q => h (UInt8.toNat_inj.1 (by omega))
theorem Je.at {X : ByteArray} {l : List UInt8} (hX : X = ⟨(Js.esc l).toArray⟩) {i : Nat} (h : i < X.size) : X[i] ≠ 34 ∧ X[i] ≠ 39 ∧ X[i] ≠ 96 ∧ X[i] ≠ 60 ∧ X[i] ≠ 62 ∧ X[i] ≠ 38 ∧ 32 ≤ X[i].toNat := by
  have hm : X[i] ∈ Js.esc l := by
    have e : X.data.toList = Js.esc l := by rw [hX]
    rw [← e]
    refine List.mem_of_getElem? (i := i) ?_
    rw [List.getElem?_eq_getElem (by rw [Array.length_toList]; exact h)]
    simp [ByteArray.getElem_eq_getElem_data]
  have ht := Je.esc_tame l _ hm
  unfold Je.tame at ht
  simp only [Bool.and_eq_true, decide_eq_true_eq, Bool.not_eq_true', decide_eq_false_iff_not] at ht
  exact ⟨ht.1.1.1.1.1.2, ht.1.1.1.1.2, ht.1.1.1.2, ht.1.1.2, ht.1.2, ht.2, ht.1.1.1.1.1.1⟩
/-- what stands within quotes is read -/
theorem Je.back {s : ByteArray} (h1 : s.size ≤ 21845) (h2 : (Js.esc s.data.toList).length ≤ 65534) : Js.got (34 :: (Js.esc s.data.toList ++ [34])) = Js.leaf 4 0 0 ⟨(Pl.normL s.data.toList).toArray⟩ ∧ Js.gerr (34 :: (Js.esc s.data.toList ++ [34])) = 0 := by
  have hm : (Js.leaf 4 0 0 s).may = true := by
    unfold Vt.may
    rw [Js.stand_leaf (by decide) (Js.formed4 (by omega))]
  have hg : Js.get (34 :: (Js.esc s.data.toList ++ [34])) = some (Js.leaf 4 0 0 ⟨(Pl.normL s.data.toList).toArray⟩) := by
    have := Js.get_put hm ⟨by decide, fun i hi => absurd hi (by omega)⟩ ⟨fun j hj => absurd hj (by omega), fun i hi => absurd hi (by omega)⟩ (by
      show (Js.quoted s.data.toList).length ≤ 65536
      unfold Js.quoted
      simp only [List.length_cons, List.length_append, List.length_nil]
      omega)
    exact this
  unfold Js.got Js.gerr
  rw [hg]
  exact ⟨rfl, rfl⟩
theorem Je.cat (a b : ByteArray) : (a ++ b).data.toList = a.data.toList ++ b.data.toList := by rw [ByteArray.data_append, Array.toList_append]
theorem Je.size (a b : ByteArray) : (a ++ b).size = a.size + b.size := by rw [← Wk.len_data, Je.cat, List.length_append, Wk.len_data, Wk.len_data]
theorem Je.len (l : List UInt8) : (⟨l.toArray⟩ : ByteArray).size = l.length := by rw [← Wk.len_data]
set_option maxRecDepth 100000 in
set_option maxHeartbeats 4000000 in
theorem Law.escapeBack (s t : ByteArray) (w : World) (hT : Lib.Utf8Tabs 1 2 w) (hs : s.size ≤ 137438953472) (ht : t.size ≤ 137438953472) : Calls Tryd.prog 4 #[.string s, .string t] w fun e w' => e = .returned (.bool true) ∧ Below w.heap.size w w' := by
  obtain ⟨X, hX⟩ : ∃ X : ByteArray, X = ⟨(Js.esc s.data.toList).toArray⟩ := ⟨_, rfl⟩
  obtain ⟨Y, hY⟩ : ∃ Y : ByteArray, Y = ⟨(Js.esc t.data.toList).toArray⟩ := ⟨_, rfl⟩
  obtain ⟨N, hN⟩ : ∃ N : ByteArray, N = ⟨(Pl.normL s.data.toList).toArray⟩ := ⟨_, rfl⟩
  have hXl : X.data.toList = Js.esc s.data.toList := by rw [hX]
  have hZ : X ++ Y = ⟨(Js.esc (N ++ t).data.toList).toArray⟩ := by
    rw [Je.cat, hN]
    show X ++ Y = ⟨(Js.esc (Pl.normL s.data.toList ++ t.data.toList)).toArray⟩
    rw [Je.side]
    refine ByteArray.ext (Array.toList_inj.1 ?_)
    rw [Je.cat, hX, hY]
  have hXs : X.size ≤ 2473901162496 := by
    rw [hX, Je.len]
    have := Js.esc_len s.data.toList
    rw [Wk.len_data] at this
    omega
  have hYs : Y.size ≤ 2473901162496 := by
    rw [hY, Je.len]
    have := Js.esc_len t.data.toList
    rw [Wk.len_data] at this
    omega
  have hNs : N.size ≤ 412316860416 := by
    rw [hN, Je.len]
    have := Pl.norm_short s.data.toList
    rw [Wk.len_data] at this
    omega
  have c1 := fun u hu => Je.prog s hX u hu (by omega)
  have c2 := fun u hu => Je.prog (N ++ t) hZ u hu (by rw [Je.size]; omega)
  have c3 := fun u hu => Je.prog t hY u hu (by omega)
  have nm := fun u => Sz.norm s u (by omega)
  rw [← hN] at nm
  have HB : Hid (∀ i (h : i < X.size), _) := fun i (h : i < X.size) => Je.at hX h
  have gt : s.size ≤ 21845 → X.size ≤ 65534 → ∀ u, Jt u → Calls Tryd.prog 10 #[.string (⟨#[34]⟩ ++ X ++ ⟨#[34]⟩)] u fun e w' => ∃ v, e = .returned (.tuple #[v, .int .i64 0]) ∧ (Js.leaf 4 0 0 N).Lies w' (fun g => u.heap.size ≤ g ∧ g < w'.heap.size) v ∧ Below u.heap.size u w' := by
    intro h1 h2 u hu
    have g := Jc.get (⟨#[34]⟩ ++ X ++ ⟨#[34]⟩) u hu
    have e : ((⟨#[34]⟩ : ByteArray) ++ X ++ ⟨#[34]⟩).data.toList = 34 :: (Js.esc s.data.toList ++ [34]) := by
      rw [Je.cat, Je.cat, hXl]
      rfl
    obtain ⟨g1, g2⟩ := Je.back h1 (by rw [hX, Je.len] at h2; exact h2)
    rw [e, g1, g2, ← hN] at g
    exact g
  have GT := Lib.hid gt
  have HT := Lib.hid hT
  have er := fun u => Vn.errno 0 u
  clear hX hY hN hXl hZ gt hT
  go_enter Tryd.func4, Tryd.ntmps4
  go_wp2_with (first | (go_at_call 8; refine (Je.awake _ HT.out).mono ?_; rintro e w1 ⟨rfl, b1⟩; have B1 := Lib.hid b1; clear b1) | (go_at_call 6; refine (c1 _ (Utf8Tabs_below HT.out B1.out)).mono ?_; rintro e w2 ⟨rfl, b2⟩; have B2 := Lib.hid (Wk.below_step B1.out b2); clear b2 c1 B1))
  go_loopw [6] (fun ix wr => ∃ i : Nat, i ≤ X.size ∧ ix = .int .i64 (i : Int) ∧ wr = w2) (fun ix _ => X.size - (intOf ix).toNat)
  case atStart => exact ⟨0, Nat.zero_le _, rfl, rfl⟩
  case round =>
    obtain ⟨i, hi, rfl, hw⟩ := hrel
    have hw := hw.symm
    subst hw
    by_cases hlt : i < X.size
    · have d1 : decide ((i : Int) < (X.size : Int)) = true := decide_eq_true (by omega)
      have d1n : decide (i < X.size) = true := decide_eq_true hlt
      obtain ⟨h1, h2, h3, h4, h5, h6, h7⟩ := HB.out i hlt
      have t1 : ((X[i].toNat : Int) == 34) = false := Je.ne (d := 34) h1
      have t2 : ((X[i].toNat : Int) == 39) = false := Je.ne (d := 39) h2
      have t3 : ((X[i].toNat : Int) == 96) = false := Je.ne (d := 96) h3
      have t4 : ((X[i].toNat : Int) == 60) = false := Je.ne (d := 60) h4
      have t5 : ((X[i].toNat : Int) == 62) = false := Je.ne (d := 62) h5
      have t6 : ((X[i].toNat : Int) == 38) = false := Je.ne (d := 38) h6
      have t7 : decide ((X[i].toNat : Int) < 32) = false := decide_eq_false (by omega)
      clear h1 h2 h3 h4 h5 h6 h7 HB GT c2 c3 nm
      go_wp2_with fail
      go_roundw
      case rel => exact ⟨i + 1, by omega, by go_num, by first | rfl | trivial⟩
      case measure => simp [intOf]; omega
    · have d1 : decide ((i : Int) < (X.size : Int)) = false := decide_eq_false (by omega)
      have d1n : decide (i < X.size) = false := decide_eq_false hlt
      clear HB
      by_cases hlX : 65534 < X.size
      · have x1 : decide ((65534 : Int) < (X.size : Int)) = true := decide_eq_true (by omega)
        have x1n : decide (65534 < X.size) = true := decide_eq_true hlX
        clear GT
        go_wp2_with (first | (go_at_call 9; refine (nm _).mono ?_; rintro e w3 ⟨rfl, b3⟩; have B3 := Lib.hid (Wk.below_step B2.out b3); clear b3 B2) | (go_at_call 6; refine (c2 _ (Utf8Tabs_below HT.out B3.out)).mono ?_; rintro e w4 ⟨rfl, b4⟩; have B4 := Lib.hid (Wk.below_step B3.out b4); clear b4 c2 B3) | (go_at_call 6; refine (c3 _ (Utf8Tabs_below HT.out B4.out)).mono ?_; rintro e w5 ⟨rfl, b5⟩; have B5 := Lib.hid (Wk.below_step B4.out b5); clear b5 c3 B4))
        go_ret
        exact ⟨rfl, B5.out⟩
      · have x1 : decide ((65534 : Int) < (X.size : Int)) = false := decide_eq_false (by omega)
        have x1n : decide (65534 < X.size) = false := decide_eq_false hlX
        by_cases hls : 21845 < s.size
        · have x2 : decide ((21845 : Int) < (s.size : Int)) = true := decide_eq_true (by omega)
          have x2n : decide (21845 < s.size) = true := decide_eq_true hls
          clear GT
          go_wp2_with (first | (go_at_call 9; refine (nm _).mono ?_; rintro e w3 ⟨rfl, b3⟩; have B3 := Lib.hid (Wk.below_step B2.out b3); clear b3 B2) | (go_at_call 6; refine (c2 _ (Utf8Tabs_below HT.out B3.out)).mono ?_; rintro e w4 ⟨rfl, b4⟩; have B4 := Lib.hid (Wk.below_step B3.out b4); clear b4 c2 B3) | (go_at_call 6; refine (c3 _ (Utf8Tabs_below HT.out B4.out)).mono ?_; rintro e w5 ⟨rfl, b5⟩; have B5 := Lib.hid (Wk.below_step B4.out b5); clear b5 c3 B4))
          go_ret
          exact ⟨rfl, B5.out⟩
        · have x2 : decide ((21845 : Int) < (s.size : Int)) = false := decide_eq_false (by omega)
          have x2n : decide (21845 < s.size) = false := decide_eq_false hls
          have gt := GT.out (by omega) (by omega)
          have zz : (⟨#[34]⟩ : ByteArray).size = 1 := rfl
          have sz := Je.size
          clear GT
          go_wp2_with (first | (go_at_call 9; refine (nm _).mono ?_; rintro e w3 ⟨rfl, b3⟩; have B3 := Lib.hid (Wk.below_step B2.out b3); clear b3 B2) | (go_at_call 6; refine (c2 _ (Utf8Tabs_below HT.out B3.out)).mono ?_; rintro e w4 ⟨rfl, b4⟩; have B4 := Lib.hid (Wk.below_step B3.out b4); clear b4 c2 B3) | (go_at_call 6; refine (c3 _ (Utf8Tabs_below HT.out B4.out)).mono ?_; rintro e w5 ⟨rfl, b5⟩; have B5 := Lib.hid (Wk.below_step B4.out b5); clear b5 c3 B4))
          refine (gt _ ⟨Utf8Tabs_below HT.out B5.out⟩).mono ?_
          rintro e w6 ⟨v6, rfl, l6, b6⟩
          obtain ⟨ai, cc, ak, dd, rfl, _⟩ := l6
          have B6 := Lib.hid (Wk.below_step B5.out b6)
          clear b6 B5 gt sz zz
          have X6 : Hid (Vm.Box (w6.alloc (.cells #[.int .i64 4, .int .i64 0, .int .u64 ((0 : Nat) : Int), .string N, .slice ai 0 cc, .slice ak 0 dd] 29)) w6.heap.size _ _ _ _ _ _) := ⟨Vm.Has.new _ _ _ rfl⟩
          have B7 := Lib.hid (B6.out.alloc B6.out.size (.cells #[.int .i64 4, .int .i64 0, .int .u64 ((0 : Nat) : Int), .string N, .slice ai 0 cc, .slice ak 0 dd] 29))
          go_wp2_with fail
          generalize w6.alloc (.cells #[.int .i64 4, .int .i64 0, .int .u64 ((0 : Nat) : Int), .string N, .slice ai 0 cc, .slice ak 0 dd] 29) = W6 at *
          generalize w6.heap.size = g6 at *
          obtain ⟨q0, q1, q2, q3, q4, q5⟩ := X6.out.cells
          go_region_with (first | (go_at_call 11; refine (er _).mono ?_; rintro e w' ⟨rfl, hw⟩; have hw := hw.symm; subst hw) | (go_at_call 9; refine (nm _).mono ?_; rintro e w7 ⟨rfl, b7⟩; have B8 := Lib.hid (Wk.below_step (B7.out.drew) b7); have X7 := Lib.hid (X6.out.on X6.out.lt (Vs.back b7)); obtain ⟨y0, y1, y2, y3, y4, y5⟩ := X7.out.cells; clear b7))
          all_goals go_wp2
          all_goals go_ret
          all_goals exact ⟨rfl, B8.out⟩
end Go.Proofs.YtiajclmhimkpnaaDoor

/-
  THE WALK of stolelaw10.Jsons: it returns true.
-/
import Derived.Test.YtboalkfagfgnpaaGreatDoorCJPotoVRefT
import Derived.Test.YtboalkfagfgnpaaGreatDoorCJJsonZtoJsonBack
import Derived.Test.YtboalkfagfgnpaaGreatDoorCVCopyXtoRPlain
namespace Go.Proofs.YtboalkfagfgnpaaGreatDoor
open Go.RowKit
theorem Js.near_said (t : Vt) : Js.said t.near = Js.said t := by
  cases h : t.may with
  | true => rw [Vt.near_of h]
  | false =>
    unfold Js.said
    rw [Vt.near_may, h]
    rfl
theorem Js.near_err (t : Vt) : Js.err t.near = Js.err t := by
  cases h : t.may with
  | true => rw [Vt.near_of h]
  | false =>
    unfold Js.err
    rw [Vt.near_may, h]
    rfl
/-- what a call has given, in a variable -/
theorem Jz.S.made {t t' : Vt} {w u W : World} {g : Nat} {v0 v1 v2 v3 v4 v5 : Value} {r0 r1 r2 r3 r4 r5 : Value} (h : Jz.S t w u g v0 v1 v2 v3 v4 v5) (hb : Below u.heap.size u W) (hl : t'.Lies W (fun k => u.heap.size ≤ k ∧ k < W.heap.size) (.agg #[r0, r1, r2, r3, r4, r5])) :
    Jz.S t' w (W.alloc (.cells #[r0, r1, r2, r3, r4, r5] 26)) W.heap.size r0 r1 r2 r3 r4 r5 :=
  have h2 := (h.on hb).on (Jl.below (Below.refl W.heap.size W) (.cells #[r0, r1, r2, r3, r4, r5] 26))
  ⟨h2.low, h2.tab, ⟨Vm.new _ _⟩, hl.on fun g hg => ⟨by simp; omega, Below.heap_alloc _ _ _ hg.2⟩⟩
set_option maxRecDepth 100000 in
set_option maxHeartbeats 8000000 in
theorem Law.jsons (t : Vt) (v : Value) (s : ByteArray) (w : World) (hT : Jt w) (hl : t.Lies w (· < w.heap.size) v) (hm : t.sized) : Calls Tryz.prog 3 #[v, .string s] w fun e w' => e = .returned (.bool true) ∧ Below w.heap.size w w' := by
  obtain ⟨k, x, b, z, ai, n, c, ak, m, d, rfl⟩ := hl.form
  have LW := Jl.below (Below.refl w.heap.size w) (.cells #[.int .i64 k, .int .i64 x, .int .u64 (b : Int), .string z, .slice ai n c, .slice ak m d] 26)
  have S0 : Hid (Jz.S t w (w.alloc (.cells #[.int .i64 k, .int .i64 x, .int .u64 (b : Int), .string z, .slice ai n c, .slice ak m d] 26)) w.heap.size (.int .i64 k) (.int .i64 x) (.int .u64 (b : Int)) (.string z) (.slice ai n c) (.slice ak m d)) :=
    ⟨LW, hT.on LW, ⟨Vm.new _ _⟩, hl.on fun g hg => ⟨by simp; omega, Below.heap_alloc _ _ _ hg⟩⟩
  have er := fun x u => Vn.errno x u
  have HMO := Lib.hid hm
  clear hl LW hm hT
  obtain ⟨P, hP⟩ : ∃ P : ByteArray, P = ⟨(Js.said t).toArray⟩ := ⟨_, rfl⟩
  obtain ⟨E, hE⟩ : ∃ E : Int, E = Js.err t := ⟨_, rfl⟩
  have pt := fun v u hu hl => Jc.put t.near v u hu hl
  have px := fun v u hl => Jx.put t v u hl
  rw [Js.near_said, Js.near_err, ← hP, ← hE] at pt
  rw [← hP, ← hE] at px
  have gt := fun u hu => Jc.get s u hu
  have gx := fun u => Jp.read s u
  obtain ⟨G, hG⟩ : ∃ G : Vt, G = Js.got s.data.toList := ⟨_, rfl⟩
  obtain ⟨F, hF⟩ : ∃ F : Int, F = Js.gerr s.data.toList := ⟨_, rfl⟩
  rw [← hG, ← hF] at gt gx
  clear hP hE hG hF
  go_enter Tryz.func3, Tryz.ntmps3
  go_wp2_with fail
  generalize w.alloc (.cells #[.int .i64 k, .int .i64 x, .int .u64 (b : Int), .string z, .slice ai n c, .slice ak m d] 26) = W0 at *
  generalize w.heap.size = g0 at *
  refine (Cv.copyW t HMO.out 40 _ _ (by decide) S0.out.lies).mono ?_
  rintro e w1 ⟨v1, rfl, l1, h1⟩
  obtain ⟨k1, x1, b1, z1, ai1, n1, c1, ak1, m1, d1, rfl⟩ := l1.form
  have S1 := Lib.hid ((S0.out.on h1).on (Jl.below (Below.refl _ _) (.cells #[.int .i64 k1, .int .i64 x1, .int .u64 (b1 : Int), .string z1, .slice ai1 n1 c1, .slice ak1 m1 d1] 26)))
  have X1 := Lib.hid (S0.out.made h1 (Vt.near_lies l1))
  clear l1 h1 S0
  generalize hgW : w1.alloc (.cells #[.int .i64 k1, .int .i64 x1, .int .u64 (b1 : Int), .string z1, .slice ai1 n1 c1, .slice ak1 m1 d1] 26) = W1 at *
  obtain ⟨q0, q1, q2, q3, q4, q5⟩ := X1.out.box.cells
  go_wp2_with fail
  clear hgW
  generalize w1.heap.size = g1 at *
  refine (pt _ _ X1.out.tab X1.out.lies).mono ?_
  rintro e w2 ⟨rfl, h2⟩
  have S2 := Lib.hid (S1.out.on h2)
  have X2 := Lib.hid (X1.out.on h2)
  clear h2 S1 X1 pt q0 q1 q2 q3 q4 q5
  obtain ⟨q0, q1, q2, q3, q4, q5⟩ := S2.out.box.cells
  go_wp2_with fail
  refine (px _ _ S2.out.lies).mono ?_
  rintro e w3 ⟨rfl, h3⟩
  have S3 := Lib.hid (S2.out.on h3)
  have X3 := Lib.hid (X2.out.on h3)
  clear h3 S2 X2 px q0 q1 q2 q3 q4 q5
  go_wp2_with fail
  refine (gt _ S3.out.tab).mono ?_
  rintro e w4 ⟨v4, rfl, l4, h4⟩
  obtain ⟨k4, x4, b4, z4, ai4, n4, c4, ak4, m4, d4, rfl⟩ := l4.form
  have S4 := Lib.hid ((S3.out.on h4).on (Jl.below (Below.refl _ _) (.cells #[.int .i64 k4, .int .i64 x4, .int .u64 (b4 : Int), .string z4, .slice ai4 n4 c4, .slice ak4 m4 d4] 26)))
  have X4 := Lib.hid ((X3.out.on h4).on (Jl.below (Below.refl _ _) (.cells #[.int .i64 k4, .int .i64 x4, .int .u64 (b4 : Int), .string z4, .slice ai4 n4 c4, .slice ak4 m4 d4] 26)))
  have C4 := Lib.hid (S3.out.made h4 l4)
  clear l4 h4 S3 X3 gt
  generalize hgW : w4.alloc (.cells #[.int .i64 k4, .int .i64 x4, .int .u64 (b4 : Int), .string z4, .slice ai4 n4 c4, .slice ak4 m4 d4] 26) = W4 at *
  go_wp2_with fail
  clear hgW
  generalize w4.heap.size = g4 at *
  refine (gx _).mono ?_
  rintro e w5 ⟨v5, rfl, l5, h5⟩
  obtain ⟨k5, x5, b5, z5, ai5, n5, c5, ak5, m5, d5, rfl⟩ := l5.form
  have S5 := Lib.hid ((S4.out.on h5).on (Jl.below (Below.refl _ _) (.cells #[.int .i64 k5, .int .i64 x5, .int .u64 (b5 : Int), .string z5, .slice ai5 n5 c5, .slice ak5 m5 d5] 26)))
  have X5 := Lib.hid ((X4.out.on h5).on (Jl.below (Below.refl _ _) (.cells #[.int .i64 k5, .int .i64 x5, .int .u64 (b5 : Int), .string z5, .slice ai5 n5 c5, .slice ak5 m5 d5] 26)))
  have C5 := Lib.hid ((C4.out.on h5).on (Jl.below (Below.refl _ _) (.cells #[.int .i64 k5, .int .i64 x5, .int .u64 (b5 : Int), .string z5, .slice ai5 n5 c5, .slice ak5 m5 d5] 26)))
  have D5 := Lib.hid (S4.out.made h5 l5)
  clear l5 h5 S4 X4 C4 gx
  generalize hgW : w5.alloc (.cells #[.int .i64 k5, .int .i64 x5, .int .u64 (b5 : Int), .string z5, .slice ai5 n5 c5, .slice ak5 m5 d5] 26) = W5 at *
  go_wp2_with fail
  clear hgW
  generalize w5.heap.size = g5 at *
  have HGG := Lib.hid (Vt.eq_refl C5.out.lies.sound)
  have HNN := Lib.hid (Vt.eq_refl X5.out.lies.sound)
  obtain ⟨p0, p1, p2, p3, p4, p5⟩ := S5.out.box.cells
  obtain ⟨q0, q1, q2, q3, q4, q5⟩ := X5.out.box.cells
  obtain ⟨r0, r1, r2, r3, r4, r5⟩ := C5.out.box.cells
  obtain ⟨y0, y1, y2, y3, y4, y5⟩ := D5.out.box.cells
  go_region_with (first | (go_at_call 10; refine (er _ _).mono ?_; rintro e w' ⟨rfl, hw⟩; have hw := hw.symm; subst hw) | (go_at_call 11; refine (Jb.same HGG.out (C5.out.on (Below.refl _ _).drew).lies (D5.out.on (Below.refl _ _).drew).lies).mono ?_; rintro e w6 ⟨rfl, h6⟩; have S6 := Lib.hid (S5.out.on (Vs.back h6)); have X6 := Lib.hid (X5.out.on (Vs.back h6)); obtain ⟨p0, p1, p2, p3, p4, p5⟩ := S6.out.box.cells; obtain ⟨q0, q1, q2, q3, q4, q5⟩ := X6.out.box.cells; clear h6 HGG C5 D5 S5 X5) | (go_at_call 5; refine (Cv.copyW t HMO.out 40 _ _ (by decide) S6.out.lies).mono ?_; rintro e w7 ⟨v7, rfl, l7, h7⟩; obtain ⟨k7, x7, b7, z7, ai7, n7, c7, ak7, m7, d7, rfl⟩ := l7.form; have S7 := Lib.hid (S6.out.on h7); have X7 := Lib.hid (X6.out.on h7); have L7 := Lib.hid ((Vt.near_lies l7).on (R' := (· < w7.heap.size)) fun k hk => ⟨hk.2, rfl⟩); obtain ⟨q0, q1, q2, q3, q4, q5⟩ := X7.out.box.cells; clear h7 l7 S6 X6) | (go_at_call 11; refine (Jb.same HNN.out X7.out.lies L7.out).mono ?_; rintro e w8 ⟨rfl, h8⟩; have S8 := Lib.hid (S7.out.on h8); clear h8 HNN S7 X7 L7) | (go_at_call 12; refine (Ja.awake _ S8.out.tab).mono ?_; rintro e w9 ⟨rfl, h9⟩; have B9 := Lib.hid (S8.out.on h9).low; clear h9 S8))
  all_goals go_wp2
  all_goals go_ret
  all_goals exact ⟨rfl, B9.out⟩
end Go.Proofs.YtboalkfagfgnpaaGreatDoor

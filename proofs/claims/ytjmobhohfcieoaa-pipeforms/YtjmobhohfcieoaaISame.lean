/-
  THE WALK of stolelaw0.SamePipe, at the same commands.
-/
import Derived.Test.YtjmobhohfcieoaaIPipeMay
import Derived.Test.YtjmobhohfcieoaaGSame
import Derived.Deep.RegionHeld3
namespace Go.Proofs.Ytjmobhohfcieoaa
open Go.RowKit
theorem Sa.drewN {w u : World} (h : Below w.heap.size w u) (n : Nat) : Below w.heap.size w (u.drewN n) := ⟨h.os, h.tape, h.output, h.size, h.block⟩
set_option maxRecDepth 100000 in
set_option maxHeartbeats 4000000 in
theorem Sa.pipe0 (cs : List Cm) (v1 v2 : Value) (R R' : Nat → Prop) (w : World) (h1 : Dt.Lies w R (Cm.rows cs) v1) (h2 : Dt.Lies w R' (Cm.rows cs) v2) :
    Calls Try.prog 9 #[v1, v2] w fun e w' => e = .returned (.bool true) ∧ Below w.heap.size w w' := by
  obtain ⟨a1, d1, rfl, l1, m1, x1⟩ := Cm.get h1
  obtain ⟨a2, d2, rfl, l2, m2, x2⟩ := Cm.get h2
  have X1 := Lib.hid x1
  have X2 := Lib.hid x2
  have hml : cs.length ≤ 9223372036854775807 := by unfold maxLen at m1; omega
  clear x1 x2 h1 h2 m1 m2
  go_enter Try.func9, Try.ntmps9
  go_wp2_with fail
  go_loopw [5] (fun iv wr => ∃ i : Nat, i ≤ cs.length ∧ iv = .int .i64 (i : Int) ∧ Hid (Below w.heap.size w wr)) (fun iv _ => cs.length - (intOf iv).toNat)
  case atStart => exact ⟨0, Nat.zero_le _, rfl, Below.refl _ _⟩
  case round =>
    obtain ⟨i, hi, rfl, HW⟩ := hrel
    by_cases hlt : i < cs.length
    · have dlt : decide ((i : Int) < (cs.length : Int)) = true := decide_eq_true (by omega)
      obtain ⟨b1, o1, av1, rfl, _, c10, c11, hl1⟩ := X1.out i cs[i] (List.getElem?_eq_getElem hlt)
      obtain ⟨b2, o2, av2, rfl, _, c20, c21, hl2⟩ := X2.out i cs[i] (List.getElem?_eq_getElem hlt)
      obtain ⟨p1, q1, rfl, g1, n1, y1⟩ := Ar.get hl1
      obtain ⟨p2, q2, rfl, g2, n2, y2⟩ := Ar.get hl2
      have hid1 : i < d1 := by omega
      have hid2 : i < d2 := by omega
      generalize cs[i] = c at *
      have Y1 := Lib.hid y1
      have Y2 := Lib.hid y2
      have hm5 : c.args.length ≤ 9223372036854775807 := by unfold maxLen at n1; omega
      have k10 := Tp.keep HW.out c10
      have k11 := Tp.keep HW.out c11
      have k20 := Tp.keep HW.out c20
      have k21 := Tp.keep HW.out c21
      clear hl1 hl2 y1 y2 n1 n2
      go_wp2_with fail
      go_quiet (fail)
      have HW2 : Hid (Below w.heap.size w (wr.drewN nq)) := ⟨HW.out.os, HW.out.tape, HW.out.output, HW.out.size, HW.out.block⟩
      generalize wr.drewN nq = wq at *
      clear k10 k11 k20 k21 HW
      go_wp2_with fail
      go_loopw [6] (fun jv wr => ∃ j : Nat, j ≤ c.args.length ∧ jv = .int .i64 (j : Int) ∧ Hid (Below w.heap.size w wr)) (fun jv _ => c.args.length - (intOf jv).toNat)
      case atStart => exact ⟨0, Nat.zero_le _, rfl, HW2⟩
      case round =>
        obtain ⟨j, hj, rfl, HV⟩ := hrel
        have k11 := Tp.keep HV.out c11
        have k21 := Tp.keep HV.out c21
        by_cases hjl : j < c.args.length
        · have dlj : decide ((j : Int) < (c.args.length : Int)) = true := decide_eq_true (by omega)
          obtain ⟨b3, o3, pv3, rfl, _, x0, x1, x2, x3, x4, hp3⟩ := Y1.out j c.args[j] (List.getElem?_eq_getElem hjl)
          obtain ⟨b4, o4, pv4, rfl, _, z0, z1, z2, z3, z4, hp4⟩ := Y2.out j c.args[j] (List.getElem?_eq_getElem hjl)
          have x0 := Tp.keep HV.out x0
          have x1 := Tp.keep HV.out x1
          have x2 := Tp.keep HV.out x2
          have x3 := Tp.keep HV.out x3
          have x4 := Tp.keep HV.out x4
          have z0 := Tp.keep HV.out z0
          have z1 := Tp.keep HV.out z1
          have z2 := Tp.keep HV.out z2
          have z3 := Tp.keep HV.out z3
          have z4 := Tp.keep HV.out z4
          have hj1 : j < q1 := by omega
          have hj2 : j < q2 := by omega
          have st := fun u q => Sa.texts c.args[j].path pv3 pv4 (fun _ => True) (fun _ => True) u (hp3.later q) (hp4.later q)
          have ST := Lib.hid st
          obtain ⟨pa, pd, rfl, _, _, _⟩ := hp3
          obtain ⟨pb, pe, rfl, _, _, _⟩ := hp4
          generalize c.args[j] = z at *
          clear st c10 c11 c20 c21
          go_wp2_with fail
          go_region_held3 (fun u => u.cell? ⟨b1, o1 + i * 2 + 1, none⟩ = some (.slice (some ⟨b3, o3, none⟩) c.args.length q1) ∧ u.cell? ⟨b2, o2 + i * 2 + 1, none⟩ = some (.slice (some ⟨b4, o4, none⟩) c.args.length q2) ∧ u.cell? ⟨b3, o3 + j * 5, none⟩ = some (.int .i64 z.kind) ∧ u.cell? ⟨b3, o3 + j * 5 + 1, none⟩ = some (.string ⟨z.name.toArray⟩) ∧ u.cell? ⟨b3, o3 + j * 5 + 2, none⟩ = some (.slice pa z.path.length pd) ∧ u.cell? ⟨b3, o3 + j * 5 + 3, none⟩ = some (.int .i64 z.num) ∧ u.cell? ⟨b3, o3 + j * 5 + 4, none⟩ = some (.string ⟨z.text.toArray⟩) ∧ u.cell? ⟨b4, o4 + j * 5, none⟩ = some (.int .i64 z.kind) ∧ u.cell? ⟨b4, o4 + j * 5 + 1, none⟩ = some (.string ⟨z.name.toArray⟩) ∧ u.cell? ⟨b4, o4 + j * 5 + 2, none⟩ = some (.slice pb z.path.length pe) ∧ u.cell? ⟨b4, o4 + j * 5 + 3, none⟩ = some (.int .i64 z.num) ∧ u.cell? ⟨b4, o4 + j * 5 + 4, none⟩ = some (.string ⟨z.text.toArray⟩)) (go_keep) (fail)
          all_goals
            go_wp2_with (go_at_call 23; refine (ST.out _ (by refine Below.alloc (Below.alloc (Below.drew HV.out) ?_ _) ?_ _ <;> (have := HV.out.size; simp; omega))).mono ?_; rintro e w1 ⟨rfl, n1, rfl⟩)
            go_roundw
            case rel => exact ⟨j + 1, by omega, by go_num, Sa.drewN (by refine Below.alloc (Below.alloc HV.out ?_ _) ?_ _ <;> (have := HV.out.size; simp; omega)) _⟩
            case measure => simp [intOf]; omega
        · have ej : j = c.args.length := by omega
          subst ej
          have dlj : decide ((c.args.length : Int) < (c.args.length : Int)) = false := decide_eq_false (by omega)
          go_wp2_with fail
          go_roundw
          case rel => exact ⟨i + 1, by omega, by go_num, HV⟩
          case measure => simp [intOf]; omega
    · have ei : i = cs.length := by omega
      subst ei
      have dlt : decide ((cs.length : Int) < (cs.length : Int)) = false := decide_eq_false (by omega)
      go_wp2_with fail
      go_ret
      exact ⟨rfl, HW.out⟩
theorem Sa.pipe (cs : List Cm) (v1 v2 : Value) (R R' : Nat → Prop) (w : World) (h1 : Dt.Lies w R (Cm.rows cs) v1) (h2 : Dt.Lies w R' (Cm.rows cs) v2) (_hn : cs.length ≤ 1048576) :
    Calls Try.prog 9 #[v1, v2] w fun e w' => e = .returned (.bool true) ∧ Below w.heap.size w w' := Sa.pipe0 cs v1 v2 R R' w h1 h2
end Go.Proofs.Ytjmobhohfcieoaa

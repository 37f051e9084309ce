/-
  THE WALK of stolelaw4.Values.
-/
import Derived.Test.YtggfemdnoccmeaaDoorVFin
import Derived.Test.YtggfemdnoccmeaaDoorVSpoil
import Derived.Test.YtggfemdnoccmeaaDoorVRefT
import Derived.Test.YtggfemdnoccmeaaDoorVRefS
import Derived.Test.YtggfemdnoccmeaaDoorVRefG
import Derived.Test.YtggfemdnoccmeaaDoorVAwake
import Derived.Deep.RegionHeld
import Derived.Deep.Cut
namespace Go.Proofs.YtggfemdnoccmeaaDoor
open Go.RowKit

theorem Vv.two {u : World} {g h : Nat} {v0 v1 v2 v3 v4 v5 y0 y1 y2 y3 y4 y5 : Value} (A : Vm.Box u g v0 v1 v2 v3 v4 v5) (B : Vm.Box u h y0 y1 y2 y3 y4 y5) : u.cell? ⟨g, 0, none⟩ = some v0 ∧ u.cell? ⟨g, 1, none⟩ = some v1 ∧ u.cell? ⟨g, 2, none⟩ = some v2 ∧ u.cell? ⟨g, 3, none⟩ = some v3 ∧ u.cell? ⟨g, 4, none⟩ = some v4 ∧ u.cell? ⟨g, 5, none⟩ = some v5 ∧ u.cell? ⟨h, 0, none⟩ = some y0 ∧ u.cell? ⟨h, 1, none⟩ = some y1 ∧ u.cell? ⟨h, 2, none⟩ = some y2 ∧ u.cell? ⟨h, 3, none⟩ = some y3 ∧ u.cell? ⟨h, 4, none⟩ = some y4 ∧ u.cell? ⟨h, 5, none⟩ = some y5 :=
  ⟨A.cells.1, A.cells.2.1, A.cells.2.2.1, A.cells.2.2.2.1, A.cells.2.2.2.2.1, A.cells.2.2.2.2.2, B.cells.1, B.cells.2.1, B.cells.2.2.1, B.cells.2.2.2.1, B.cells.2.2.2.2.1, B.cells.2.2.2.2.2⟩
theorem Vv.short (t : Vt) (L : Nat) (p : Nat → ByteArray) : (t.get L p).1.short := by
  have hz : Vt.zero.short := ⟨fun j hj => absurd hj (by omega), fun i hi => absurd hi (by omega)⟩
  have key : ∀ (n : Nat) (u : Vt), t.fit → Vt.getTo t p n = .ok u → u.fit := by
    intro n
    induction n with
    | zero => intro u hf h; cases h; exact hf
    | succ n ih =>
      intro u hf h
      rw [Vt.getTo] at h
      cases e : Vt.getTo t p n with
      | error c => rw [e] at h; cases h
      | ok u' =>
        rw [e] at h
        have hu := ih u' hf e
        cases u' with
        | nil => exact hu.elim
        | mk k x b s n' it m ks =>
          simp only [Vt.under] at h
          split at h
          · next k6 =>
            subst k6
            rcases Vg.at_pos ks (p n).toList m with ⟨_, hp⟩ | ⟨I, _, hI, hp⟩
            · rw [hp] at h; cases h
            · rw [hp] at h
              cases h
              have := (Vt.formed6 hu.1).2.1
              exact hu.2 I (by omega)
          · cases h
  unfold Vt.get
  split
  · exact hz
  · next hc =>
    have hm : t.may = true := by
      cases e : t.may with
      | true => rfl
      | false => exact absurd (.inr e) hc
    cases e : Vt.getTo t p L with
    | error c => exact hz
    | ok u => exact (key L u (Vt.fit_of t 1 1024 hm) e).short
theorem Vv.four {u : World} {g h i j : Nat} {p0 p1 p2 p3 p4 p5 q0 q1 q2 q3 q4 q5 r0 r1 r2 r3 r4 r5 t0 t1 t2 t3 t4 t5 : Value} (A : Vm.Box u g p0 p1 p2 p3 p4 p5) (B : Vm.Box u h q0 q1 q2 q3 q4 q5) (C : Vm.Box u i r0 r1 r2 r3 r4 r5) (D : Vm.Box u j t0 t1 t2 t3 t4 t5) : u.cell? ⟨g, 0, none⟩ = some p0 ∧ u.cell? ⟨g, 1, none⟩ = some p1 ∧ u.cell? ⟨g, 2, none⟩ = some p2 ∧ u.cell? ⟨g, 3, none⟩ = some p3 ∧ u.cell? ⟨g, 4, none⟩ = some p4 ∧ u.cell? ⟨g, 5, none⟩ = some p5 ∧ u.cell? ⟨h, 0, none⟩ = some q0 ∧ u.cell? ⟨h, 1, none⟩ = some q1 ∧ u.cell? ⟨h, 2, none⟩ = some q2 ∧ u.cell? ⟨h, 3, none⟩ = some q3 ∧ u.cell? ⟨h, 4, none⟩ = some q4 ∧ u.cell? ⟨h, 5, none⟩ = some q5 ∧ u.cell? ⟨i, 0, none⟩ = some r0 ∧ u.cell? ⟨i, 1, none⟩ = some r1 ∧ u.cell? ⟨i, 2, none⟩ = some r2 ∧ u.cell? ⟨i, 3, none⟩ = some r3 ∧ u.cell? ⟨i, 4, none⟩ = some r4 ∧ u.cell? ⟨i, 5, none⟩ = some r5 ∧ u.cell? ⟨j, 0, none⟩ = some t0 ∧ u.cell? ⟨j, 1, none⟩ = some t1 ∧ u.cell? ⟨j, 2, none⟩ = some t2 ∧ u.cell? ⟨j, 3, none⟩ = some t3 ∧ u.cell? ⟨j, 4, none⟩ = some t4 ∧ u.cell? ⟨j, 5, none⟩ = some t5 :=
  ⟨A.cells.1, A.cells.2.1, A.cells.2.2.1, A.cells.2.2.2.1, A.cells.2.2.2.2.1, A.cells.2.2.2.2.2, B.cells.1, B.cells.2.1, B.cells.2.2.1, B.cells.2.2.2.1, B.cells.2.2.2.2.1, B.cells.2.2.2.2.2, C.cells.1, C.cells.2.1, C.cells.2.2.1, C.cells.2.2.2.1, C.cells.2.2.2.2.1, C.cells.2.2.2.2.2, D.cells.1, D.cells.2.1, D.cells.2.2.1, D.cells.2.2.2.1, D.cells.2.2.2.2.1, D.cells.2.2.2.2.2⟩
theorem Vv.sameKeys {L : Nat} {p : Nat → ByteArray} : Vt.sameKeys L L p p = true := by
  have : Vt.allTo (fun _ => true) L = true := Vt.allTo_iff.2 fun _ _ => rfl
  simp [Vt.sameKeys, this]
theorem Vv.keys {w w' : World} {L : Nat} {p : Nat → ByteArray} {ap : Option Addr} {dp : Nat} (h : Vt.Keys w (· < w.heap.size) L p ap dp) (hb : Below w.heap.size w w') : Vt.Keys w' (· < w'.heap.size) L p ap dp := h.on fun k hk => ⟨Nat.lt_of_lt_of_le hk hb.size, hb.block k hk⟩

set_option maxRecDepth 100000 in
set_option maxHeartbeats 16000000 in
theorem Vx.values (ta tb : Vt) (va vb : Value) (L : Nat) (p : Nat → ByteArray) (ap : Option Addr) (dp : Nat) (w : World) (ht : Re.Tabs w) (ha : ta.Lies w (· < w.heap.size) va) (hb : tb.Lies w (· < w.heap.size) vb) (hp : Vt.Keys w (· < w.heap.size) L p ap dp) (hma : ta.sized) (hmb : tb.sized) (hL : L * 16 ≤ 140737488355328) :
    Calls Tryd.prog 3 #[va, vb, .slice ap L dp] w fun e w' => e = .returned (.bool true) ∧ Below w.heap.size w w' := by
  obtain ⟨k1, x1, b1, s1, ai1, n1, c1, ak1, m1, d1, rfl⟩ := ha.form
  obtain ⟨k2, x2, b2, s2, ai2, n2, c2, ak2, m2, d2, rfl⟩ := hb.form
  have HA := Lib.hid ha
  have HB := Lib.hid hb
  have HP := Lib.hid hp
  have HMA := Lib.hid hma
  have HMB := Lib.hid hmb
  have HT := Lib.hid ht
  clear ha hb hp hma hmb ht
  go_enter Tryd.func3, Tryd.ntmps3
  go_wp2_with fail
  have BA : Vm.Box ((w.alloc (.cells #[.int .i64 k1, .int .i64 x1, .int .u64 (b1 : Int), .string s1, .slice ai1 n1 c1, .slice ak1 m1 d1] 26)).alloc (.cells #[.int .i64 k2, .int .i64 x2, .int .u64 (b2 : Int), .string s2, .slice ai2 n2 c2, .slice ak2 m2 d2] 26)) w.heap.size _ _ _ _ _ _ := ⟨(Vm.Has.new w (.cells #[.int .i64 k1, .int .i64 x1, .int .u64 (b1 : Int), .string s1, .slice ai1 n1 c1, .slice ak1 m1 d1] 26) _ rfl).alloc _⟩
  have BB : Vm.Box ((w.alloc (.cells #[.int .i64 k1, .int .i64 x1, .int .u64 (b1 : Int), .string s1, .slice ai1 n1 c1, .slice ak1 m1 d1] 26)).alloc (.cells #[.int .i64 k2, .int .i64 x2, .int .u64 (b2 : Int), .string s2, .slice ai2 n2 c2, .slice ak2 m2 d2] 26)) (w.heap.size + 1) _ _ _ _ _ _ := ⟨Vm.Has.new _ (.cells #[.int .i64 k2, .int .i64 x2, .int .u64 (b2 : Int), .string s2, .slice ai2 n2 c2, .slice ak2 m2 d2] 26) _ (by simp)⟩
  have hb0 : Below w.heap.size w ((w.alloc (.cells #[.int .i64 k1, .int .i64 x1, .int .u64 (b1 : Int), .string s1, .slice ai1 n1 c1, .slice ak1 m1 d1] 26)).alloc (.cells #[.int .i64 k2, .int .i64 x2, .int .u64 (b2 : Int), .string s2, .slice ai2 n2 c2, .slice ak2 m2 d2] 26)) := ((Below.refl _ _).alloc (Nat.le_refl _) _).alloc (by simp) _
  generalize (w.alloc (.cells #[.int .i64 k1, .int .i64 x1, .int .u64 (b1 : Int), .string s1, .slice ai1 n1 c1, .slice ak1 m1 d1] 26)).alloc (.cells #[.int .i64 k2, .int .i64 x2, .int .u64 (b2 : Int), .string s2, .slice ai2 n2 c2, .slice ak2 m2 d2] 26) = W0 at *
  have HBA := Lib.hid BA
  have HBB := Lib.hid BB
  have HB0 := Lib.hid hb0
  have HAL := Lib.hid (HA.out.on' hb0)
  have HBL := Lib.hid (HB.out.on' hb0)
  have HPL : Hid (Vt.Keys W0 (· < W0.heap.size) L p ap dp) := HP.out.on fun k hk => ⟨Nat.lt_of_lt_of_le hk hb0.size, hb0.block k hk⟩
  obtain ⟨a0, a1, a2, a3, a4, a5⟩ := BA.cells
  obtain ⟨e0, e1, e2, e3, e4, e5⟩ := BB.cells
  have nz0 : W0.heap.size ≠ w.heap.size := by have := BB.lt; omega
  have nz1 : W0.heap.size ≠ w.heap.size + 1 := by have := BB.lt; omega
  have nz2 : W0.heap.size + 1 ≠ w.heap.size := by have := BB.lt; omega
  have nz3 : W0.heap.size + 1 ≠ w.heap.size + 1 := by have := BB.lt; omega
  clear BA BB hb0
  go_cut [7, 8, 9] from 22 (fun s7 s8 s9 wc => Vv.R ta tb L p W0 s7 s8 s9 wc)
  case first =>
    go_region_held (fun u => u.cell? ⟨w.heap.size, 0, none⟩ = some (.int .i64 k1) ∧ u.cell? ⟨w.heap.size, 1, none⟩ = some (.int .i64 x1) ∧ u.cell? ⟨w.heap.size, 2, none⟩ = some (.int .u64 (b1 : Int)) ∧ u.cell? ⟨w.heap.size, 3, none⟩ = some (.string s1) ∧ u.cell? ⟨w.heap.size, 4, none⟩ = some (.slice ai1 n1 c1) ∧ u.cell? ⟨w.heap.size, 5, none⟩ = some (.slice ak1 m1 d1) ∧ u.cell? ⟨w.heap.size + 1, 0, none⟩ = some (.int .i64 k2) ∧ u.cell? ⟨w.heap.size + 1, 1, none⟩ = some (.int .i64 x2) ∧ u.cell? ⟨w.heap.size + 1, 2, none⟩ = some (.int .u64 (b2 : Int)) ∧ u.cell? ⟨w.heap.size + 1, 3, none⟩ = some (.string s2) ∧ u.cell? ⟨w.heap.size + 1, 4, none⟩ = some (.slice ai2 n2 c2) ∧ u.cell? ⟨w.heap.size + 1, 5, none⟩ = some (.slice ak2 m2 d2)) (go_keep) (first | (go_at_call_of 4 s1; refine (Cv.copy ta HMA.out 40 _ _ (by decide) (HAL.out.on' (by repeat (first | exact Below.refl _ _ | refine Below.drew ?_ | refine Below.alloc ?_ (by simp; try omega) _)))).mono ?_; rintro r w3 ⟨vx, rfl, hlx, hbx⟩; obtain ⟨k3, x3, b3, s3, ai3, n3, c3, ak3, m3, d3, rfl⟩ := hlx.form; have hX3 : Below W0.heap.size W0 w3 := Vm.then (by repeat (first | exact Below.refl _ _ | refine Below.drew ?_ | refine Below.alloc ?_ (by simp; try omega) _)) hbx; have hSw3 : w3.cell? ⟨w.heap.size, 0, none⟩ = some (.int .i64 k1) ∧ w3.cell? ⟨w.heap.size, 1, none⟩ = some (.int .i64 x1) ∧ w3.cell? ⟨w.heap.size, 2, none⟩ = some (.int .u64 (b1 : Int)) ∧ w3.cell? ⟨w.heap.size, 3, none⟩ = some (.string s1) ∧ w3.cell? ⟨w.heap.size, 4, none⟩ = some (.slice ai1 n1 c1) ∧ w3.cell? ⟨w.heap.size, 5, none⟩ = some (.slice ak1 m1 d1) ∧ w3.cell? ⟨w.heap.size + 1, 0, none⟩ = some (.int .i64 k2) ∧ w3.cell? ⟨w.heap.size + 1, 1, none⟩ = some (.int .i64 x2) ∧ w3.cell? ⟨w.heap.size + 1, 2, none⟩ = some (.int .u64 (b2 : Int)) ∧ w3.cell? ⟨w.heap.size + 1, 3, none⟩ = some (.string s2) ∧ w3.cell? ⟨w.heap.size + 1, 4, none⟩ = some (.slice ai2 n2 c2) ∧ w3.cell? ⟨w.heap.size + 1, 5, none⟩ = some (.slice ak2 m2 d2) := Vv.two (HBA.out.on HBA.out.lt hX3) (HBB.out.on HBB.out.lt hX3); (try (have p1 : Hid (Vm.Box w3 W0.heap.size (.int .i64 0) (.int .i64 0) (.int .u64 0) (.string ⟨#[]⟩) (.slice none 0 0) (.slice none 0 0)) := ⟨(hbx.block _ (by first | (simp; done) | (simp; omega))).trans (by first | exact Vm.Has.new W0 (.cells #[.int .i64 0, .int .i64 0, .int .u64 0, .string ⟨#[]⟩, .slice none 0 0, .slice none 0 0] 26) _ rfl | exact (Vm.Has.new W0 (.cells #[.int .i64 0, .int .i64 0, .int .u64 0, .string ⟨#[]⟩, .slice none 0 0, .slice none 0 0] 26) _ rfl).alloc (.cells #[.int .i64 0, .int .i64 0, .int .u64 0, .string ⟨#[]⟩, .slice none 0 0, .slice none 0 0] 26))⟩)); (try (have p2 : Hid (Vm.Box w3 (W0.heap.size + 1) (.int .i64 0) (.int .i64 0) (.int .u64 0) (.string ⟨#[]⟩) (.slice none 0 0) (.slice none 0 0)) := ⟨(hbx.block _ (by first | (simp; done) | (simp; omega))).trans (Vm.Has.new (W0.alloc (.cells #[.int .i64 0, .int .i64 0, .int .u64 0, .string ⟨#[]⟩, .slice none 0 0, .slice none 0 0] 26)) (.cells #[.int .i64 0, .int .i64 0, .int .u64 0, .string ⟨#[]⟩, .slice none 0 0, .slice none 0 0] 26) _ (by simp))⟩)); have z3 := hbx.size; (try (simp only [World.size_drew, World.size_alloc] at z3)); (try (simp only [World.size_drew, World.size_alloc] at hlx)); have HLX := Lib.hid hlx; have HX3 := Lib.hid hX3; have HZ3 := Lib.hid z3;  clear hlx hbx hX3 z3) | (go_at_call_of 4 s2; refine (Cv.copy tb HMB.out 40 _ _ (by decide) (HBL.out.on' (Vm.then HX3.out (by repeat (first | exact Below.refl _ _ | refine Below.drew ?_ | refine Below.alloc ?_ (by simp; try omega) _))))).mono ?_; rintro r w4 ⟨vy, rfl, hly, hby⟩; obtain ⟨k4, x4, b4, s4, ai4, n4, c4, ak4, m4, d4, rfl⟩ := hly.form; have h34 : Below w3.heap.size w3 w4 := Vm.then (by repeat (first | exact Below.refl _ _ | refine Below.drew ?_ | refine Below.alloc ?_ (by simp; try omega) _)) hby; (try (have q1 := Lib.hid (p1.out.on p1.out.lt h34))); (try (have q2 := Lib.hid (p2.out.on p2.out.lt h34))); (try (have q3 : Hid (Vm.Box w4 w3.heap.size (.int .i64 0) (.int .i64 0) (.int .u64 0) (.string ⟨#[]⟩) (.slice none 0 0) (.slice none 0 0)) := ⟨(hby.block _ (by first | (simp; done) | (simp; omega))).trans (by first | exact Vm.Has.new w3 (.cells #[.int .i64 0, .int .i64 0, .int .u64 0, .string ⟨#[]⟩, .slice none 0 0, .slice none 0 0] 26) _ rfl | exact (Vm.Has.new w3 (.cells #[.int .i64 0, .int .i64 0, .int .u64 0, .string ⟨#[]⟩, .slice none 0 0, .slice none 0 0] 26) _ rfl).alloc (.cells #[.int .i64 0, .int .i64 0, .int .u64 0, .string ⟨#[]⟩, .slice none 0 0, .slice none 0 0] 26))⟩)); (try (have q4 : Hid (Vm.Box w4 (w3.heap.size + 1) (.int .i64 0) (.int .i64 0) (.int .u64 0) (.string ⟨#[]⟩) (.slice none 0 0) (.slice none 0 0)) := ⟨(hby.block _ (by first | (simp; done) | (simp; omega))).trans (Vm.Has.new (w3.alloc (.cells #[.int .i64 0, .int .i64 0, .int .u64 0, .string ⟨#[]⟩, .slice none 0 0, .slice none 0 0] 26)) (.cells #[.int .i64 0, .int .i64 0, .int .u64 0, .string ⟨#[]⟩, .slice none 0 0, .slice none 0 0] 26) _ (by simp))⟩)); have z4 := hby.size; (try (simp only [World.size_alloc] at z4)); (try (simp only [World.size_alloc] at hly)); have hSw4 : w4.cell? ⟨w.heap.size, 0, none⟩ = some (.int .i64 k1) ∧ w4.cell? ⟨w.heap.size, 1, none⟩ = some (.int .i64 x1) ∧ w4.cell? ⟨w.heap.size, 2, none⟩ = some (.int .u64 (b1 : Int)) ∧ w4.cell? ⟨w.heap.size, 3, none⟩ = some (.string s1) ∧ w4.cell? ⟨w.heap.size, 4, none⟩ = some (.slice ai1 n1 c1) ∧ w4.cell? ⟨w.heap.size, 5, none⟩ = some (.slice ak1 m1 d1) ∧ w4.cell? ⟨w.heap.size + 1, 0, none⟩ = some (.int .i64 k2) ∧ w4.cell? ⟨w.heap.size + 1, 1, none⟩ = some (.int .i64 x2) ∧ w4.cell? ⟨w.heap.size + 1, 2, none⟩ = some (.int .u64 (b2 : Int)) ∧ w4.cell? ⟨w.heap.size + 1, 3, none⟩ = some (.string s2) ∧ w4.cell? ⟨w.heap.size + 1, 4, none⟩ = some (.slice ai2 n2 c2) ∧ w4.cell? ⟨w.heap.size + 1, 5, none⟩ = some (.slice ak2 m2 d2) := Vv.two (HBA.out.on HBA.out.lt (Vm.then HX3.out h34)) (HBB.out.on HBB.out.lt (Vm.then HX3.out h34)); have HLY := Lib.hid hly; have H34 := Lib.hid h34; have HZ4 := Lib.hid z4;  clear hly hby h34 z4) | (go_at_call 5; refine (Cv.texts L p ap dp _ (Vv.keys HPL.out (Vm.then (Vm.then HX3.out H34.out) (by repeat (first | exact Below.refl _ _ | refine Below.drew ?_ | refine Below.alloc ?_ (by simp; try omega) _)))) hL).mono ?_; rintro r w5 ⟨a5', d5', rfl, hkp, hbp⟩; have h45 : Below w4.heap.size w4 w5 := Vm.then (by repeat (first | exact Below.refl _ _ | refine Below.drew ?_ | refine Below.alloc ?_ (by simp; try omega) _)) hbp; (try (have r1 := Lib.hid (q1.out.on q1.out.lt h45))); (try (have r2 := Lib.hid (q2.out.on q2.out.lt h45))); (try (have r3 := Lib.hid (q3.out.on q3.out.lt h45))); (try (have r4 := Lib.hid (q4.out.on q4.out.lt h45))); (try (have r5 : Hid (Vm.Box w5 w4.heap.size (.int .i64 0) (.int .i64 0) (.int .u64 0) (.string ⟨#[]⟩) (.slice none 0 0) (.slice none 0 0)) := ⟨(hbp.block _ (by first | (simp; done) | (simp; omega))).trans (by first | exact Vm.Has.new w4 (.cells #[.int .i64 0, .int .i64 0, .int .u64 0, .string ⟨#[]⟩, .slice none 0 0, .slice none 0 0] 26) _ rfl | exact (Vm.Has.new w4 (.cells #[.int .i64 0, .int .i64 0, .int .u64 0, .string ⟨#[]⟩, .slice none 0 0, .slice none 0 0] 26) _ rfl).alloc (.cells #[.int .i64 0, .int .i64 0, .int .u64 0, .string ⟨#[]⟩, .slice none 0 0, .slice none 0 0] 26))⟩)); (try (have r6 : Hid (Vm.Box w5 (w4.heap.size + 1) (.int .i64 0) (.int .i64 0) (.int .u64 0) (.string ⟨#[]⟩) (.slice none 0 0) (.slice none 0 0)) := ⟨(hbp.block _ (by first | (simp; done) | (simp; omega))).trans (Vm.Has.new (w4.alloc (.cells #[.int .i64 0, .int .i64 0, .int .u64 0, .string ⟨#[]⟩, .slice none 0 0, .slice none 0 0] 26)) (.cells #[.int .i64 0, .int .i64 0, .int .u64 0, .string ⟨#[]⟩, .slice none 0 0, .slice none 0 0] 26) _ (by simp))⟩)); (try ((obtain ⟨y10, y11, y12, y13, y14, y15⟩ := r1.out.cells; have yf1 := fun i => r1.out.frozen i; have yg1 := fun o i => (r1.out.alloc r1.out.lt o).frozen i; have ya1 := fun o => (r1.out.alloc r1.out.lt o).cells))); (try ((obtain ⟨y20, y21, y22, y23, y24, y25⟩ := r2.out.cells; have yf2 := fun i => r2.out.frozen i; have yg2 := fun o i => (r2.out.alloc r2.out.lt o).frozen i; have ya2 := fun o => (r2.out.alloc r2.out.lt o).cells))); (try ((obtain ⟨y30, y31, y32, y33, y34, y35⟩ := r3.out.cells; have yf3 := fun i => r3.out.frozen i; have yg3 := fun o i => (r3.out.alloc r3.out.lt o).frozen i; have ya3 := fun o => (r3.out.alloc r3.out.lt o).cells))); (try ((obtain ⟨y40, y41, y42, y43, y44, y45⟩ := r4.out.cells; have yf4 := fun i => r4.out.frozen i; have yg4 := fun o i => (r4.out.alloc r4.out.lt o).frozen i; have ya4 := fun o => (r4.out.alloc r4.out.lt o).cells))); (try ((obtain ⟨y50, y51, y52, y53, y54, y55⟩ := r5.out.cells; have yf5 := fun i => r5.out.frozen i; have yg5 := fun o i => (r5.out.alloc r5.out.lt o).frozen i; have ya5 := fun o => (r5.out.alloc r5.out.lt o).cells))); (try ((obtain ⟨y60, y61, y62, y63, y64, y65⟩ := r6.out.cells; have yf6 := fun i => r6.out.frozen i; have yg6 := fun o i => (r6.out.alloc r6.out.lt o).frozen i; have ya6 := fun o => (r6.out.alloc r6.out.lt o).cells))); have z5 := hbp.size; (try (simp only [World.size_alloc] at z5)); (try (simp only [World.size_alloc] at hkp)); have hSw5 : w5.cell? ⟨w.heap.size, 0, none⟩ = some (.int .i64 k1) ∧ w5.cell? ⟨w.heap.size, 1, none⟩ = some (.int .i64 x1) ∧ w5.cell? ⟨w.heap.size, 2, none⟩ = some (.int .u64 (b1 : Int)) ∧ w5.cell? ⟨w.heap.size, 3, none⟩ = some (.string s1) ∧ w5.cell? ⟨w.heap.size, 4, none⟩ = some (.slice ai1 n1 c1) ∧ w5.cell? ⟨w.heap.size, 5, none⟩ = some (.slice ak1 m1 d1) ∧ w5.cell? ⟨w.heap.size + 1, 0, none⟩ = some (.int .i64 k2) ∧ w5.cell? ⟨w.heap.size + 1, 1, none⟩ = some (.int .i64 x2) ∧ w5.cell? ⟨w.heap.size + 1, 2, none⟩ = some (.int .u64 (b2 : Int)) ∧ w5.cell? ⟨w.heap.size + 1, 3, none⟩ = some (.string s2) ∧ w5.cell? ⟨w.heap.size + 1, 4, none⟩ = some (.slice ai2 n2 c2) ∧ w5.cell? ⟨w.heap.size + 1, 5, none⟩ = some (.slice ak2 m2 d2) := Vv.two (HBA.out.on HBA.out.lt (Vm.then (Vm.then HX3.out H34.out) h45)) (HBB.out.on HBB.out.lt (Vm.then (Vm.then HX3.out H34.out) h45)); have HKP := Lib.hid hkp; have H45 := Lib.hid h45; (try (have _e := r1.out; have nq1 : W0.heap.size ≠ w.heap.size := (by have g1 := HBB.out.lt; have g2 := HX3.out.size; have g3 := H34.out.size; have g4 := h45.size; omega); have nq2 : W0.heap.size ≠ w.heap.size + 1 := (by have g1 := HBB.out.lt; have g2 := HX3.out.size; have g3 := H34.out.size; have g4 := h45.size; omega); have nq3 : W0.heap.size ≠ w5.heap.size := (by have g0 := r1.out.lt; omega); have nq4 : w5.heap.size ≠ W0.heap.size := (by have g0 := r1.out.lt; omega); clear _e)); (try (have _e := r2.out; have nq5 : W0.heap.size + 1 ≠ w.heap.size := (by have g1 := HBB.out.lt; have g2 := HX3.out.size; have g3 := H34.out.size; have g4 := h45.size; omega); have nq6 : W0.heap.size + 1 ≠ w.heap.size + 1 := (by have g1 := HBB.out.lt; have g2 := HX3.out.size; have g3 := H34.out.size; have g4 := h45.size; omega); have nq7 : W0.heap.size + 1 ≠ w5.heap.size := (by have g0 := r2.out.lt; omega); have nq8 : w5.heap.size ≠ W0.heap.size + 1 := (by have g0 := r2.out.lt; omega); clear _e)); (try (have _e := r3.out; have nq9 : w3.heap.size ≠ w.heap.size := (by have g1 := HBB.out.lt; have g2 := HX3.out.size; have g3 := H34.out.size; have g4 := h45.size; omega); have nq10 : w3.heap.size ≠ w.heap.size + 1 := (by have g1 := HBB.out.lt; have g2 := HX3.out.size; have g3 := H34.out.size; have g4 := h45.size; omega); have nq11 : w3.heap.size ≠ w5.heap.size := (by have g0 := r3.out.lt; omega); have nq12 : w5.heap.size ≠ w3.heap.size := (by have g0 := r3.out.lt; omega); clear _e)); (try (have _e := r4.out; have nq13 : w3.heap.size + 1 ≠ w.heap.size := (by have g1 := HBB.out.lt; have g2 := HX3.out.size; have g3 := H34.out.size; have g4 := h45.size; omega); have nq14 : w3.heap.size + 1 ≠ w.heap.size + 1 := (by have g1 := HBB.out.lt; have g2 := HX3.out.size; have g3 := H34.out.size; have g4 := h45.size; omega); have nq15 : w3.heap.size + 1 ≠ w5.heap.size := (by have g0 := r4.out.lt; omega); have nq16 : w5.heap.size ≠ w3.heap.size + 1 := (by have g0 := r4.out.lt; omega); clear _e)); (try (have _e := r5.out; have nq17 : w4.heap.size ≠ w.heap.size := (by have g1 := HBB.out.lt; have g2 := HX3.out.size; have g3 := H34.out.size; have g4 := h45.size; omega); have nq18 : w4.heap.size ≠ w.heap.size + 1 := (by have g1 := HBB.out.lt; have g2 := HX3.out.size; have g3 := H34.out.size; have g4 := h45.size; omega); have nq19 : w4.heap.size ≠ w5.heap.size := (by have g0 := r5.out.lt; omega); have nq20 : w5.heap.size ≠ w4.heap.size := (by have g0 := r5.out.lt; omega); clear _e)); (try (have _e := r6.out; have nq21 : w4.heap.size + 1 ≠ w.heap.size := (by have g1 := HBB.out.lt; have g2 := HX3.out.size; have g3 := H34.out.size; have g4 := h45.size; omega); have nq22 : w4.heap.size + 1 ≠ w.heap.size + 1 := (by have g1 := HBB.out.lt; have g2 := HX3.out.size; have g3 := H34.out.size; have g4 := h45.size; omega); have nq23 : w4.heap.size + 1 ≠ w5.heap.size := (by have g0 := r6.out.lt; omega); have nq24 : w5.heap.size ≠ w4.heap.size + 1 := (by have g0 := r6.out.lt; omega); clear _e)); (try (have _e := r1.out; have _e2 := r2.out; have nq25 : W0.heap.size ≠ W0.heap.size + 1 := (by have g0 := HZ3.out; have g00 := HZ4.out; have g5 := z5; omega); have nq26 : W0.heap.size + 1 ≠ W0.heap.size := (by have g0 := HZ3.out; have g00 := HZ4.out; have g5 := z5; omega); clear _e _e2)); (try (have _e := r1.out; have _e2 := r3.out; have nq27 : W0.heap.size ≠ w3.heap.size := (by have g0 := HZ3.out; have g00 := HZ4.out; have g5 := z5; omega); have nq28 : w3.heap.size ≠ W0.heap.size := (by have g0 := HZ3.out; have g00 := HZ4.out; have g5 := z5; omega); clear _e _e2)); (try (have _e := r1.out; have _e2 := r4.out; have nq29 : W0.heap.size ≠ w3.heap.size + 1 := (by have g0 := HZ3.out; have g00 := HZ4.out; have g5 := z5; omega); have nq30 : w3.heap.size + 1 ≠ W0.heap.size := (by have g0 := HZ3.out; have g00 := HZ4.out; have g5 := z5; omega); clear _e _e2)); (try (have _e := r1.out; have _e2 := r5.out; have nq31 : W0.heap.size ≠ w4.heap.size := (by have g0 := HZ3.out; have g00 := HZ4.out; have g5 := z5; omega); have nq32 : w4.heap.size ≠ W0.heap.size := (by have g0 := HZ3.out; have g00 := HZ4.out; have g5 := z5; omega); clear _e _e2)); (try (have _e := r1.out; have _e2 := r6.out; have nq33 : W0.heap.size ≠ w4.heap.size + 1 := (by have g0 := HZ3.out; have g00 := HZ4.out; have g5 := z5; omega); have nq34 : w4.heap.size + 1 ≠ W0.heap.size := (by have g0 := HZ3.out; have g00 := HZ4.out; have g5 := z5; omega); clear _e _e2)); (try (have _e := r2.out; have _e2 := r3.out; have nq35 : W0.heap.size + 1 ≠ w3.heap.size := (by have g0 := HZ3.out; have g00 := HZ4.out; have g5 := z5; omega); have nq36 : w3.heap.size ≠ W0.heap.size + 1 := (by have g0 := HZ3.out; have g00 := HZ4.out; have g5 := z5; omega); clear _e _e2)); (try (have _e := r2.out; have _e2 := r4.out; have nq37 : W0.heap.size + 1 ≠ w3.heap.size + 1 := (by have g0 := HZ3.out; have g00 := HZ4.out; have g5 := z5; omega); have nq38 : w3.heap.size + 1 ≠ W0.heap.size + 1 := (by have g0 := HZ3.out; have g00 := HZ4.out; have g5 := z5; omega); clear _e _e2)); (try (have _e := r2.out; have _e2 := r5.out; have nq39 : W0.heap.size + 1 ≠ w4.heap.size := (by have g0 := HZ3.out; have g00 := HZ4.out; have g5 := z5; omega); have nq40 : w4.heap.size ≠ W0.heap.size + 1 := (by have g0 := HZ3.out; have g00 := HZ4.out; have g5 := z5; omega); clear _e _e2)); (try (have _e := r2.out; have _e2 := r6.out; have nq41 : W0.heap.size + 1 ≠ w4.heap.size + 1 := (by have g0 := HZ3.out; have g00 := HZ4.out; have g5 := z5; omega); have nq42 : w4.heap.size + 1 ≠ W0.heap.size + 1 := (by have g0 := HZ3.out; have g00 := HZ4.out; have g5 := z5; omega); clear _e _e2)); (try (have _e := r3.out; have _e2 := r4.out; have nq43 : w3.heap.size ≠ w3.heap.size + 1 := (by have g0 := HZ3.out; have g00 := HZ4.out; have g5 := z5; omega); have nq44 : w3.heap.size + 1 ≠ w3.heap.size := (by have g0 := HZ3.out; have g00 := HZ4.out; have g5 := z5; omega); clear _e _e2)); (try (have _e := r3.out; have _e2 := r5.out; have nq45 : w3.heap.size ≠ w4.heap.size := (by have g0 := HZ3.out; have g00 := HZ4.out; have g5 := z5; omega); have nq46 : w4.heap.size ≠ w3.heap.size := (by have g0 := HZ3.out; have g00 := HZ4.out; have g5 := z5; omega); clear _e _e2)); (try (have _e := r3.out; have _e2 := r6.out; have nq47 : w3.heap.size ≠ w4.heap.size + 1 := (by have g0 := HZ3.out; have g00 := HZ4.out; have g5 := z5; omega); have nq48 : w4.heap.size + 1 ≠ w3.heap.size := (by have g0 := HZ3.out; have g00 := HZ4.out; have g5 := z5; omega); clear _e _e2)); (try (have _e := r4.out; have _e2 := r5.out; have nq49 : w3.heap.size + 1 ≠ w4.heap.size := (by have g0 := HZ3.out; have g00 := HZ4.out; have g5 := z5; omega); have nq50 : w4.heap.size ≠ w3.heap.size + 1 := (by have g0 := HZ3.out; have g00 := HZ4.out; have g5 := z5; omega); clear _e _e2)); (try (have _e := r4.out; have _e2 := r6.out; have nq51 : w3.heap.size + 1 ≠ w4.heap.size + 1 := (by have g0 := HZ3.out; have g00 := HZ4.out; have g5 := z5; omega); have nq52 : w4.heap.size + 1 ≠ w3.heap.size + 1 := (by have g0 := HZ3.out; have g00 := HZ4.out; have g5 := z5; omega); clear _e _e2)); (try (have _e := r5.out; have _e2 := r6.out; have nq53 : w4.heap.size ≠ w4.heap.size + 1 := (by have g0 := HZ3.out; have g00 := HZ4.out; have g5 := z5; omega); have nq54 : w4.heap.size + 1 ≠ w4.heap.size := (by have g0 := HZ3.out; have g00 := HZ4.out; have g5 := z5; omega); clear _e _e2)); have nq55 : w5.heap.size ≠ w.heap.size := (by have g1 := HBB.out.lt; have g2 := HX3.out.size; have g3 := H34.out.size; have g4 := h45.size; omega); have nq56 : w5.heap.size ≠ w.heap.size + 1 := (by have g1 := HBB.out.lt; have g2 := HX3.out.size; have g3 := H34.out.size; have g4 := h45.size; omega); have nq57 : w5.heap.size + 1 ≠ w.heap.size := (by have g1 := HBB.out.lt; have g2 := HX3.out.size; have g3 := H34.out.size; have g4 := h45.size; omega); have nq58 : w5.heap.size + 1 ≠ w.heap.size + 1 := (by have g1 := HBB.out.lt; have g2 := HX3.out.size; have g3 := H34.out.size; have g4 := h45.size; omega); have HZ5 := Lib.hid z5;  clear hkp hbp h45 z5))
    all_goals go_wp2_with fail
    all_goals go_meet
    all_goals have MM : Vv.Made ta tb L p W0 w3 w4 w5 _ _ _ k3 x3 b3 s3 ai3 n3 c3 ak3 m3 d3 k4 x4 b4 s4 ai4 n4 c4 ak4 m4 d4 a5' d5' := ⟨HX3.out, H34.out, H45.out, HLX.out, HLY.out, HKP.out⟩
    all_goals have zz3 := HZ3.out
    all_goals have zz4 := HZ4.out
    all_goals have zz5 := HZ5.out
    · exact Vv.fin MM (by omega) (by omega) (((Vv.Two.refl _ _ _).alloc _).alloc _) (⟨(Vm.Has.new w5 _ _ rfl).alloc _⟩) (⟨Vm.Has.new _ _ _ (by simp)⟩)
    · exact Vv.fin MM (by omega) (by omega) (((Vv.Two.refl _ _ _).alloc _).alloc _) (⟨Vm.Has.new _ _ _ (by simp)⟩) (⟨(Vm.Has.new w5 _ _ rfl).alloc _⟩)
    · exact Vv.fin MM (by omega) (by omega) ((((Vv.Two.refl _ _ _).alloc _).wx (Vv.w6 _ _ _ _ _ _ _ _)).wy (Vv.w6 _ _ _ _ _ _ _ _)) (Vm.Box.wrote (Vv.wx (r5.out.alloc r5.out.lt _) _ _ _ _ _ _).1 (Vv.w6 _ _ _ _ _ _ _ _) (by omega)) ((Vv.wx (Vm.Box.wrote ⟨Vm.Has.new w5 _ _ rfl⟩ (Vv.w6 _ _ _ _ _ _ _ _) (by omega)) _ _ _ _ _ _).1)
    · exact Vv.fin MM (by omega) (by omega) (((Vv.Two.refl _ _ _).wx (Vv.w6 _ _ _ _ _ _ _ _)).wy (Vv.w6 _ _ _ _ _ _ _ _)) (Vm.Box.wrote (Vv.wx r5.out _ _ _ _ _ _).1 (Vv.w6 _ _ _ _ _ _ _ _) (by omega)) ((Vv.wx (Vm.Box.wrote r6.out (Vv.w6 _ _ _ _ _ _ _ _) (by omega)) _ _ _ _ _ _).1)
    · exact Vv.fin MM (by omega) (by omega) (((Vv.Two.refl _ _ _).alloc _).wy (Vv.w6 _ _ _ _ _ _ _ _)) (Vm.Box.wrote ⟨Vm.Has.new w5 _ _ rfl⟩ (Vv.w6 _ _ _ _ _ _ _ _) (by omega)) ((Vv.wx (r5.out.alloc r5.out.lt _) _ _ _ _ _ _).1)
    · exact Vv.fin MM (by omega) (by omega) (((Vv.Two.refl _ _ _).wx (Vv.w6 _ _ _ _ _ _ _ _)).wy (Vv.w6 _ _ _ _ _ _ _ _)) (Vm.Box.wrote (Vv.wx r6.out _ _ _ _ _ _).1 (Vv.w6 _ _ _ _ _ _ _ _) (by omega)) ((Vv.wx (Vm.Box.wrote r5.out (Vv.w6 _ _ _ _ _ _ _ _) (by omega)) _ _ _ _ _ _).1)
    · exact Vv.fin MM (by omega) (by omega) ((((Vv.Two.refl _ _ _).alloc _).wx (Vv.w6 _ _ _ _ _ _ _ _)).wy (Vv.w6 _ _ _ _ _ _ _ _)) (Vm.Box.wrote (Vv.wx (r3.out.alloc r3.out.lt _) _ _ _ _ _ _).1 (Vv.w6 _ _ _ _ _ _ _ _) (by omega)) ((Vv.wx (Vm.Box.wrote ⟨Vm.Has.new w5 _ _ rfl⟩ (Vv.w6 _ _ _ _ _ _ _ _) (by omega)) _ _ _ _ _ _).1)
    · exact Vv.fin MM (by omega) (by omega) (((Vv.Two.refl _ _ _).wx (Vv.w6 _ _ _ _ _ _ _ _)).wy (Vv.w6 _ _ _ _ _ _ _ _)) (Vm.Box.wrote (Vv.wx r3.out _ _ _ _ _ _).1 (Vv.w6 _ _ _ _ _ _ _ _) (by omega)) ((Vv.wx (Vm.Box.wrote r5.out (Vv.w6 _ _ _ _ _ _ _ _) (by omega)) _ _ _ _ _ _).1)
    · exact Vv.fin MM (by omega) (by omega) (((Vv.Two.refl _ _ _).wx (Vv.w6 _ _ _ _ _ _ _ _)).wy (Vv.w6 _ _ _ _ _ _ _ _)) (Vm.Box.wrote (Vv.wx r3.out _ _ _ _ _ _).1 (Vv.w6 _ _ _ _ _ _ _ _) (by omega)) ((Vv.wx (Vm.Box.wrote r4.out (Vv.w6 _ _ _ _ _ _ _ _) (by omega)) _ _ _ _ _ _).1)
    · exact Vv.fin MM (by omega) (by omega) (((Vv.Two.refl _ _ _).alloc _).wy (Vv.w6 _ _ _ _ _ _ _ _)) (Vm.Box.wrote ⟨Vm.Has.new w5 _ _ rfl⟩ (Vv.w6 _ _ _ _ _ _ _ _) (by omega)) ((Vv.wx (r3.out.alloc r3.out.lt _) _ _ _ _ _ _).1)
    · exact Vv.fin MM (by omega) (by omega) (((Vv.Two.refl _ _ _).wx (Vv.w6 _ _ _ _ _ _ _ _)).wy (Vv.w6 _ _ _ _ _ _ _ _)) (Vm.Box.wrote (Vv.wx r5.out _ _ _ _ _ _).1 (Vv.w6 _ _ _ _ _ _ _ _) (by omega)) ((Vv.wx (Vm.Box.wrote r3.out (Vv.w6 _ _ _ _ _ _ _ _) (by omega)) _ _ _ _ _ _).1)
    · exact Vv.fin MM (by omega) (by omega) (((Vv.Two.refl _ _ _).wx (Vv.w6 _ _ _ _ _ _ _ _)).wy (Vv.w6 _ _ _ _ _ _ _ _)) (Vm.Box.wrote (Vv.wx r4.out _ _ _ _ _ _).1 (Vv.w6 _ _ _ _ _ _ _ _) (by omega)) ((Vv.wx (Vm.Box.wrote r3.out (Vv.w6 _ _ _ _ _ _ _ _) (by omega)) _ _ _ _ _ _).1)
    · exact Vv.fin MM (by omega) (by omega) ((((Vv.Two.refl _ _ _).alloc _).wx (Vv.w6 _ _ _ _ _ _ _ _)).wy (Vv.w6 _ _ _ _ _ _ _ _)) (Vm.Box.wrote (Vv.wx (r1.out.alloc r1.out.lt _) _ _ _ _ _ _).1 (Vv.w6 _ _ _ _ _ _ _ _) (by omega)) ((Vv.wx (Vm.Box.wrote ⟨Vm.Has.new w5 _ _ rfl⟩ (Vv.w6 _ _ _ _ _ _ _ _) (by omega)) _ _ _ _ _ _).1)
    · exact Vv.fin MM (by omega) (by omega) (((Vv.Two.refl _ _ _).wx (Vv.w6 _ _ _ _ _ _ _ _)).wy (Vv.w6 _ _ _ _ _ _ _ _)) (Vm.Box.wrote (Vv.wx r1.out _ _ _ _ _ _).1 (Vv.w6 _ _ _ _ _ _ _ _) (by omega)) ((Vv.wx (Vm.Box.wrote r5.out (Vv.w6 _ _ _ _ _ _ _ _) (by omega)) _ _ _ _ _ _).1)
    · exact Vv.fin MM (by omega) (by omega) (((Vv.Two.refl _ _ _).wx (Vv.w6 _ _ _ _ _ _ _ _)).wy (Vv.w6 _ _ _ _ _ _ _ _)) (Vm.Box.wrote (Vv.wx r1.out _ _ _ _ _ _).1 (Vv.w6 _ _ _ _ _ _ _ _) (by omega)) ((Vv.wx (Vm.Box.wrote r3.out (Vv.w6 _ _ _ _ _ _ _ _) (by omega)) _ _ _ _ _ _).1)
    · exact Vv.fin MM (by omega) (by omega) (((Vv.Two.refl _ _ _).wx (Vv.w6 _ _ _ _ _ _ _ _)).wy (Vv.w6 _ _ _ _ _ _ _ _)) (Vm.Box.wrote (Vv.wx r1.out _ _ _ _ _ _).1 (Vv.w6 _ _ _ _ _ _ _ _) (by omega)) ((Vv.wx (Vm.Box.wrote r2.out (Vv.w6 _ _ _ _ _ _ _ _) (by omega)) _ _ _ _ _ _).1)
    · exact Vv.fin MM (by omega) (by omega) (((Vv.Two.refl _ _ _).alloc _).wy (Vv.w6 _ _ _ _ _ _ _ _)) (Vm.Box.wrote ⟨Vm.Has.new w5 _ _ rfl⟩ (Vv.w6 _ _ _ _ _ _ _ _) (by omega)) ((Vv.wx (r1.out.alloc r1.out.lt _) _ _ _ _ _ _).1)
    · exact Vv.fin MM (by omega) (by omega) (((Vv.Two.refl _ _ _).wx (Vv.w6 _ _ _ _ _ _ _ _)).wy (Vv.w6 _ _ _ _ _ _ _ _)) (Vm.Box.wrote (Vv.wx r5.out _ _ _ _ _ _).1 (Vv.w6 _ _ _ _ _ _ _ _) (by omega)) ((Vv.wx (Vm.Box.wrote r1.out (Vv.w6 _ _ _ _ _ _ _ _) (by omega)) _ _ _ _ _ _).1)
    · exact Vv.fin MM (by omega) (by omega) (((Vv.Two.refl _ _ _).wx (Vv.w6 _ _ _ _ _ _ _ _)).wy (Vv.w6 _ _ _ _ _ _ _ _)) (Vm.Box.wrote (Vv.wx r3.out _ _ _ _ _ _).1 (Vv.w6 _ _ _ _ _ _ _ _) (by omega)) ((Vv.wx (Vm.Box.wrote r1.out (Vv.w6 _ _ _ _ _ _ _ _) (by omega)) _ _ _ _ _ _).1)
    · exact Vv.fin MM (by omega) (by omega) (((Vv.Two.refl _ _ _).wx (Vv.w6 _ _ _ _ _ _ _ _)).wy (Vv.w6 _ _ _ _ _ _ _ _)) (Vm.Box.wrote (Vv.wx r2.out _ _ _ _ _ _).1 (Vv.w6 _ _ _ _ _ _ _ _) (by omega)) ((Vv.wx (Vm.Box.wrote r1.out (Vv.w6 _ _ _ _ _ _ _ _) (by omega)) _ _ _ _ _ _).1)
  case rest =>
    obtain ⟨gX, gY, k3, x3, b3, s3, ai3, n3, c3, ak3, m3, d3, k4, x4, b4, s4, ai4, n4, c4, ak4, m4, d4, a5, d5, rfl, rfl, rfl, hbc, hBX, hBY, hlx, hly, hkq⟩ := hcut
    clear a0 a1 a2 a3 a4 e0 e1 e2 e3 e4 e5
    have UBA := Lib.hid (HBA.out.on HBA.out.lt hbc)
    have UBB := Lib.hid (HBB.out.on HBB.out.lt hbc)
    have UBX := Lib.hid hBX
    have UBY := Lib.hid hBY
    have UAL := Lib.hid (HAL.out.on' hbc)
    have UBL := Lib.hid (HBL.out.on' hbc)
    have UNX := Lib.hid (Vt.near_lies hlx)
    have UNY := Lib.hid (Vt.near_lies hly)
    have UKP := Lib.hid (Vv.keys HPL.out hbc)
    have UKQ := Lib.hid hkq
    have UBW := Lib.hid (Vm.then HB0.out hbc)
    clear hbc hBX hBY hlx hly hkq HBA HBB HAL HBL HPL HB0 HA HB HP
    obtain ⟨z00, z01, z02, z03, z04, z05⟩ := UBX.out.cells
    go_wp2_with fail
    clear z00 z01 z02 z03 z04 z05
    refine (Vm.told ta.near _ _ UNX.out (HT.out.on UBW.out)).mono ?_
    rintro e W1 ⟨rfl, hb'⟩
    rw [Vt.near_told]
    have ABA := Lib.hid (UBA.out.on UBA.out.lt hb')
    have ABB := Lib.hid (UBB.out.on UBB.out.lt hb')
    have ABX := Lib.hid (UBX.out.on UBX.out.lt hb')
    have ABY := Lib.hid (UBY.out.on UBY.out.lt hb')
    have AAL := Lib.hid (UAL.out.on' hb')
    have ABL := Lib.hid (UBL.out.on' hb')
    have ANX := Lib.hid (UNX.out.on' hb')
    have ANY := Lib.hid (UNY.out.on' hb')
    have AKP := Lib.hid (Vv.keys UKP.out hb')
    have AKQ := Lib.hid (Vv.keys UKQ.out hb')
    have ABW := Lib.hid (Vm.then UBW.out hb')
    clear UBA UBB UBX UBY UAL UBL UNX UNY UKP UKQ UBW hb'
    obtain ⟨z00, z01, z02, z03, z04, z05⟩ := ABA.out.cells
    go_wp2_with fail
    clear z00 z01 z02 z03 z04 z05
    refine (Rv.text ta _ _ AAL.out).mono ?_
    rintro e W2 ⟨rfl, hb'⟩
    have BBA := Lib.hid (ABA.out.on ABA.out.lt hb')
    have BBB := Lib.hid (ABB.out.on ABB.out.lt hb')
    have BBX := Lib.hid (ABX.out.on ABX.out.lt hb')
    have BBY := Lib.hid (ABY.out.on ABY.out.lt hb')
    have BAL := Lib.hid (AAL.out.on' hb')
    have BBL := Lib.hid (ABL.out.on' hb')
    have BNX := Lib.hid (ANX.out.on' hb')
    have BNY := Lib.hid (ANY.out.on' hb')
    have BKP := Lib.hid (Vv.keys AKP.out hb')
    have BKQ := Lib.hid (Vv.keys AKQ.out hb')
    have BBW := Lib.hid (Vm.then ABW.out hb')
    clear ABA ABB ABX ABY AAL ABL ANX ANY AKP AKQ ABW hb'
    obtain ⟨z00, z01, z02, z03, z04, z05⟩ := BBX.out.cells
    obtain ⟨z10, z11, z12, z13, z14, z15⟩ := BBY.out.cells
    go_wp2_with fail
    clear z00 z01 z02 z03 z04 z05 z10 z11 z12 z13 z14 z15
    refine (Vl.less ta.near tb.near _ _ _ BNX.out BNY.out).mono ?_
    rintro e W3 ⟨rfl, hb'⟩
    rw [Vt.near_less]
    have CBA := Lib.hid (BBA.out.on BBA.out.lt hb')
    have CBB := Lib.hid (BBB.out.on BBB.out.lt hb')
    have CBX := Lib.hid (BBX.out.on BBX.out.lt hb')
    have CBY := Lib.hid (BBY.out.on BBY.out.lt hb')
    have CAL := Lib.hid (BAL.out.on' hb')
    have CBL := Lib.hid (BBL.out.on' hb')
    have CNX := Lib.hid (BNX.out.on' hb')
    have CNY := Lib.hid (BNY.out.on' hb')
    have CKP := Lib.hid (Vv.keys BKP.out hb')
    have CKQ := Lib.hid (Vv.keys BKQ.out hb')
    have CBW := Lib.hid (Vm.then BBW.out hb')
    clear BBA BBB BBX BBY BAL BBL BNX BNY BKP BKQ BBW hb'
    obtain ⟨z00, z01, z02, z03, z04, z05⟩ := CBA.out.cells
    obtain ⟨z10, z11, z12, z13, z14, z15⟩ := CBB.out.cells
    go_wp2_with fail
    clear z00 z01 z02 z03 z04 z05 z10 z11 z12 z13 z14 z15
    refine (Rv.less ta tb _ _ _ CAL.out CBL.out).mono ?_
    rintro e W4 ⟨rfl, hb'⟩
    have DBA := Lib.hid (CBA.out.on CBA.out.lt hb')
    have DBB := Lib.hid (CBB.out.on CBB.out.lt hb')
    have DBX := Lib.hid (CBX.out.on CBX.out.lt hb')
    have DBY := Lib.hid (CBY.out.on CBY.out.lt hb')
    have DAL := Lib.hid (CAL.out.on' hb')
    have DBL := Lib.hid (CBL.out.on' hb')
    have DNX := Lib.hid (CNX.out.on' hb')
    have DNY := Lib.hid (CNY.out.on' hb')
    have DKP := Lib.hid (Vv.keys CKP.out hb')
    have DKQ := Lib.hid (Vv.keys CKQ.out hb')
    have DBW := Lib.hid (Vm.then CBW.out hb')
    clear CBA CBB CBX CBY CAL CBL CNX CNY CKP CKQ CBW hb'
    obtain ⟨z00, z01, z02, z03, z04, z05⟩ := DBX.out.cells
    go_wp2_with fail
    clear z00 z01 z02 z03 z04 z05
    refine (Vg.get ta.near _ L p a5 d5 _ DNX.out DKQ.out).mono ?_
    rintro e W5 ⟨v', rfl, hown, hb'⟩
    rw [Vt.near_get] at hown ⊢
    obtain ⟨k5, x5, b5, s5, ai5, n5, c5, ak5, m5, d5', rfl⟩ := hown.form
    have HHI := Lib.hid (show W4.heap.size ≤ W5.heap.size from hb'.size)
    have HD := Lib.hid (hb'.alloc hb'.size (.cells #[.int .i64 k5, .int .i64 x5, .int .u64 (b5 : Int), .string s5, .slice ai5 n5 c5, .slice ak5 m5 d5'] 26))
    have HOW := Lib.hid (hown.on (w' := W5.alloc (.cells #[.int .i64 k5, .int .i64 x5, .int .u64 (b5 : Int), .string s5, .slice ai5 n5 c5, .slice ak5 m5 d5'] 26)) (fun g _ l2 => Below.heap_alloc _ _ _ l2))
    have HBU : Hid (Vm.Box (W5.alloc (.cells #[.int .i64 k5, .int .i64 x5, .int .u64 (b5 : Int), .string s5, .slice ai5 n5 c5, .slice ak5 m5 d5'] 26)) W5.heap.size (.int .i64 k5) (.int .i64 x5) (.int .u64 (b5 : Int)) (.string s5) (.slice ai5 n5 c5) (.slice ak5 m5 d5')) := ⟨Vm.Has.new W5 (.cells #[.int .i64 k5, .int .i64 x5, .int .u64 (b5 : Int), .string s5, .slice ai5 n5 c5, .slice ak5 m5 d5'] 26) _ rfl⟩
    clear hown hb'
    go_wp2_with (refine Vm.stop 57 ?_)
    generalize W5.alloc (.cells #[.int .i64 k5, .int .i64 x5, .int .u64 (b5 : Int), .string s5, .slice ai5 n5 c5, .slice ak5 m5 d5'] 26) = W6 at *
    constructor
    obtain ⟨z00, z01, z02, z03, z04, z05⟩ := (DBA.out.on DBA.out.lt HD.out).cells
    go_wp2_with fail
    clear z00 z01 z02 z03 z04 z05
    refine (Rv.get ta _ L p ap dp _ (DAL.out.on' HD.out) (Vv.keys DKP.out HD.out)).mono ?_
    rintro e W7 ⟨v'', rfl, hlv, hb'⟩
    obtain ⟨k6, x6, b6, s6, ai6, n6, c6, ak6, m6, d6, rfl⟩ := hlv.form
    replace hb' := hb'.alloc hb'.size (.cells #[.int .i64 k6, .int .i64 x6, .int .u64 (b6 : Int), .string s6, .slice ai6 n6 c6, .slice ak6 m6 d6] 26)
    have HD8 := Lib.hid (Vm.then HD.out hb')
    have HOW8 := Lib.hid (HOW.out.on (fun g _ l2 => hb'.block g (Nat.lt_trans l2 HBU.out.lt)))
    have HBU8 := Lib.hid (HBU.out.on HBU.out.lt hb')
    have HLV8 := Lib.hid (hlv.alloc (.cells #[.int .i64 k6, .int .i64 x6, .int .u64 (b6 : Int), .string s6, .slice ai6 n6 c6, .slice ak6 m6 d6] 26))
    have HBV8 : Hid (Vm.Box (W7.alloc (.cells #[.int .i64 k6, .int .i64 x6, .int .u64 (b6 : Int), .string s6, .slice ai6 n6 c6, .slice ak6 m6 d6] 26)) W7.heap.size (.int .i64 k6) (.int .i64 x6) (.int .u64 (b6 : Int)) (.string s6) (.slice ai6 n6 c6) (.slice ak6 m6 d6)) := ⟨Vm.Has.new W7 (.cells #[.int .i64 k6, .int .i64 x6, .int .u64 (b6 : Int), .string s6, .slice ai6 n6 c6, .slice ak6 m6 d6] 26) _ rfl⟩
    clear hlv hb' HOW HBU HD
    have HEQ := Lib.hid (Vt.eq_refl HLV8.out.sound)
    have HSH := Lib.hid (Vv.short ta L p)
    generalize hT : ta.told = T at *
    generalize hLs : ta.less tb = Ls at *
    generalize hG : ta.get L p = G at *
    clear hT hLs hG
    have hT1 : (T.1.toList == T.1.toList) = true := by simp
    go_wp2_with (refine Vm.stop 67 ?_)
    generalize W7.alloc (.cells #[.int .i64 k6, .int .i64 x6, .int .u64 (b6 : Int), .string s6, .slice ai6 n6 c6, .slice ak6 m6 d6] 26) = W8 at *
    constructor
    go_wp2_with fail
    refine (Vn.errno T.2 _).mono ?_
    rintro e Wq ⟨rfl, hWq⟩
    subst hWq
    go_wp2_with fail
    refine (Vn.errno Ls.2 _).mono ?_
    rintro e Wq ⟨rfl, hWq⟩
    subst hWq
    obtain ⟨z00, z01, z02, z03, z04, z05⟩ := HBU8.out.cells
    obtain ⟨z10, z11, z12, z13, z14, z15⟩ := HBV8.out.cells
    go_wp2_with fail
    clear z00 z01 z02 z03 z04 z05 z10 z11 z12 z13 z14 z15 hT1
    refine (Vs.same G.1 G.1 _ _ _ (HOW8.out.lies.on fun g hg => ⟨Nat.lt_trans hg.2 HBU8.out.lt, rfl⟩) HLV8.out).mono ?_
    rintro e W9 ⟨rfl, hb'⟩
    rw [HEQ.out]
    have HD9 := Lib.hid (Vm.then HD8.out hb')
    have HOW9 := Lib.hid (HOW8.out.on (fun g _ l2 => hb'.block g (Nat.lt_trans l2 HBU8.out.lt)))
    have HBU9 := Lib.hid (HBU8.out.on HBU8.out.lt hb')
    clear hb' HD8 HOW8 HBU8 HBV8 HLV8 HEQ
    go_wp2_with fail
    refine (Vn.errno G.2 _).mono ?_
    rintro e Wq ⟨rfl, hWq⟩
    subst hWq
    obtain ⟨z00, z01, z02, z03, z04, z05⟩ := HBU9.out.cells
    go_wp2_with fail
    clear z00 z01 z02 z03 z04 z05
    refine (Sp.value G.1 HSH.out _ _ _ _ HOW9.out (Nat.le_of_lt HBU9.out.lt)).mono ?_
    rintro e WA ⟨rfl, hO⟩
    have hDA : Below W4.heap.size W4 WA := ⟨hO.os.trans HD9.out.os, hO.tape.trans HD9.out.tape, hO.output.trans HD9.out.output, Nat.le_trans HD9.out.size hO.size, fun g hg => (hO.block g (Nat.lt_of_lt_of_le hg HD9.out.size) (.inl hg)).trans (HD9.out.block g hg)⟩
    clear hO HD9 HOW9 HBU9 HSH
    have EBA := Lib.hid (DBA.out.on DBA.out.lt hDA)
    have EBB := Lib.hid (DBB.out.on DBB.out.lt hDA)
    have EBX := Lib.hid (DBX.out.on DBX.out.lt hDA)
    have EBY := Lib.hid (DBY.out.on DBY.out.lt hDA)
    have EAL := Lib.hid (DAL.out.on' hDA)
    have EBL := Lib.hid (DBL.out.on' hDA)
    have ENX := Lib.hid (DNX.out.on' hDA)
    have ENY := Lib.hid (DNY.out.on' hDA)
    have EKP := Lib.hid (Vv.keys DKP.out hDA)
    have EKQ := Lib.hid (Vv.keys DKQ.out hDA)
    have EBW := Lib.hid (Vm.then DBW.out hDA)
    clear DBA DBB DBX DBY DAL DBL DNX DNY DKP DKQ DBW hDA HHI
    have ETB := Lib.hid (HT.out.on EBW.out)
    have HSS : Hid (∀ u : World, Below WA.heap.size WA u → (u.cell? ⟨w.heap.size, 0, none⟩ = some (.int .i64 k1) ∧ u.cell? ⟨w.heap.size, 1, none⟩ = some (.int .i64 x1) ∧ u.cell? ⟨w.heap.size, 2, none⟩ = some (.int .u64 (b1 : Int)) ∧ u.cell? ⟨w.heap.size, 3, none⟩ = some (.string s1) ∧ u.cell? ⟨w.heap.size, 4, none⟩ = some (.slice ai1 n1 c1) ∧ u.cell? ⟨w.heap.size, 5, none⟩ = some (.slice ak1 m1 d1) ∧ u.cell? ⟨w.heap.size + 1, 0, none⟩ = some (.int .i64 k2) ∧ u.cell? ⟨w.heap.size + 1, 1, none⟩ = some (.int .i64 x2) ∧ u.cell? ⟨w.heap.size + 1, 2, none⟩ = some (.int .u64 (b2 : Int)) ∧ u.cell? ⟨w.heap.size + 1, 3, none⟩ = some (.string s2) ∧ u.cell? ⟨w.heap.size + 1, 4, none⟩ = some (.slice ai2 n2 c2) ∧ u.cell? ⟨w.heap.size + 1, 5, none⟩ = some (.slice ak2 m2 d2) ∧ u.cell? ⟨gX, 0, none⟩ = some (.int .i64 k3) ∧ u.cell? ⟨gX, 1, none⟩ = some (.int .i64 x3) ∧ u.cell? ⟨gX, 2, none⟩ = some (.int .u64 (b3 : Int)) ∧ u.cell? ⟨gX, 3, none⟩ = some (.string s3) ∧ u.cell? ⟨gX, 4, none⟩ = some (.slice ai3 n3 c3) ∧ u.cell? ⟨gX, 5, none⟩ = some (.slice ak3 m3 d3) ∧ u.cell? ⟨gY, 0, none⟩ = some (.int .i64 k4) ∧ u.cell? ⟨gY, 1, none⟩ = some (.int .i64 x4) ∧ u.cell? ⟨gY, 2, none⟩ = some (.int .u64 (b4 : Int)) ∧ u.cell? ⟨gY, 3, none⟩ = some (.string s4) ∧ u.cell? ⟨gY, 4, none⟩ = some (.slice ai4 n4 c4) ∧ u.cell? ⟨gY, 5, none⟩ = some (.slice ak4 m4 d4))) := fun u hu => Vv.four (EBA.out.on EBA.out.lt hu) (EBB.out.on EBB.out.lt hu) (EBX.out.on EBX.out.lt hu) (EBY.out.on EBY.out.lt hu)
    have hS0 := HSS.out WA (Below.refl _ _)
    obtain ⟨M, hM⟩ : ∃ M, ta.may = M := ⟨_, rfl⟩
    obtain ⟨TT, hTT⟩ : ∃ M, ta.truth = M := ⟨_, rfl⟩
    obtain ⟨SS, hSS⟩ : ∃ M, ta.same tb = M := ⟨_, rfl⟩
    have HM := Lib.hid hM
    have HTT := Lib.hid hTT
    have HSM := Lib.hid hSS
    clear hM hTT hSS
    have HNM := Lib.hid ((Vt.near_may ta).trans HM.out)
    have HNT := Lib.hid ((Vt.near_truth ta).trans HTT.out)
    have HNS := Lib.hid ((Vt.near_same ta tb).trans HSM.out)
    have hMM : (M == M) = true := by simp
    have hTTT : (TT == TT) = true := by simp
    have hSSS : (SS == SS) = true := by simp
    go_wp2_with fail
    go_region_held (fun u => u.cell? ⟨w.heap.size, 0, none⟩ = some (.int .i64 k1) ∧ u.cell? ⟨w.heap.size, 1, none⟩ = some (.int .i64 x1) ∧ u.cell? ⟨w.heap.size, 2, none⟩ = some (.int .u64 (b1 : Int)) ∧ u.cell? ⟨w.heap.size, 3, none⟩ = some (.string s1) ∧ u.cell? ⟨w.heap.size, 4, none⟩ = some (.slice ai1 n1 c1) ∧ u.cell? ⟨w.heap.size, 5, none⟩ = some (.slice ak1 m1 d1) ∧ u.cell? ⟨w.heap.size + 1, 0, none⟩ = some (.int .i64 k2) ∧ u.cell? ⟨w.heap.size + 1, 1, none⟩ = some (.int .i64 x2) ∧ u.cell? ⟨w.heap.size + 1, 2, none⟩ = some (.int .u64 (b2 : Int)) ∧ u.cell? ⟨w.heap.size + 1, 3, none⟩ = some (.string s2) ∧ u.cell? ⟨w.heap.size + 1, 4, none⟩ = some (.slice ai2 n2 c2) ∧ u.cell? ⟨w.heap.size + 1, 5, none⟩ = some (.slice ak2 m2 d2) ∧ u.cell? ⟨gX, 0, none⟩ = some (.int .i64 k3) ∧ u.cell? ⟨gX, 1, none⟩ = some (.int .i64 x3) ∧ u.cell? ⟨gX, 2, none⟩ = some (.int .u64 (b3 : Int)) ∧ u.cell? ⟨gX, 3, none⟩ = some (.string s3) ∧ u.cell? ⟨gX, 4, none⟩ = some (.slice ai3 n3 c3) ∧ u.cell? ⟨gX, 5, none⟩ = some (.slice ak3 m3 d3) ∧ u.cell? ⟨gY, 0, none⟩ = some (.int .i64 k4) ∧ u.cell? ⟨gY, 1, none⟩ = some (.int .i64 x4) ∧ u.cell? ⟨gY, 2, none⟩ = some (.int .u64 (b4 : Int)) ∧ u.cell? ⟨gY, 3, none⟩ = some (.string s4) ∧ u.cell? ⟨gY, 4, none⟩ = some (.slice ai4 n4 c4) ∧ u.cell? ⟨gY, 5, none⟩ = some (.slice ak4 m4 d4)) (go_keep) (first | (go_at_call 15; refine (Vm.may ta.near _ _ (ENX.out.on' ((Below.refl WA.heap.size WA).drew))).mono ?_; rintro e y1 ⟨rfl, hb'⟩; rw [HNM.out]; have B1 := Lib.hid (Vm.then ((Below.refl WA.heap.size WA).drew) hb'); have hSq1 := HSS.out y1 B1.out; clear hb') | (go_at_call 16; refine (Rv.may ta _ _ (EAL.out.on' (B1.out))).mono ?_; rintro e y2 ⟨rfl, hb'⟩; rw [HM.out]; have B2 := Lib.hid (Vm.then (B1.out) hb'); have hSq2 := HSS.out y2 B2.out; clear hb') | (go_at_call 17; refine (Vm.truth ta.near _ _ (ENX.out.on' (B2.out))).mono ?_; rintro e y3 ⟨rfl, hb'⟩; rw [HNT.out]; have B3 := Lib.hid (Vm.then (B2.out) hb'); have hSq3 := HSS.out y3 B3.out; clear hb') | (go_at_call 18; refine (Rv.truth ta _ _ (EAL.out.on' (B3.out))).mono ?_; rintro e y4 ⟨rfl, hb'⟩; rw [HTT.out]; have B4 := Lib.hid (Vm.then (B3.out) hb'); have hSq4 := HSS.out y4 B4.out; clear hb') | (go_at_call 19; refine (Va.same ta.near tb.near _ _ _ (ENX.out.on' (B4.out)) (ENY.out.on' (B4.out))).mono ?_; rintro e y5 ⟨rfl, hb'⟩; rw [HNS.out]; have B5 := Lib.hid (Vm.then (B4.out) hb'); have hSq5 := HSS.out y5 B5.out; clear hb') | (go_at_call 20; refine (Rv.sameAll ta tb _ _ _ (EAL.out.on' (B5.out)) (EBL.out.on' (B5.out))).mono ?_; rintro e y6 ⟨rfl, hb'⟩; rw [HSM.out]; have B6 := Lib.hid (Vm.then (B5.out) hb'); have hSq6 := HSS.out y6 B6.out; clear hb') | (go_at_call 4; refine (Cv.copy ta HMA.out 40 _ _ (by decide) (EAL.out.on' (B6.out))).mono ?_; rintro e y7 ⟨vz, rfl, hlz, hb'⟩; obtain ⟨k7, x7, b7, s7, ai7, n7, c7, ak7, m7, d7, rfl⟩ := hlz.form; have B7 := Lib.hid (Vm.then (B6.out) hb'); have HLZ := Lib.hid (Vt.near_lies (hlz.on (R' := (· < y7.heap.size)) fun g hg => ⟨hg.2, rfl⟩)); have hSq7 := HSS.out y7 B7.out; clear hb' hlz) | (go_at_call 13; refine (Vs.same ta.near ta.near _ _ _ (ENX.out.on' (B7.out)) HLZ.out).mono ?_; rintro e y8 ⟨rfl, hb'⟩; rw [Vt.eq_refl HLZ.out.sound]; have B8 := Lib.hid (Vm.then (B7.out) hb'); have hSq8 := HSS.out y8 B8.out; clear hb') | (go_at_call 21; refine (Ve.texts L L p p _ _ _ _ _ _ _ (Vv.keys EKQ.out (B8.out)) (Vv.keys EKP.out (B8.out))).mono ?_; rintro e y9 ⟨rfl, hb'⟩; rw [Vv.sameKeys]; have B9 := Lib.hid (Vm.then (B8.out) hb'); have hSq9 := HSS.out y9 B9.out; clear hb') | (go_at_call 22; refine (Vw.awake _ (ETB.out.on (B9.out))).mono ?_; rintro e y10 ⟨rfl, hb'⟩; have B10 := Lib.hid (Vm.then (B9.out) hb'); have hSq10 := HSS.out y10 B10.out; clear hb'))
    all_goals go_wp2
    all_goals go_ret
    all_goals exact ⟨rfl, Vm.then EBW.out B10.out⟩
end Go.Proofs.YtggfemdnoccmeaaDoor

/-
  THE WALKS of json.read and of what it defers.
-/
import Derived.Test.YtiajclmhimkpnaaDoorBJRo
import Derived.Defers
import Derived.Recover
import Derived.Test.YtiajclmhimkpnaaDoorBRPlaintoSign
import Derived.Test.YtiajclmhimkpnaaDoorBJPut3toJPut4
import Derived.Test.YtiajclmhimkpnaaDoorBRePlaintoVEq
namespace Go.Proofs.YtiajclmhimkpnaaDoor
open Go.RowKit
theorem Jr.valueZero (g : Nat) (T : ByteArray) (l : List UInt8) (w : World) :
    Calls Tryd.prog 31 #[.pointer (some ⟨g, 0, none⟩), .int .i64 9] w (Jr.VOut (Jr.value 0 l) w g T) := by
  go_enter Tryd.func31, Tryd.ntmps31
  go_wp2
  exact ⟨rfl, rfl, World.grownBy_alloc _ _ _⟩
theorem Jr.valueAll : ∀ (d : Nat), d ≤ 8 → ∀ (g : Nat) (T : ByteArray) (l : List UInt8) (w : World), Jr.Rd w g T l →
    Calls Tryd.prog 31 #[.pointer (some ⟨g, 0, none⟩), .int .i64 ((9 - d : Nat) : Int)] w (Jr.VOut (Jr.value d l) w g T)
  | 0, _, g, T, l, w, _ => Jr.valueZero g T l w
  | d + 1, hd, g, T, l, w, h => by
    have hV : Jr.Val d (9 - (d + 1)) g T := fun l u q => by
      have := Jr.valueAll d (by omega) g T l u q
      rw [show ((9 - d : Nat) : Int) = ((9 - (d + 1) : Nat) : Int) + 1 by omega] at this
      exact this
    exact Jr.valueStep d (9 - (d + 1)) (by omega) g T hV l w h
theorem Jr.catch_idle (a b : Addr) (w : World) :
    CallsD Tryd.prog 30 #[.pointer (some a), .pointer (some b)] .returning w fun e u' w' => e = .returned (.tuple #[]) ∧ u' = .returning ∧ w' = w := by
  refine callsD_of_wpS Tryd.func30 rfl fun c₀ cs hu => ?_
  apply wpS_seq
  apply wpS_region
  simp [wpOpsS, go_sem, recoverD, hu, Tryd.ntmps30, Exit.thenS]
  apply wpS_seq
  apply wpS_seq
  apply wpS_region
  simp [wpOpsS, go_sem, Exit.thenS]
  refine wpS_cond (t := true) (by simp [Act.eval, Array.replicate]) ?_
  simp only [if_true]
  refine wpS_of_wp (wp_ret ?_)
  cases c₀
  simp_all [bodyPostS, results, Tryd.results30, Exit.thenS]
set_option maxRecDepth 100000 in
set_option maxHeartbeats 4000000 in
theorem Jr.catch_fault (a b : Nat) (older : List PanicEntry) (w : World) {u0 u1 u2 u3 u4 u5 : Value} (hX : Vm.Box w a u0 u1 u2 u3 u4 u5) (x : Int) (hE : Bs.Box w b #[.int .i64 x] 30) (hab : a ≠ b) :
    CallsD Tryd.prog 30 #[.pointer (some ⟨a, 0, none⟩), .pointer (some ⟨b, 0, none⟩)] (.panicking ({ v := .iface 30 (.int .i64 1000), recovered := false } :: older)) w fun e u' w' =>
      e = .returned (.tuple #[]) ∧ u' = .panicking ({ v := .iface 30 (.int .i64 1000), recovered := true } :: older) ∧ w' = (((((((w.setCell ⟨a, 0, none⟩ (.int .i64 0)).setCell ⟨a, 1, none⟩ (.int .i64 0)).setCell ⟨a, 2, none⟩ (.int .u64 0)).setCell ⟨a, 3, none⟩ (.string ⟨#[]⟩)).setCell ⟨a, 4, none⟩ (.slice none 0 0)).setCell ⟨a, 5, none⟩ (.slice none 0 0)).setCell ⟨b, 0, none⟩ (.int .i64 1000)) := by
  obtain ⟨c0, c1, c2, c3, c4, c5⟩ := hX.cells
  have f0 := hX.has.frozen 0
  have f1 := hX.has.frozen 1
  have f2 := hX.has.frozen 2
  have f3 := hX.has.frozen 3
  have f4 := hX.has.frozen 4
  have f5 := hX.has.frozen 5
  have d0 : w.cell? ⟨b, 0, none⟩ = some (.int .i64 x) := hE.cell 0 rfl
  have g0 := hE.frozen 0
  have hba : ¬ b = a := fun q => hab q.symm
  have hta : ∀ u : World, (Instr.typeAssert (.iface 30 (.int .i64 1000)) 20 30 true).run Tryd.prog u = .ok (.tuple #[.int .i64 1000, .bool true]) u := fun _ => by kernel_rfl
  clear hX hE
  refine callsD_of_wpS Tryd.func30 rfl fun c₀ cs hu => ?_
  apply wpS_seq
  apply wpS_region
  simp [wpOpsS, go_sem, recoverD, hu, Tryd.ntmps30, Exit.thenS]
  apply wpS_seq
  apply wpS_seq
  apply wpS_region
  simp [wpOpsS, go_sem, Exit.thenS]
  refine wpS_cond (t := false) (by simp [Act.eval, Array.replicate]) ?_
  simp only [Bool.false_eq_true, if_false]
  refine wpS_of_wp (wp_skip ?_)
  simp only [Exit.thenS]
  refine wpS_of_wp ?_
  refine (show Code.wp Tryd.prog _ _ { tmps := #[.pointer (some ⟨a, 0, none⟩), .pointer (some ⟨b, 0, none⟩), .iface 30 (.int .i64 1000), undef, undef, .iface 30 (.int .i64 1000), .iface 30 (.int .i64 1000), .bool false, undef, undef, undef, undef, undef, undef, undef, undef, undef, undef], defers := [] } w from ?_)
  go_wp2
  exact ⟨rfl, _, rfl, .tuple #[], by simp [results, Tryd.results30], rfl, rfl, rfl⟩
def Jr.zero : Value := .agg #[.int .i64 0, .int .i64 0, .int .u64 0, .string ⟨#[]⟩, .slice none 0 0, .slice none 0 0]
/-- what read gives -/
def Jr.Read (o : Option Vt) (w : World) (e : Ending) (w' : World) : Prop :=
  (match o with
  | none => e = .returned (.tuple #[.agg #[.int .i64 0, .int .i64 0, .int .u64 0, .string ⟨#[]⟩, .slice none 0 0, .slice none 0 0], .int .i64 1000])
  | some t => ∃ v, e = .returned (.tuple #[v, .int .i64 0]) ∧ t.Lies w' (fun k => w.heap.size ≤ k ∧ k < w'.heap.size) v) ∧ Below w.heap.size w w'
/-- the end of a reading that threw -/
theorem Jr.fault_end {w w1 w9 : World} {u0 u1 u2 u3 u4 u5 : Value} {tmps : Array Value} (hX : Vm.Box w1 w.heap.size u0 u1 u2 u3 u4 u5) {x : Int} (hE : Bs.Box w1 (w.heap.size + 1) #[.int .i64 x] 30) (hB : Below w.heap.size w w1)
    (h9 : w9 = (((((((w1.setCell ⟨w.heap.size, 0, none⟩ (.int .i64 0)).setCell ⟨w.heap.size, 1, none⟩ (.int .i64 0)).setCell ⟨w.heap.size, 2, none⟩ (.int .u64 0)).setCell ⟨w.heap.size, 3, none⟩ (.string ⟨#[]⟩)).setCell ⟨w.heap.size, 4, none⟩ (.slice none 0 0)).setCell ⟨w.heap.size, 5, none⟩ (.slice none 0 0)).setCell ⟨w.heap.size + 1, 0, none⟩ (.int .i64 1000))) (h2 : tmps[2]? = some (.pointer (some ⟨w.heap.size, 0, none⟩))) (h3 : tmps[3]? = some (.pointer (some ⟨w.heap.size + 1, 0, none⟩))) :
    Leaves Tryd.prog Tryd.f19 tmps (Jr.Read none w) [] .returning w9 := by
  obtain ⟨W, hW, hX6, hb⟩ := Jr.six hX (.int .i64 0) (.int .i64 0) (.int .u64 0) (.string ⟨#[]⟩) (.slice none 0 0) (.slice none 0 0)
  rw [hW] at h9
  have hq : ∀ k, k ≠ w.heap.size → W.heap[k]? = w1.heap[k]? := fun k hk => by rw [← hW]; exact Jr.six_other w1 w.heap.size 0 _ _ _ _ _ _ k hk
  have hX9 : Vm.Box w9 w.heap.size (.int .i64 0) (.int .i64 0) (.int .u64 0) (.string ⟨#[]⟩) (.slice none 0 0) (.slice none 0 0) := by rw [h9]; exact hX6.other (by omega) _ _
  have hE9 : Bs.Box w9 (w.heap.size + 1) #[.int .i64 1000] 30 := by rw [h9]; exact Bs.Box.set ((hq _ (by omega)).trans hE) 0 _
  have hB9 : Below w.heap.size w w9 := by rw [h9]; exact (hB.trans hb).setCell (p := ⟨w.heap.size + 1, 0, none⟩) (Nat.le_succ _) _
  obtain ⟨x0, x1, x2, x3, x4, x5⟩ := hX9.cells
  have ce : w9.cell? ⟨w.heap.size + 1, 0, none⟩ = some (.int .i64 1000) := hE9.cell 0 rfl
  refine ⟨.tuple #[.agg #[.int .i64 0, .int .i64 0, .int .u64 0, .string ⟨#[]⟩, .slice none 0 0, .slice none 0 0], .int .i64 1000], ?_, rfl, hB9⟩
  simp [results, Tryd.results19, go_sem, x0, x1, x2, x3, x4, x5, ce, h2, h3]
/-- the end of a reading that went well -/
theorem Jr.good_end {w w1 w9 : World} {t : Vt} {k3 y3 : Int} {z3 : Nat} {s3 : ByteArray} {ai3 ak3 : Option Addr} {n3 m3 o3 d3 : Nat} {tmps : Array Value} (hX : Vm.Box w1 w.heap.size (.int .i64 k3) (.int .i64 y3) (.int .u64 (z3 : Int)) (.string s3) (.slice ai3 n3 m3) (.slice ak3 o3 d3)) {x : Int} (hE : Bs.Box w1 (w.heap.size + 1) #[.int .i64 x] 30) (hB : Below w.heap.size w w1) (hl : t.Lies w1 (fun k => w.heap.size + 1 + 1 + 1 ≤ k ∧ k < w1.heap.size) (.agg #[.int .i64 k3, .int .i64 y3, .int .u64 (z3 : Int), .string s3, .slice ai3 n3 m3, .slice ak3 o3 d3]))
    (h9 : w9 = (((((((w1.setCell ⟨w.heap.size, 0, none⟩ (.int .i64 k3)).setCell ⟨w.heap.size, 1, none⟩ (.int .i64 y3)).setCell ⟨w.heap.size, 2, none⟩ (.int .u64 (z3 : Int))).setCell ⟨w.heap.size, 3, none⟩ (.string s3)).setCell ⟨w.heap.size, 4, none⟩ (.slice ai3 n3 m3)).setCell ⟨w.heap.size, 5, none⟩ (.slice ak3 o3 d3)).setCell ⟨w.heap.size + 1, 0, none⟩ (.int .i64 0))) (h2 : tmps[2]? = some (.pointer (some ⟨w.heap.size, 0, none⟩))) (h3 : tmps[3]? = some (.pointer (some ⟨w.heap.size + 1, 0, none⟩))) :
    Leaves Tryd.prog Tryd.f19 tmps (Jr.Read (some t) w) [] .returning w9 := by
  obtain ⟨W, hW, hX6, hb⟩ := Jr.six hX (.int .i64 k3) (.int .i64 y3) (.int .u64 (z3 : Int)) (.string s3) (.slice ai3 n3 m3) (.slice ak3 o3 d3)
  rw [hW] at h9
  have hq : ∀ k, k ≠ w.heap.size → W.heap[k]? = w1.heap[k]? := fun k hk => by rw [← hW]; exact Jr.six_other w1 w.heap.size 0 _ _ _ _ _ _ k hk
  have hsz : W.heap.size = w1.heap.size := by rw [← hW]; simp only [Jr.set_size]
  have hX9 : Vm.Box w9 w.heap.size (.int .i64 k3) (.int .i64 y3) (.int .u64 (z3 : Int)) (.string s3) (.slice ai3 n3 m3) (.slice ak3 o3 d3) := by rw [h9]; exact hX6.other (by omega) _ _
  have hE9 : Bs.Box w9 (w.heap.size + 1) #[.int .i64 0] 30 := by rw [h9]; exact Bs.Box.set ((hq _ (by omega)).trans hE) 0 _
  have hB9 : Below w.heap.size w w9 := by rw [h9]; exact (hB.trans hb).setCell (p := ⟨w.heap.size + 1, 0, none⟩) (Nat.le_succ _) _
  have hs9 : w9.heap.size = w1.heap.size := by rw [h9, Jr.set_size]; exact hsz
  have hl9 : t.Lies w9 (fun k => w.heap.size ≤ k ∧ k < w9.heap.size) (.agg #[.int .i64 k3, .int .i64 y3, .int .u64 (z3 : Int), .string s3, .slice ai3 n3 m3, .slice ak3 o3 d3]) := hl.on fun k hk => ⟨⟨by have := hk.1; omega, by have := hk.2; omega⟩, by
    rw [h9, Below.heap_setCell _ _ _ _ (by show k ≠ w.heap.size + 1; have := hk.1; omega)]
    exact hq k (by have := hk.1; omega)⟩
  obtain ⟨x0, x1, x2, x3, x4, x5⟩ := hX9.cells
  have ce : w9.cell? ⟨w.heap.size + 1, 0, none⟩ = some (.int .i64 0) := hE9.cell 0 rfl
  refine ⟨.tuple #[.agg #[.int .i64 k3, .int .i64 y3, .int .u64 (z3 : Int), .string s3, .slice ai3 n3 m3, .slice ak3 o3 d3], .int .i64 0], ?_, ⟨_, rfl, hl9⟩, hB9⟩
  simp [results, Tryd.results19, go_sem, x0, x1, x2, x3, x4, x5, ce, h2, h3]
set_option maxRecDepth 100000 in
set_option maxHeartbeats 4000000 in
theorem Jr.readW (s : ByteArray) (hs : s.size ≤ 65536) (w : World) :
    Calls Tryd.prog 19 #[.string s] w (Jr.Read (Jr.read s.data.toList) w) := by
  have hmf : ∀ (fn : Fn) (first cap : Array Value) (w : World), (Instr.makeFunc fn first cap).run Tryd.prog w = .ok (.func fn first cap) w := fun _ _ _ _ => rfl
  obtain ⟨W0, hW0⟩ : ∃ W0, W0 = ((w.alloc (.cells #[.int .i64 0, .int .i64 0, .int .u64 0, .string ⟨#[]⟩, .slice none 0 0, .slice none 0 0] 29)).alloc (.cells #[.int .i64 0] 30)).alloc (.cells #[.string s, .int .i64 0] 60) := ⟨_, rfl⟩
  have hRd : Jr.Rd W0 (w.heap.size + 1 + 1) s s.data.toList := ⟨0, Nat.zero_le _, rfl, hs, by rw [hW0]; exact Bs.Box.new _ _ _ _ (by simp)⟩
  have cl : Calls Tryd.prog 31 #[.pointer (some ⟨w.heap.size + 1 + 1, 0, none⟩), .int .i64 1] W0 (Jr.VOut (Jr.value 8 s.data.toList) W0 (w.heap.size + 1 + 1) s) := Jr.valueAll 8 (by omega) _ s s.data.toList W0 hRd
  have HX0 : Hid (Vm.Box W0 w.heap.size (.int .i64 0) (.int .i64 0) (.int .u64 0) (.string ⟨#[]⟩) (.slice none 0 0) (.slice none 0 0)) := by unfold Hid; rw [hW0]; exact ⟨((Vm.Has.new w _ _ rfl).alloc _).alloc _⟩
  have HE0 : Hid (Bs.Box W0 (w.heap.size + 1) #[.int .i64 0] 30) := by unfold Hid; rw [hW0]; exact (Bs.Box.new _ _ _ _ (by simp)).alloc _
  have HB0 : Hid (Below w.heap.size w W0) := by unfold Hid; rw [hW0]; exact (((Below.refl _ w).alloc (Nat.le_refl _) _).alloc (by simp) _).alloc (by simp; omega) _
  have HZ0 : Hid (w.heap.size + 1 + 1 + 1 ≤ W0.heap.size) := by unfold Hid; rw [hW0]; simp
  clear hRd
  obtain ⟨O, hO⟩ : ∃ O, Jr.read s.data.toList = O := ⟨_, rfl⟩
  rw [hO]
  unfold Jr.read at hO
  cases hv : Jr.value 8 s.data.toList with
  | none =>
    rw [hv] at hO cl
    have hO : none = O := hO
    subst hO
    clear hv
    rw [hW0] at cl
    go_enter_defers Tryd.func19, Tryd.ntmps19
    go_wp2_with fail
    refine cl.mono ?_
    rw [← hW0]
    rintro e1 w1 ⟨rfl, b1⟩
    have HX := Lib.hid (Jr.box_grown HX0.out b1 (by omega))
    have HE : Hid (Bs.Box w1 (w.heap.size + 1) #[.int .i64 0] 30) := (b1.block _ HE0.out.lt (fun q => by injection q with q; omega)).trans HE0.out
    have HB : Hid (Below w.heap.size w w1) := HB0.out.trans ⟨b1.os, b1.tape, b1.output, b1.size, fun k hk => b1.block k (by have := HZ0.out; omega) (fun q => by injection q with q; omega)⟩
    clear cl
    refine leaves_cons (f := 30) (args := #[.pointer (some ⟨w.heap.size, 0, none⟩), .pointer (some ⟨w.heap.size + 1, 0, none⟩)]) (by simp) (by simp [go_sem]) ?_
    refine (Jr.catch_fault w.heap.size (w.heap.size + 1) [] w1 HX.out 0 HE.out (by omega)).mono ?_
    rintro e2 u2 w9 ⟨rfl, rfl, hw9⟩
    exact Jr.fault_end HX.out HE.out HB.out hw9 rfl rfl
  | some p =>
    obtain ⟨t, r⟩ := p
    rw [hv] at hO cl
    have hO : (if Js.ws r = [] then some t else none) = O := hO
    clear hv
    rw [hW0] at cl
    go_enter_defers Tryd.func19, Tryd.ntmps19
    go_wp2_with fail
    refine cl.mono ?_
    rw [← hW0]
    rintro e1 w1 ⟨v, rfl, l1, b1, q1⟩
    obtain ⟨k3, y3, z3, s3, ai3, n3, m3, ak3, o3, d3, rfl⟩ := l1.form
    have HX1 := Lib.hid (Jr.box_grown HX0.out b1 (by omega))
    have HE1 : Hid (Bs.Box w1 (w.heap.size + 1) #[.int .i64 0] 30) := (b1.block _ HE0.out.lt (fun q => by injection q with q; omega)).trans HE0.out
    have HB1 : Hid (Below w.heap.size w w1) := HB0.out.trans ⟨b1.os, b1.tape, b1.output, b1.size, fun k hk => b1.block k (by have := HZ0.out; omega) (fun q => by injection q with q; omega)⟩
    have HL1 : Hid (t.Lies w1 (fun k => w.heap.size + 1 + 1 + 1 ≤ k ∧ k < w1.heap.size) (.agg #[.int .i64 k3, .int .i64 y3, .int .u64 (z3 : Int), .string s3, .slice ai3 n3 m3, .slice ak3 o3 d3])) := l1.on fun k hk => ⟨⟨Nat.le_trans HZ0.out hk.1, hk.2⟩, rfl⟩
    obtain ⟨W, hW, hX, hb⟩ := Jr.six HX1.out (.int .i64 k3) (.int .i64 y3) (.int .u64 (z3 : Int)) (.string s3) (.slice ai3 n3 m3) (.slice ak3 o3 d3)
    have hq : ∀ k, k ≠ w.heap.size → W.heap[k]? = w1.heap[k]? := fun k hk => by rw [← hW]; exact Jr.six_other w1 w.heap.size 0 _ _ _ _ _ _ k hk
    have hsz : W.heap.size = w1.heap.size := by rw [← hW]; simp only [Jr.set_size]
    have hRW : Jr.Rd W (w.heap.size + 1 + 1) s r := by
      obtain ⟨i, h1, h2, h3, hB⟩ := q1
      exact ⟨i, h1, h2, h3, (hq _ (by omega)).trans hB⟩
    have bl := Jr.blanks r _ s W hRW
    have HXW := Lib.hid hX
    have HEW : Hid (Bs.Box W (w.heap.size + 1) #[.int .i64 0] 30) := (hq _ (by omega)).trans HE1.out
    have HBW := Lib.hid (HB1.out.trans hb)
    have HLW : Hid (t.Lies W (fun k => w.heap.size + 1 + 1 + 1 ≤ k ∧ k < W.heap.size) (.agg #[.int .i64 k3, .int .i64 y3, .int .u64 (z3 : Int), .string s3, .slice ai3 n3 m3, .slice ak3 o3 d3])) := HL1.out.on fun k hk => ⟨⟨hk.1, by omega⟩, hq k (by have := hk.1; omega)⟩
    rw [← hW] at bl
    obtain ⟨c0, c1, c2, c3, c4, c5⟩ := HX1.out.cells
    have f0 := HX1.out.has.frozen 0
    have f1 := HX1.out.has.frozen 1
    have f2 := HX1.out.has.frozen 2
    have f3 := HX1.out.has.frozen 3
    have f4 := HX1.out.has.frozen 4
    have f5 := HX1.out.has.frozen 5
    have HQ := Lib.hid hq
    have HWW := Lib.hid hW
    clear cl l1 b1 q1 hX hb hq hsz hRW hW
    go_wp2_with fail
    refine bl.mono ?_
    rw [HWW.out]
    rintro e2 w2 ⟨rfl, b2, q2⟩
    have HX := Lib.hid (Jr.box_grown HXW.out b2 (by omega))
    have HE : Hid (Bs.Box w2 (w.heap.size + 1) #[.int .i64 0] 30) := (b2.block _ HEW.out.lt (fun q => by injection q with q; omega)).trans HEW.out
    have HB : Hid (Below w.heap.size w w2) := HBW.out.trans ⟨b2.os, b2.tape, b2.output, b2.size, fun k hk => b2.block k (by have := HXW.out.lt; omega) (fun q => by injection q with q; omega)⟩
    have HL2 : Hid (t.Lies w2 (fun k => w.heap.size + 1 + 1 + 1 ≤ k ∧ k < w2.heap.size) (.agg #[.int .i64 k3, .int .i64 y3, .int .u64 (z3 : Int), .string s3, .slice ai3 n3 m3, .slice ak3 o3 d3])) := HLW.out.on fun k hk => ⟨⟨hk.1, Nat.lt_of_lt_of_le hk.2 b2.size⟩, b2.block k hk.2 (fun q => by injection q with q; have := hk.1; omega)⟩
    obtain ⟨i, h1, h2, h3, hB⟩ := q2
    have ci : w2.cell? ⟨w.heap.size + 1 + 1, 1, none⟩ = some (.int .i64 (i : Int)) := hB.cell 1 rfl
    clear bl b2 hB c0 c1 c2 c3 c4 c5 f0 f1 f2 f3 f4 f5 HWW HQ HXW HEW HBW HLW HX1 HE1 HB1 HL1 HX0 HE0 HB0 HZ0 hW0
    by_cases hws : Js.ws r = []
    · rw [if_pos hws] at hO
      subst hO
      rw [hws] at h2
      have ei := Jr.at_end h1 h2
      have di : decide ((i : Int) < (s.size : Int)) = false := decide_eq_false (by omega)
      have din : decide (i < s.size) = false := decide_eq_false (by omega)
      clear h2 hws ei
      obtain ⟨c0, c1, c2, c3, c4, c5⟩ := HX.out.cells
      have f0 := HX.out.has.frozen 0
      have f1 := HX.out.has.frozen 1
      have f2 := HX.out.has.frozen 2
      have f3 := HX.out.has.frozen 3
      have f4 := HX.out.has.frozen 4
      have f5 := HX.out.has.frozen 5
      have ce : w2.cell? ⟨w.heap.size + 1, 0, none⟩ = some (.int .i64 0) := HE.out.cell 0 rfl
      have fe := HE.out.frozen 0
      go_wp2_with fail
      refine leaves_cons (f := 30) (args := #[.pointer (some ⟨w.heap.size, 0, none⟩), .pointer (some ⟨w.heap.size + 1, 0, none⟩)]) (by simp) (by simp [go_sem]) ?_
      refine (Jr.catch_idle ⟨w.heap.size, 0, none⟩ ⟨w.heap.size + 1, 0, none⟩ _).mono ?_
      rintro e2 u2 w9 ⟨rfl, rfl, hw9⟩
      exact Jr.good_end HX.out HE.out HB.out HL2.out hw9 rfl rfl
    · rw [if_neg hws] at hO
      subst hO
      have hlt : i < s.size := by
        cases hr : Js.ws r with
        | nil => exact absurd hr hws
        | cons c r' =>
          rw [hr] at h2
          obtain ⟨hlt, -⟩ := Jr.at_byte h2
          exact hlt
      have di : decide ((i : Int) < (s.size : Int)) = true := decide_eq_true (by omega)
      have din : decide (i < s.size) = true := decide_eq_true (by omega)
      clear h2 hws
      go_wp2_with fail
      refine leaves_cons (f := 30) (args := #[.pointer (some ⟨w.heap.size, 0, none⟩), .pointer (some ⟨w.heap.size + 1, 0, none⟩)]) (by simp) (by simp [go_sem]) ?_
      refine (Jr.catch_fault w.heap.size (w.heap.size + 1) [] w2 HX.out 0 HE.out (by omega)).mono ?_
      rintro e2 u2 w9 ⟨rfl, rfl, hw9⟩
      exact Jr.fault_end HX.out HE.out HB.out hw9 rfl rfl
end Go.Proofs.YtiajclmhimkpnaaDoor
/-
  The tables that json.Get reads.
-/
namespace Go.Proofs.YtiajclmhimkpnaaDoor
open Go.RowKit
/-- the tables that the program reads -/
structure Jt (w : World) : Prop where
  utf : Lib.Utf8Tabs 1 2 w
theorem Jt.on {w w' : World} (h : Jt w) (hb : Below w.heap.size w w') : Jt w' := ⟨Utf8Tabs_below h.utf hb⟩
end Go.Proofs.YtiajclmhimkpnaaDoor
/-
  PLAIN: the reference's writer, that is cut short where the text is too long.
-/
namespace Go.Proofs.YtiajclmhimkpnaaDoor
def Js.runp (f : Nat → List UInt8 → List UInt8) : Nat → List UInt8 → List UInt8
  | 0, l => l
  | n + 1, l => f n (Js.runp f n l)
/-- what stands ahead of item i -/
def Js.pre (k : Int) (ks : Nat → ByteArray) (i : Nat) : List UInt8 := Js.comma i ++ (if k = 5 then [] else Js.quoted (ks i).data.toList ++ [58])
def Js.open (k : Int) : UInt8 := if k = 5 then 91 else 123
def Js.shut (k : Int) : UInt8 := if k = 5 then 93 else 125
def Js.pj : Vt → List UInt8 → List UInt8
  | .nil, out => out
  | .mk k x b s n it m ks, out =>
    if 65536 < out.length then out
    else if 0 ≤ k ∧ k < 5 then out ++ Js.put (.mk k x b s n it m ks)
    else Js.runp (fun i a => Js.pj (it i) (a ++ Js.pre k ks i)) n (out ++ [Js.open k]) ++ [Js.shut k]
theorem Js.put_many {k x : Int} {b : Nat} {s : ByteArray} {n : Nat} {it : Nat → Vt} {m : Nat} {ks : Nat → ByteArray} (h : ¬ (0 ≤ k ∧ k < 5)) : Js.put (.mk k x b s n it m ks) = [Js.open k] ++ Js.cat (fun i => Js.pre k ks i ++ Js.put (it i)) n ++ [Js.shut k] := by
  rw [Js.put, if_neg (by omega), if_neg (by omega), if_neg (by omega), if_neg (by omega), if_neg (by omega)]
  unfold Js.open Js.shut Js.pre
  split
  · simp
  · simp
theorem Js.pj_spec : ∀ (t : Vt) (out : List UInt8), (Js.pj t out = out ++ Js.put t ∨ (65536 < (Js.pj t out).length ∧ 65536 < (out ++ Js.put t).length)) ∧ out.length ≤ (Js.pj t out).length := by
  intro t
  induction t with
  | nil => intro out; exact ⟨.inl (by rw [Js.pj, Js.put, List.append_nil]), Nat.le_refl _⟩
  | mk k x b s n it m ks ih =>
    intro out
    rw [Js.pj]
    by_cases h : 65536 < out.length
    · rw [if_pos h]
      exact ⟨.inr ⟨h, by rw [List.length_append]; omega⟩, Nat.le_refl _⟩
    · rw [if_neg h]
      by_cases hk : 0 ≤ k ∧ k < 5
      · rw [if_pos hk]
        exact ⟨.inl rfl, by rw [List.length_append]; omega⟩
      · rw [if_neg hk, Js.put_many hk]
        have key : ∀ j, (Js.runp (fun i a => Js.pj (it i) (a ++ Js.pre k ks i)) j (out ++ [Js.open k]) = out ++ [Js.open k] ++ Js.cat (fun i => Js.pre k ks i ++ Js.put (it i)) j ∨ (65536 < (Js.runp (fun i a => Js.pj (it i) (a ++ Js.pre k ks i)) j (out ++ [Js.open k])).length ∧ 65536 < (out ++ [Js.open k] ++ Js.cat (fun i => Js.pre k ks i ++ Js.put (it i)) j).length)) ∧ out.length ≤ (Js.runp (fun i a => Js.pj (it i) (a ++ Js.pre k ks i)) j (out ++ [Js.open k])).length := by
          intro j
          induction j with
          | zero => exact ⟨.inl (by simp [Js.runp, Js.cat]), by rw [Js.runp, List.length_append]; omega⟩
          | succ j ihj =>
            rw [Js.runp, Js.cat]
            obtain ⟨h1, h2⟩ := ihj
            obtain ⟨g1, g2⟩ := ih j (Js.runp (fun i a => Js.pj (it i) (a ++ Js.pre k ks i)) j (out ++ [Js.open k]) ++ Js.pre k ks j)
            have hl : (Js.runp (fun i a => Js.pj (it i) (a ++ Js.pre k ks i)) j (out ++ [Js.open k])).length ≤ (Js.pj (it j) (Js.runp (fun i a => Js.pj (it i) (a ++ Js.pre k ks i)) j (out ++ [Js.open k]) ++ Js.pre k ks j)).length := Nat.le_trans (by rw [List.length_append]; omega) g2
            refine ⟨?_, Nat.le_trans h2 hl⟩
            rcases h1 with e | ⟨e1, e2⟩
            · rw [e] at g1 ⊢
              have ea : ∀ l : List UInt8, out ++ [Js.open k] ++ (l ++ (Js.pre k ks j ++ Js.put (it j))) = out ++ [Js.open k] ++ l ++ Js.pre k ks j ++ Js.put (it j) := fun l => by simp
              rw [ea]
              exact g1
            · refine .inr ⟨Nat.lt_of_lt_of_le e1 hl, ?_⟩
              rw [← List.append_assoc, List.length_append]
              omega
        obtain ⟨h1, h2⟩ := key n
        have ea : out ++ ([Js.open k] ++ Js.cat (fun i => Js.pre k ks i ++ Js.put (it i)) n ++ [Js.shut k]) = out ++ [Js.open k] ++ Js.cat (fun i => Js.pre k ks i ++ Js.put (it i)) n ++ [Js.shut k] := by simp
        rw [ea]
        refine ⟨?_, by rw [List.length_append]; omega⟩
        rcases h1 with e | ⟨e1, e2⟩
        · exact .inl (by rw [e])
        · refine .inr ⟨?_, ?_⟩
          · rw [List.length_append]; omega
          · rw [List.length_append]; omega
/-- what PutJson tells: the text, where it is not too long -/
theorem Js.pj_said (t : Vt) : (65536 < (Js.pj t []).length ↔ 65536 < (Js.put t).length) ∧ (¬ 65536 < (Js.pj t []).length → Js.pj t [] = Js.put t) := by
  obtain ⟨h, _⟩ := Js.pj_spec t []
  rw [List.nil_append] at h
  rcases h with e | ⟨e1, e2⟩
  · rw [e]; exact ⟨Iff.rfl, fun _ => rfl⟩
  · exact ⟨⟨fun _ => e2, fun _ => e1⟩, fun q => absurd e1 q⟩
theorem Js.real_len (b : Nat) : (Re.text b).length ≤ 60 := by
  have hs := Rt.sign_le b
  have hk := Rt.kind_le b
  have hc : Re.kind b = 0 ∨ Re.kind b = 1 ∨ Re.kind b = 2 ∨ Re.kind b = 3 ∨ Re.kind b = 4 := by omega
  unfold Re.text
  rcases hc with e | e | e | e | e
  · rw [e]; simp
  · rw [e]; simp only [List.length_append, List.length_cons, List.length_nil]; omega
  · rw [e]; simp only [List.length_append, List.length_cons, List.length_nil]; omega
  · rw [e]
    have := Rt.itoa_le (Re.whole b) (Rt.whole_le b).1 (Rt.whole_le b).2
    simp only
    omega
  · have hp := Rt.pow_le b (Rt.kind4 b e).1
    have := Rt.itoa_le (Re.pow b) hp.1 hp.2
    have := Rt.dec_le (Re.odd b) (Rt.odd_lt b)
    rw [e]
    simp only [List.length_append, List.length_cons, List.length_nil]
    omega
theorem Js.quoted_len (l : List UInt8) : (Js.quoted l).length ≤ 18 * l.length + 2 := by
  have := Js.esc_len l
  unfold Js.quoted
  simp only [List.length_append, List.length_cons, List.length_nil]
  omega
theorem Js.leaf_len {k x : Int} {b : Nat} {s : ByteArray} {n : Nat} {it : Nat → Vt} {m : Nat} {ks : Nat → ByteArray} (hf : Vt.formed k x b s n m ks = true) (hk : 0 ≤ k ∧ k < 5) : (Js.put (.mk k x b s n it m ks)).length ≤ 1200000 := by
  rcases Js.formed_leaf hf with ⟨rfl, rfl⟩ | ⟨rfl, hx⟩ | ⟨rfl, hx⟩ | rfl | rfl | ⟨rfl, rfl⟩ | ⟨rfl, rfl⟩
  · rw [Js.put, if_pos rfl]; simp
  · rw [Js.put, if_neg (by omega), if_pos rfl]; split <;> simp
  · rw [Js.put, if_neg (by omega), if_neg (by omega), if_pos rfl]
    have := Rt.itoa_le x (by omega) (by omega)
    omega
  · rw [Js.put, if_neg (by omega), if_neg (by omega), if_neg (by omega), if_pos rfl]
    have h1 := Js.real_len b
    have h2 := Js.quoted_len (Re.text b)
    unfold Js.real
    split
    · simp
    · split <;> omega
  · rw [Js.put, if_neg (by omega), if_neg (by omega), if_neg (by omega), if_neg (by omega), if_pos rfl]
    have h2 := Js.quoted_len s.data.toList
    have h3 : s.size ≤ 65536 := by
      simp only [Vt.formed] at hf
      simp at hf
      exact hf.1.1.1.1
    rw [show s.data.toList.length = s.size from Array.length_toList] at h2
    omega
  · omega
  · omega
theorem Js.formed_many {k x : Int} {b : Nat} {s : ByteArray} {n m : Nat} {ks : Nat → ByteArray} (hf : Vt.formed k x b s n m ks = true) (hk : ¬ (0 ≤ k ∧ k < 5)) : n ≤ 64 ∧ ((k = 5 ∧ m = 0) ∨ (k = 6 ∧ m = n ∧ ∀ i, i < n → (ks i).size ≤ 32)) := by
  rcases Js.formed_leaf hf with ⟨rfl, rfl⟩ | ⟨rfl, hx⟩ | ⟨rfl, hx⟩ | rfl | rfl | ⟨rfl, rfl⟩ | ⟨rfl, rfl⟩
  iterate 5 omega
  · simp [Vt.formed] at hf
    exact ⟨hf.1.1.1, .inl ⟨rfl, rfl⟩⟩
  · simp [Vt.formed] at hf
    refine ⟨hf.1.1.1.1, .inr ⟨rfl, rfl, fun i hi => ?_⟩⟩
    have := Vt.keysOk_of hf.1.1.1.2 hi
    simp [Vt.key] at this
    exact this.2
theorem Js.pre_len {k : Int} {ks : Nat → ByteArray} {i : Nat} (h : k = 5 ∨ (ks i).size ≤ 32) : (Js.pre k ks i).length ≤ 600 := by
  have hc : (Js.comma i).length ≤ 1 := by unfold Js.comma; split <;> simp
  unfold Js.pre
  rw [List.length_append]
  split
  · simp; omega
  · rename_i h5
    have h2 := Js.quoted_len (ks i).data.toList
    rw [show (ks i).data.toList.length = (ks i).size from Array.length_toList] at h2
    have := h.resolve_left h5
    rw [List.length_append]
    simp
    omega
theorem Js.pj_over {t : Vt} {out : List UInt8} (h : 65536 < out.length) : Js.pj t out = out := by
  cases t with
  | nil => rw [Js.pj]
  | mk k x b s n it m ks => rw [Js.pj, if_pos h]
/-- the loop's text so far is not long -/
theorem Js.run_len {k : Int} {ks : Nat → ByteArray} {it : Nat → Vt} {d n : Nat} (out : List UInt8) (hl : ¬ 65536 < out.length) (hi : ∀ i, i < n → Js.Ok d (it i)) (hk : ∀ i, i < n → k = 5 ∨ (ks i).size ≤ 32) (ih : ∀ i out, Js.Ok d (it i) → (Js.pj (it i) out).length ≤ max out.length 65536 + 2000000 * d) :
    ∀ j, j ≤ n → (Js.runp (fun i a => Js.pj (it i) (a ++ Js.pre k ks i)) j (out ++ [Js.open k])).length ≤ 65537 + 2000000 * d + 600 * j := by
  intro j
  induction j with
  | zero => intro _; rw [Js.runp, List.length_append]; simp; omega
  | succ j ihj =>
    intro hj
    have h1 := ihj (by omega)
    rw [Js.runp]
    have hp := Js.pre_len (i := j) (hk j (by omega))
    have hlen : (Js.runp (fun i a => Js.pj (it i) (a ++ Js.pre k ks i)) j (out ++ [Js.open k]) ++ Js.pre k ks j).length ≤ 65537 + 2000000 * d + 600 * j + 600 := by rw [List.length_append]; omega
    generalize Js.runp (fun i a => Js.pj (it i) (a ++ Js.pre k ks i)) j (out ++ [Js.open k]) ++ Js.pre k ks j = A at hlen ⊢
    clear h1 hp ihj
    by_cases hA : 65536 < A.length
    · rw [Js.pj_over hA]
      exact Nat.le_trans hlen (by rw [Nat.mul_succ]; exact Nat.le_of_eq (Nat.add_assoc _ _ _))
    · have := ih j A (hi j (by omega))
      omega
/-- how far it goes beyond -/
theorem Js.pj_len : ∀ (d : Nat) (t : Vt) (out : List UInt8), Js.Ok d t → (Js.pj t out).length ≤ max out.length 65536 + 2000000 * d
  | 0, _, _, h => h.elim
  | _ + 1, .nil, _, h => h.elim
  | d + 1, .mk k x b s n it m ks, out, h => by
    obtain ⟨hf, hb, hi⟩ := h
    rw [Js.pj]
    split
    · omega
    · rename_i hl
      split
      · rename_i hk
        have := Js.leaf_len (it := it) hf hk
        rw [List.length_append]
        omega
      · rename_i hk
        obtain ⟨hn, hkk⟩ := Js.formed_many hf hk
        have key := Js.run_len (k := k) (ks := ks) (it := it) (d := d) (n := n) out hl (fun i q => hi i q) (fun i q => by rcases hkk with ⟨e, _⟩ | ⟨_, _, e⟩; exact .inl e; exact .inr (e i q)) (fun i out q => Js.pj_len d (it i) out q) n (Nat.le_refl _)
        rw [List.length_append]
        simp only [List.length_cons, List.length_nil]
        omega
end Go.Proofs.YtiajclmhimkpnaaDoor
/-
  PLAIN: what Put and Get answer.
-/
namespace Go.Proofs.YtiajclmhimkpnaaDoor
def Js.err (t : Vt) : Int := if t.may = true then (if (Js.put t).length ≤ 65536 then 0 else 1001) else 1000
def Js.said (t : Vt) : List UInt8 := if t.may = true ∧ (Js.put t).length ≤ 65536 then Js.put t else []
def Js.got (l : List UInt8) : Vt := (Js.get l).getD (Js.leaf 0 0 0 ⟨#[]⟩)
def Js.gerr (l : List UInt8) : Int := if (Js.get l).isSome = true then 0 else 1000
end Go.Proofs.YtiajclmhimkpnaaDoor
/-
  THE WALK of utf.May.
-/
namespace Go.Proofs.YtiajclmhimkpnaaDoor
open Go.RowKit
set_option maxHeartbeats 1000000 in
theorem Wk.may (s : ByteArray) (w : World) (hT : Lib.Utf8Tabs 1 2 w) (hs : s.size ≤ maxLen) :
    Calls Tryd.prog 18 #[.string s] w fun e w' => e = .returned (.bool (Pl.mayL s.data.toList)) ∧ Below w.heap.size w w' := by
  unfold maxLen at hs
  go_enter Tryd.func18, Tryd.ntmps18
  go_wp2
  go_loopw [3] (fun i wr => ∃ k : Nat, k ≤ s.size ∧ i = .int .i64 k ∧ Hid (Pl.mayL (s.data.toList.drop k) = Pl.mayL s.data.toList) ∧ Below w.heap.size w wr) (fun i _ => s.size - (intOf i).toNat)
  case atStart => exact ⟨0, Nat.zero_le _, rfl, rfl, Below.refl _ _⟩
  case round =>
    obtain ⟨k, hk, rfl, hm, hb⟩ := hrel
    have c := Wk.sign_at s k wr (Utf8Tabs_below hT hb)
    by_cases hlt : k < s.size
    · have hle := Pl.sgn_le (s.data.toList.drop k)
      rw [List.length_drop, Wk.len_data] at hle
      obtain ⟨m, hmm⟩ : ∃ m, Pl.sgn (s.data.toList.drop k) = m := ⟨_, rfl⟩
      rw [hmm] at c hle
      have HM : Hid (Pl.sgn (s.data.toList.drop k) = m) := hmm
      clear hmm
      by_cases h0 : m = 0
      · have hz : ((m : Int) == 0) = true := beq_iff_eq.2 (by omega)
        go_wp2_with (go_at_call 29; refine c.mono ?_; rintro e w' ⟨rfl, hb1⟩)
        go_ret
        refine ⟨Wk.ret_bool ?_, Wk.below_step hb hb1⟩
        rw [← hm.out, Pl.mayL_bad _ (Wk.drop_ne s k hlt) (HM.out.trans h0)]
      · have hz : ((m : Int) == 0) = false := beq_eq_false_iff_ne.2 (by omega)
        go_wp2_with (go_at_call 29; refine c.mono ?_; rintro e w' ⟨rfl, hb1⟩)
        go_roundw
        case rel =>
          refine ⟨k + m, by omega, by go_num, ?_, Wk.below_step hb hb1⟩
          have h1 := Pl.mayL_sign (s.data.toList.drop k) (by rw [HM.out]; exact h0)
          rw [HM.out, List.drop_drop] at h1
          show _ = _
          rw [← hm.out, h1]
        case measure => simp [intOf]; omega
    · have hke : k = s.size := by omega
      go_wp2
      go_ret
      refine ⟨Wk.ret_bool ?_, hb⟩
      rw [← hm.out, hke, List.drop_of_length_le (by rw [Wk.len_data]; exact Nat.le_refl _)]
      rfl
end Go.Proofs.YtiajclmhimkpnaaDoor

/-
  THE WALK of the reference's reader: value, over list.
-/
import Derived.Test.YtboalkfagfgnpaaGreatDoorCJPg
import Derived.Test.YtboalkfagfgnpaaGreatDoorCJReadW
namespace Go.Proofs.YtboalkfagfgnpaaGreatDoor
open Go.RowKit
theorem Vt.run_never {f : Nat → Int → Bool × Int} {i n : Nat} (hi : i < n) (h : ∀ L, (f i L).1 = false) (L : Int) : (Vt.run f n L).1 = false := by
  induction n with
  | zero => omega
  | succ n ih =>
    rw [Vt.run]
    by_cases e : i = n
    · subst e
      split
      · exact h _
      · rename_i q
        exact Bool.eq_false_iff.2 q
    · have := ih (by omega)
      rw [if_neg (by rw [this]; exact Bool.false_ne_true)]
      exact this
theorem Js.wide_stand : ∀ (t : Vt) (d L : Int), Js.wide t → (t.stand d L).1 = false := by
  intro t
  induction t with
  | nil => intro d L h; exact h.elim
  | mk k x b s n it m ks ih =>
    intro d L h
    rw [Vt.stand]
    split
    · rfl
    · rename_i hq
      rcases h with h | ⟨i, hi, hw⟩
      · exfalso
        apply hq
        right
        right
        cases hf : Vt.formed k x b s n m ks with
        | false => rfl
        | true => exact absurd (Jb.bounds hf).2.2 (by omega)
      · exact Vt.run_never hi (fun L => ih i _ _ hw) _
theorem Js.wide_may {t : Vt} (h : Js.wide t) : t.may = false := Js.wide_stand t 1 1024 h
/-- list's answer, as value takes it -/
def Jp.Lst (d : Nat) (g : Nat) (T : ByteArray) : Prop := ∀ (l : List UInt8) (u : World) (kd : Int) (en : UInt8), Jp.Rd u g T l false → (kd = 5 ∧ en = 93 ∨ kd = 6 ∧ en = 125) →
  Calls Tryz.prog 53 #[.pointer (some ⟨g, 0, none⟩), .agg #[.int .i64 kd, .int .i64 0, .int .u64 0, .string ⟨#[]⟩, .slice none 0 0, .slice none 0 0], .int .u8 (en.toNat : Int), .int .i64 ((d : Int) + 1)] u (Jp.VOut ((Js.list (Js.value d) (decide (kd = 6)) en l).map fun p => (Js.node kd p.1.1 p.1.2, p.2)) u g T)
theorem Jp.boxG {w u u' : World} {g : Nat} {v0 v1 v2 v3 v4 v5 : Value} (h : Vm.Box u w.heap.size v0 v1 v2 v3 v4 v5) (hb : u.grownBy u' (some g)) (hg : g < w.heap.size) : Vm.Box u' w.heap.size v0 v1 v2 v3 v4 v5 := Jr.box_grown h hb (by omega)
/-- what a callee read is handed on through the result's box -/
theorem Jp.finV {w u u' W : World} {g : Nat} {T : ByteArray} {o : Option (Vt × List UInt8)} {k x : Int} {y : Nat} {s : ByteArray} {ai : Option Addr} {n c : Nat} {ak : Option Addr} {m d : Nat} (hg : w.grownBy u (some g)) (hs : w.heap.size + 1 ≤ u.heap.size) (hgw : g < w.heap.size) (hb : u.grownBy u' (some g)) (hW : Below w.heap.size u' W) (hq : ∀ k, k ≠ w.heap.size → W.heap[k]? = u'.heap[k]?)
    (hM : (∃ t r, o = some (t, r) ∧ Jp.Rd u' g T r false ∧ t.Lies u' (fun q => u.heap.size ≤ q ∧ q < u'.heap.size) (.agg #[.int .i64 k, .int .i64 x, .int .u64 (y : Int), .string s, .slice ai n c, .slice ak m d])) ∨ ((∀ t r, o = some (t, r) → Js.wide t) ∧ ∃ r, Jp.Rd u' g T r true)) :
    Jp.VOut o w g T (.returned (.agg #[.int .i64 k, .int .i64 x, .int .u64 (y : Int), .string s, .slice ai n c, .slice ak m d])) W := by
  refine ⟨Jr.grown_more (Jr.grown_trans hg hb) hW (Nat.le_refl _), k, x, y, s, ai, n, c, ak, m, d, rfl, ?_⟩
  rcases hM with ⟨t, r, h1, h2, h3⟩ | ⟨h1, r, h2⟩
  · exact .inl ⟨t, r, h1, h2.below hW hgw, h3.on fun q hq2 => ⟨⟨by have := hq2.1; omega, by have := hq2.2; have := hW.size; omega⟩, hq q (by have := hq2.1; omega)⟩⟩
  · exact .inr ⟨h1, r, h2.below hW hgw⟩
/-- one word -/
theorem Jp.wordT (p : ByteArray) (hp0 : p.size ≤ 16) (l : List UInt8) (g : Nat) (T : ByteArray) (hp : Pl.pre p.data.toList l = true) (u : World) (h : Jp.Rd u g T l false) : Calls Tryz.prog 51 #[.pointer (some ⟨g, 0, none⟩), .string p] u fun e w' => e = .returned (.bool true) ∧ u.grownBy w' (some g) ∧ Jp.Rd w' g T (l.drop p.size) false :=
  (Jp.word p hp0 l false g T u h).mono fun e w' ⟨a, b, c⟩ => ⟨by rw [hp] at a; exact a, b, by rw [if_pos hp] at c; exact c⟩
theorem Jp.wordF (p : ByteArray) (hp0 : p.size ≤ 16) (l : List UInt8) (g : Nat) (T : ByteArray) (hp : ¬ Pl.pre p.data.toList l = true) (u : World) (h : Jp.Rd u g T l false) : Calls Tryz.prog 51 #[.pointer (some ⟨g, 0, none⟩), .string p] u fun e w' => e = .returned (.bool false) ∧ u.grownBy w' (some g) ∧ Jp.Rd w' g T l false :=
  (Jp.word p hp0 l false g T u h).mono fun e w' ⟨a, b, c⟩ => ⟨by rw [Bool.eq_false_iff.2 hp] at a; exact a, b, by rw [if_neg hp] at c; exact c⟩
set_option maxRecDepth 100000 in
set_option maxHeartbeats 4000000 in
theorem Jp.valueBad (l : List UInt8) (d : Int) (g : Nat) (T : ByteArray) (w : World) (h : Jp.Rd w g T l true) :
    Calls Tryz.prog 23 #[.pointer (some ⟨g, 0, none⟩), .int .i64 d] w (Jp.VOut none w g T) := by
  have hgw := h.lt
  have n1 : ¬ g = w.heap.size := by omega
  have n2 : ¬ w.heap.size = g := by omega
  have HBc : Hid (Vm.Box (w.alloc (.cells #[.int .i64 0, .int .i64 0, .int .u64 0, .string ⟨#[]⟩, .slice none 0 0, .slice none 0 0] 26)) w.heap.size (.int .i64 0) (.int .i64 0) (.int .u64 0) (.string ⟨#[]⟩) (.slice none 0 0) (.slice none 0 0)) := ⟨Vm.Has.new w _ _ rfl⟩
  have HGc : Hid (w.grownBy (w.alloc (.cells #[.int .i64 0, .int .i64 0, .int .u64 0, .string ⟨#[]⟩, .slice none 0 0, .slice none 0 0] 26)) (some g)) := Jp.grown_alloc _ _ _
  have bl := Jp.blanks l true g T (w.alloc (.cells #[.int .i64 0, .int .i64 0, .int .u64 0, .string ⟨#[]⟩, .slice none 0 0, .slice none 0 0] 26)) (h.on (Jp.grown_alloc _ _ _))
  clear h
  go_enter Tryz.func23, Tryz.ntmps23
  go_wp2_with (go_at_call 24; refine bl.mono ?_; rintro e w1 ⟨rfl, b1, q1⟩; have HGc := Lib.hid (Jr.grown_trans HGc.out b1); have HBc := Lib.hid (Jp.boxG HBc.out b1 hgw); have HRc := Lib.hid q1; obtain ⟨i, h1, h2, h3, hB⟩ := q1; have c0 : w1.cell? ⟨g, 0, none⟩ = some (.string T) := hB.cell 0 rfl; have c1 : w1.cell? ⟨g, 1, none⟩ = some (.int .i64 (i : Int)) := hB.cell 1 rfl; have c2 : w1.cell? ⟨g, 2, none⟩ = some (.bool true) := hB.cell 2 rfl; have f2 := hB.frozen 2; obtain ⟨y0, y1, y2, y3, y4, y5⟩ := HBc.out.cells; have z0 := HBc.out.has.frozen 0; have z1 := HBc.out.has.frozen 1; have z2 := HBc.out.has.frozen 2; have z3 := HBc.out.has.frozen 3; have z4 := HBc.out.has.frozen 4; have z5 := HBc.out.has.frozen 5; clear hB b1 bl)
  go_quiet (fail)
  go_wp2
  obtain ⟨W, hW, hX, hb6⟩ := Jr.six ((show Vm.Box (w1.drewN nq) w.heap.size _ _ _ _ _ _ from ⟨HBc.out.all⟩).other n2 2 (.bool true)) (.int .i64 0) (.int .i64 0) (.int .u64 0) (.string ⟨#[]⟩) (.slice none 0 0) (.slice none 0 0)
  rw [hW]
  obtain ⟨x0, x1, x2, x3, x4, x5⟩ := hX.cells
  refine bodyPost_ret (v := .agg #[.int .i64 0, .int .i64 0, .int .u64 0, .string ⟨#[]⟩, .slice none 0 0, .slice none 0 0]) (by simp [results, Tryz.results23, go_sem, x0, x1, x2, x3, x4, x5]) rfl ?_
  exact Jp.finbad (Jr.grown_trans HGc.out (Jr.grown_trans (Jr.grown_some (Jr.grown_drewN _ _) _) (Jr.grown_set _ _ _ _))) hb6 hgw (HRc.out.on (Jr.grown_drewN _ _)).spoil (fun _ _ q => by cases q)
set_option maxRecDepth 100000 in
set_option maxHeartbeats 4000000 in
theorem Jp.valNull (l : List UInt8) (d : Nat) (hd : d ≤ 8) (hne : Js.ws l ≠ []) (p0 : Pl.pre [110, 117, 108, 108] (Js.ws l) = true) (g : Nat) (T : ByteArray) (w : World) (h : Jp.Rd w g T l false) :
    Calls Tryz.prog 23 #[.pointer (some ⟨g, 0, none⟩), .int .i64 ((d : Int) + 1)] w (Jp.VOut (some (Js.leaf 0 0 0 ⟨#[]⟩, (Js.ws l).drop 4)) w g T) := by
  have hgw := h.lt
  have n1 : ¬ g = w.heap.size := by omega
  have n2 : ¬ w.heap.size = g := by omega
  have HBc : Hid (Vm.Box (w.alloc (.cells #[.int .i64 0, .int .i64 0, .int .u64 0, .string ⟨#[]⟩, .slice none 0 0, .slice none 0 0] 26)) w.heap.size (.int .i64 0) (.int .i64 0) (.int .u64 0) (.string ⟨#[]⟩) (.slice none 0 0) (.slice none 0 0)) := ⟨Vm.Has.new w _ _ rfl⟩
  have HGc : Hid (w.grownBy (w.alloc (.cells #[.int .i64 0, .int .i64 0, .int .u64 0, .string ⟨#[]⟩, .slice none 0 0, .slice none 0 0] 26)) (some g)) := Jp.grown_alloc _ _ _
  have bl := Jp.blanks l false g T (w.alloc (.cells #[.int .i64 0, .int .i64 0, .int .u64 0, .string ⟨#[]⟩, .slice none 0 0, .slice none 0 0] 26)) (h.on (Jp.grown_alloc _ _ _))
  have wnull := fun u q => Jp.wordT ⟨#[110, 117, 108, 108]⟩ (by decide) (Js.ws l) g T p0 u q
  have hpos : 0 < (Js.ws l).length := List.length_pos_iff.2 hne
  obtain ⟨L, hL⟩ : ∃ L, Js.ws l = L := ⟨_, rfl⟩
  simp only [hL] at *
  clear h hne hL p0
  have dd : decide ((d : Int) + 1 < 1) = false := decide_eq_false (by omega)
  go_enter Tryz.func23, Tryz.ntmps23
  go_wp2_with (go_at_call 24; refine bl.mono ?_; rintro e w1 ⟨rfl, b1, q1⟩; have HGc := Lib.hid (Jr.grown_trans HGc.out b1); have HBc := Lib.hid (Jp.boxG HBc.out b1 hgw); have HRc := Lib.hid q1; obtain ⟨i, h1, h2, h3, hB⟩ := q1; have c0 : w1.cell? ⟨g, 0, none⟩ = some (.string T) := hB.cell 0 rfl; have c1 : w1.cell? ⟨g, 1, none⟩ = some (.int .i64 (i : Int)) := hB.cell 1 rfl; have c2 : w1.cell? ⟨g, 2, none⟩ = some (.bool false) := hB.cell 2 rfl; have f2 := hB.frozen 2; obtain ⟨y0, y1, y2, y3, y4, y5⟩ := HBc.out.cells; have z0 := HBc.out.has.frozen 0; have z1 := HBc.out.has.frozen 1; have z2 := HBc.out.has.frozen 2; have z3 := HBc.out.has.frozen 3; have z4 := HBc.out.has.frozen 4; have z5 := HBc.out.has.frozen 5; clear hB b1 bl)
  have hi : i < T.size := by
    have := congrArg List.length h2
    rw [List.length_drop, Wk.len_data] at this
    omega
  have d1 : decide ((T.size : Int) ≤ (i : Int)) = false := decide_eq_false (by omega)
  have d1n : decide (T.size ≤ i) = false := decide_eq_false (by omega)
  clear h2 hpos
  go_quiet (fail)
  replace HRc := fun n => Lib.hid (HRc.out.on (Jr.grown_drewN w1 n))
  replace HGc := fun n => Lib.hid (Jr.grown_trans HGc.out (Jr.grown_some (Jr.grown_drewN w1 n) (some g)))
  replace HBc : ∀ n, Hid (Vm.Box (w1.drewN n) w.heap.size (.int .i64 0) (.int .i64 0) (.int .u64 0) (.string ⟨#[]⟩) (.slice none 0 0) (.slice none 0 0)) := fun n => Lib.hid ⟨HBc.out.all⟩
  go_wp2_with (first | (go_at_call_of 51 (Value.string ⟨#[110, 117, 108, 108]⟩); refine (wnull _ (HRc _).out).mono ?_; rintro e w2 ⟨rfl, b2, q2⟩; have HGc := Lib.hid (Jr.grown_trans (HGc _).out b2); have HBc := Lib.hid (Jp.boxG (HBc _).out b2 hgw); have HRc := Lib.hid q2; obtain ⟨y0, y1, y2, y3, y4, y5⟩ := HBc.out.cells; have z0 := HBc.out.has.frozen 0; have z1 := HBc.out.has.frozen 1; have z2 := HBc.out.has.frozen 2; have z3 := HBc.out.has.frozen 3; have z4 := HBc.out.has.frozen 4; have z5 := HBc.out.has.frozen 5; clear b2 q2 wnull))
  obtain ⟨W, hW, hX, hb6⟩ := Jr.six HBc.out (.int .i64 0) (.int .i64 0) (.int .u64 0) (.string ⟨#[]⟩) (.slice none 0 0) (.slice none 0 0)
  rw [hW]
  obtain ⟨x0, x1, x2, x3, x4, x5⟩ := hX.cells
  refine bodyPost_ret (v := .agg #[.int .i64 0, .int .i64 0, .int .u64 0, .string ⟨#[]⟩, .slice none 0 0, .slice none 0 0]) (by simp [results, Tryz.results23, go_sem, x0, x1, x2, x3, x4, x5]) rfl ?_
  exact Jp.fin (0) (0) 0 ⟨#[]⟩ (by decide) HGc.out hb6 hgw HRc.out rfl
set_option maxRecDepth 100000 in
set_option maxHeartbeats 4000000 in
theorem Jp.valTrue (l : List UInt8) (d : Nat) (hd : d ≤ 8) (hne : Js.ws l ≠ []) (p0 : ¬ Pl.pre [110, 117, 108, 108] (Js.ws l) = true) (p1 : Pl.pre [116, 114, 117, 101] (Js.ws l) = true) (g : Nat) (T : ByteArray) (w : World) (h : Jp.Rd w g T l false) :
    Calls Tryz.prog 23 #[.pointer (some ⟨g, 0, none⟩), .int .i64 ((d : Int) + 1)] w (Jp.VOut (some (Js.leaf 1 1 0 ⟨#[]⟩, (Js.ws l).drop 4)) w g T) := by
  have hgw := h.lt
  have n1 : ¬ g = w.heap.size := by omega
  have n2 : ¬ w.heap.size = g := by omega
  have HBc : Hid (Vm.Box (w.alloc (.cells #[.int .i64 0, .int .i64 0, .int .u64 0, .string ⟨#[]⟩, .slice none 0 0, .slice none 0 0] 26)) w.heap.size (.int .i64 0) (.int .i64 0) (.int .u64 0) (.string ⟨#[]⟩) (.slice none 0 0) (.slice none 0 0)) := ⟨Vm.Has.new w _ _ rfl⟩
  have HGc : Hid (w.grownBy (w.alloc (.cells #[.int .i64 0, .int .i64 0, .int .u64 0, .string ⟨#[]⟩, .slice none 0 0, .slice none 0 0] 26)) (some g)) := Jp.grown_alloc _ _ _
  have bl := Jp.blanks l false g T (w.alloc (.cells #[.int .i64 0, .int .i64 0, .int .u64 0, .string ⟨#[]⟩, .slice none 0 0, .slice none 0 0] 26)) (h.on (Jp.grown_alloc _ _ _))
  have wnull := fun u q => Jp.wordF ⟨#[110, 117, 108, 108]⟩ (by decide) (Js.ws l) g T p0 u q
  have wtrue := fun u q => Jp.wordT ⟨#[116, 114, 117, 101]⟩ (by decide) (Js.ws l) g T p1 u q
  have hpos : 0 < (Js.ws l).length := List.length_pos_iff.2 hne
  obtain ⟨L, hL⟩ : ∃ L, Js.ws l = L := ⟨_, rfl⟩
  simp only [hL] at *
  clear h hne hL p0 p1
  have dd : decide ((d : Int) + 1 < 1) = false := decide_eq_false (by omega)
  go_enter Tryz.func23, Tryz.ntmps23
  go_wp2_with (go_at_call 24; refine bl.mono ?_; rintro e w1 ⟨rfl, b1, q1⟩; have HGc := Lib.hid (Jr.grown_trans HGc.out b1); have HBc := Lib.hid (Jp.boxG HBc.out b1 hgw); have HRc := Lib.hid q1; obtain ⟨i, h1, h2, h3, hB⟩ := q1; have c0 : w1.cell? ⟨g, 0, none⟩ = some (.string T) := hB.cell 0 rfl; have c1 : w1.cell? ⟨g, 1, none⟩ = some (.int .i64 (i : Int)) := hB.cell 1 rfl; have c2 : w1.cell? ⟨g, 2, none⟩ = some (.bool false) := hB.cell 2 rfl; have f2 := hB.frozen 2; obtain ⟨y0, y1, y2, y3, y4, y5⟩ := HBc.out.cells; have z0 := HBc.out.has.frozen 0; have z1 := HBc.out.has.frozen 1; have z2 := HBc.out.has.frozen 2; have z3 := HBc.out.has.frozen 3; have z4 := HBc.out.has.frozen 4; have z5 := HBc.out.has.frozen 5; clear hB b1 bl)
  have hi : i < T.size := by
    have := congrArg List.length h2
    rw [List.length_drop, Wk.len_data] at this
    omega
  have d1 : decide ((T.size : Int) ≤ (i : Int)) = false := decide_eq_false (by omega)
  have d1n : decide (T.size ≤ i) = false := decide_eq_false (by omega)
  clear h2 hpos
  go_quiet (fail)
  replace HRc := fun n => Lib.hid (HRc.out.on (Jr.grown_drewN w1 n))
  replace HGc := fun n => Lib.hid (Jr.grown_trans HGc.out (Jr.grown_some (Jr.grown_drewN w1 n) (some g)))
  replace HBc : ∀ n, Hid (Vm.Box (w1.drewN n) w.heap.size (.int .i64 0) (.int .i64 0) (.int .u64 0) (.string ⟨#[]⟩) (.slice none 0 0) (.slice none 0 0)) := fun n => Lib.hid ⟨HBc.out.all⟩
  go_wp2_with (first | (go_at_call_of 51 (Value.string ⟨#[110, 117, 108, 108]⟩); refine (wnull _ (HRc _).out).mono ?_; rintro e w2 ⟨rfl, b2, q2⟩; have HGc := Lib.hid (Jr.grown_trans (HGc _).out b2); have HBc := Lib.hid (Jp.boxG (HBc _).out b2 hgw); have HRc := Lib.hid q2; obtain ⟨y0, y1, y2, y3, y4, y5⟩ := HBc.out.cells; have z0 := HBc.out.has.frozen 0; have z1 := HBc.out.has.frozen 1; have z2 := HBc.out.has.frozen 2; have z3 := HBc.out.has.frozen 3; have z4 := HBc.out.has.frozen 4; have z5 := HBc.out.has.frozen 5; clear b2 q2 wnull) | (go_at_call_of 51 (Value.string ⟨#[116, 114, 117, 101]⟩); refine (wtrue _ HRc.out).mono ?_; rintro e w2 ⟨rfl, b2, q2⟩; have HGc := Lib.hid (Jr.grown_trans HGc.out b2); have HBc := Lib.hid (Jp.boxG HBc.out b2 hgw); have HRc := Lib.hid q2; obtain ⟨y0, y1, y2, y3, y4, y5⟩ := HBc.out.cells; have z0 := HBc.out.has.frozen 0; have z1 := HBc.out.has.frozen 1; have z2 := HBc.out.has.frozen 2; have z3 := HBc.out.has.frozen 3; have z4 := HBc.out.has.frozen 4; have z5 := HBc.out.has.frozen 5; clear b2 q2 wtrue))
  obtain ⟨W, hW, hX, hb6⟩ := Jr.six HBc.out (.int .i64 1) (.int .i64 1) (.int .u64 0) (.string ⟨#[]⟩) (.slice none 0 0) (.slice none 0 0)
  rw [hW]
  obtain ⟨x0, x1, x2, x3, x4, x5⟩ := hX.cells
  refine bodyPost_ret (v := .agg #[.int .i64 1, .int .i64 1, .int .u64 0, .string ⟨#[]⟩, .slice none 0 0, .slice none 0 0]) (by simp [results, Tryz.results23, go_sem, x0, x1, x2, x3, x4, x5]) rfl ?_
  exact Jp.fin (1) (1) 0 ⟨#[]⟩ (by decide) HGc.out hb6 hgw HRc.out rfl
set_option maxRecDepth 100000 in
set_option maxHeartbeats 4000000 in
theorem Jp.valFalse (l : List UInt8) (d : Nat) (hd : d ≤ 8) (hne : Js.ws l ≠ []) (p0 : ¬ Pl.pre [110, 117, 108, 108] (Js.ws l) = true) (p1 : ¬ Pl.pre [116, 114, 117, 101] (Js.ws l) = true) (p2 : Pl.pre [102, 97, 108, 115, 101] (Js.ws l) = true) (g : Nat) (T : ByteArray) (w : World) (h : Jp.Rd w g T l false) :
    Calls Tryz.prog 23 #[.pointer (some ⟨g, 0, none⟩), .int .i64 ((d : Int) + 1)] w (Jp.VOut (some (Js.leaf 1 0 0 ⟨#[]⟩, (Js.ws l).drop 5)) w g T) := by
  have hgw := h.lt
  have n1 : ¬ g = w.heap.size := by omega
  have n2 : ¬ w.heap.size = g := by omega
  have HBc : Hid (Vm.Box (w.alloc (.cells #[.int .i64 0, .int .i64 0, .int .u64 0, .string ⟨#[]⟩, .slice none 0 0, .slice none 0 0] 26)) w.heap.size (.int .i64 0) (.int .i64 0) (.int .u64 0) (.string ⟨#[]⟩) (.slice none 0 0) (.slice none 0 0)) := ⟨Vm.Has.new w _ _ rfl⟩
  have HGc : Hid (w.grownBy (w.alloc (.cells #[.int .i64 0, .int .i64 0, .int .u64 0, .string ⟨#[]⟩, .slice none 0 0, .slice none 0 0] 26)) (some g)) := Jp.grown_alloc _ _ _
  have bl := Jp.blanks l false g T (w.alloc (.cells #[.int .i64 0, .int .i64 0, .int .u64 0, .string ⟨#[]⟩, .slice none 0 0, .slice none 0 0] 26)) (h.on (Jp.grown_alloc _ _ _))
  have wnull := fun u q => Jp.wordF ⟨#[110, 117, 108, 108]⟩ (by decide) (Js.ws l) g T p0 u q
  have wtrue := fun u q => Jp.wordF ⟨#[116, 114, 117, 101]⟩ (by decide) (Js.ws l) g T p1 u q
  have wfalse := fun u q => Jp.wordT ⟨#[102, 97, 108, 115, 101]⟩ (by decide) (Js.ws l) g T p2 u q
  have hpos : 0 < (Js.ws l).length := List.length_pos_iff.2 hne
  obtain ⟨L, hL⟩ : ∃ L, Js.ws l = L := ⟨_, rfl⟩
  simp only [hL] at *
  clear h hne hL p0 p1 p2
  have dd : decide ((d : Int) + 1 < 1) = false := decide_eq_false (by omega)
  go_enter Tryz.func23, Tryz.ntmps23
  go_wp2_with (go_at_call 24; refine bl.mono ?_; rintro e w1 ⟨rfl, b1, q1⟩; have HGc := Lib.hid (Jr.grown_trans HGc.out b1); have HBc := Lib.hid (Jp.boxG HBc.out b1 hgw); have HRc := Lib.hid q1; obtain ⟨i, h1, h2, h3, hB⟩ := q1; have c0 : w1.cell? ⟨g, 0, none⟩ = some (.string T) := hB.cell 0 rfl; have c1 : w1.cell? ⟨g, 1, none⟩ = some (.int .i64 (i : Int)) := hB.cell 1 rfl; have c2 : w1.cell? ⟨g, 2, none⟩ = some (.bool false) := hB.cell 2 rfl; have f2 := hB.frozen 2; obtain ⟨y0, y1, y2, y3, y4, y5⟩ := HBc.out.cells; have z0 := HBc.out.has.frozen 0; have z1 := HBc.out.has.frozen 1; have z2 := HBc.out.has.frozen 2; have z3 := HBc.out.has.frozen 3; have z4 := HBc.out.has.frozen 4; have z5 := HBc.out.has.frozen 5; clear hB b1 bl)
  have hi : i < T.size := by
    have := congrArg List.length h2
    rw [List.length_drop, Wk.len_data] at this
    omega
  have d1 : decide ((T.size : Int) ≤ (i : Int)) = false := decide_eq_false (by omega)
  have d1n : decide (T.size ≤ i) = false := decide_eq_false (by omega)
  clear h2 hpos
  go_quiet (fail)
  replace HRc := fun n => Lib.hid (HRc.out.on (Jr.grown_drewN w1 n))
  replace HGc := fun n => Lib.hid (Jr.grown_trans HGc.out (Jr.grown_some (Jr.grown_drewN w1 n) (some g)))
  replace HBc : ∀ n, Hid (Vm.Box (w1.drewN n) w.heap.size (.int .i64 0) (.int .i64 0) (.int .u64 0) (.string ⟨#[]⟩) (.slice none 0 0) (.slice none 0 0)) := fun n => Lib.hid ⟨HBc.out.all⟩
  go_wp2_with (first | (go_at_call_of 51 (Value.string ⟨#[110, 117, 108, 108]⟩); refine (wnull _ (HRc _).out).mono ?_; rintro e w2 ⟨rfl, b2, q2⟩; have HGc := Lib.hid (Jr.grown_trans (HGc _).out b2); have HBc := Lib.hid (Jp.boxG (HBc _).out b2 hgw); have HRc := Lib.hid q2; obtain ⟨y0, y1, y2, y3, y4, y5⟩ := HBc.out.cells; have z0 := HBc.out.has.frozen 0; have z1 := HBc.out.has.frozen 1; have z2 := HBc.out.has.frozen 2; have z3 := HBc.out.has.frozen 3; have z4 := HBc.out.has.frozen 4; have z5 := HBc.out.has.frozen 5; clear b2 q2 wnull) | (go_at_call_of 51 (Value.string ⟨#[116, 114, 117, 101]⟩); refine (wtrue _ HRc.out).mono ?_; rintro e w2 ⟨rfl, b2, q2⟩; have HGc := Lib.hid (Jr.grown_trans HGc.out b2); have HBc := Lib.hid (Jp.boxG HBc.out b2 hgw); have HRc := Lib.hid q2; obtain ⟨y0, y1, y2, y3, y4, y5⟩ := HBc.out.cells; have z0 := HBc.out.has.frozen 0; have z1 := HBc.out.has.frozen 1; have z2 := HBc.out.has.frozen 2; have z3 := HBc.out.has.frozen 3; have z4 := HBc.out.has.frozen 4; have z5 := HBc.out.has.frozen 5; clear b2 q2 wtrue) | (go_at_call_of 51 (Value.string ⟨#[102, 97, 108, 115, 101]⟩); refine (wfalse _ HRc.out).mono ?_; rintro e w2 ⟨rfl, b2, q2⟩; have HGc := Lib.hid (Jr.grown_trans HGc.out b2); have HBc := Lib.hid (Jp.boxG HBc.out b2 hgw); have HRc := Lib.hid q2; obtain ⟨y0, y1, y2, y3, y4, y5⟩ := HBc.out.cells; have z0 := HBc.out.has.frozen 0; have z1 := HBc.out.has.frozen 1; have z2 := HBc.out.has.frozen 2; have z3 := HBc.out.has.frozen 3; have z4 := HBc.out.has.frozen 4; have z5 := HBc.out.has.frozen 5; clear b2 q2 wfalse))
  obtain ⟨W, hW, hX, hb6⟩ := Jr.six HBc.out (.int .i64 1) (.int .i64 0) (.int .u64 0) (.string ⟨#[]⟩) (.slice none 0 0) (.slice none 0 0)
  rw [hW]
  obtain ⟨x0, x1, x2, x3, x4, x5⟩ := hX.cells
  refine bodyPost_ret (v := .agg #[.int .i64 1, .int .i64 0, .int .u64 0, .string ⟨#[]⟩, .slice none 0 0, .slice none 0 0]) (by simp [results, Tryz.results23, go_sem, x0, x1, x2, x3, x4, x5]) rfl ?_
  exact Jp.fin (1) (0) 0 ⟨#[]⟩ (by decide) HGc.out hb6 hgw HRc.out rfl
set_option maxRecDepth 100000 in
set_option maxHeartbeats 4000000 in
theorem Jp.valOpen (l : List UInt8) (d : Nat) (hd : d ≤ 8) (hne : Js.ws l ≠ []) (p0 : ¬ Pl.pre [110, 117, 108, 108] (Js.ws l) = true) (p1 : ¬ Pl.pre [116, 114, 117, 101] (Js.ws l) = true) (p2 : ¬ Pl.pre [102, 97, 108, 115, 101] (Js.ws l) = true) (p3 : ¬ Pl.pre [34] (Js.ws l) = true) (p4 : Pl.pre [91] (Js.ws l) = true) (g : Nat) (T : ByteArray) (hL0 : Jp.Lst d g T) (w : World) (h : Jp.Rd w g T l false) :
    Calls Tryz.prog 23 #[.pointer (some ⟨g, 0, none⟩), .int .i64 ((d : Int) + 1)] w (Jp.VOut ((Js.list (Js.value d) false 93 ((Js.ws l).drop 1)).map fun p => (Js.node 5 p.1.1 p.1.2, p.2)) w g T) := by
  have hgw := h.lt
  have n1 : ¬ g = w.heap.size := by omega
  have n2 : ¬ w.heap.size = g := by omega
  have HBc : Hid (Vm.Box (w.alloc (.cells #[.int .i64 0, .int .i64 0, .int .u64 0, .string ⟨#[]⟩, .slice none 0 0, .slice none 0 0] 26)) w.heap.size (.int .i64 0) (.int .i64 0) (.int .u64 0) (.string ⟨#[]⟩) (.slice none 0 0) (.slice none 0 0)) := ⟨Vm.Has.new w _ _ rfl⟩
  have HGc : Hid (w.grownBy (w.alloc (.cells #[.int .i64 0, .int .i64 0, .int .u64 0, .string ⟨#[]⟩, .slice none 0 0, .slice none 0 0] 26)) (some g)) := Jp.grown_alloc _ _ _
  have bl := Jp.blanks l false g T (w.alloc (.cells #[.int .i64 0, .int .i64 0, .int .u64 0, .string ⟨#[]⟩, .slice none 0 0, .slice none 0 0] 26)) (h.on (Jp.grown_alloc _ _ _))
  have wnull := fun u q => Jp.wordF ⟨#[110, 117, 108, 108]⟩ (by decide) (Js.ws l) g T p0 u q
  have wtrue := fun u q => Jp.wordF ⟨#[116, 114, 117, 101]⟩ (by decide) (Js.ws l) g T p1 u q
  have wfalse := fun u q => Jp.wordF ⟨#[102, 97, 108, 115, 101]⟩ (by decide) (Js.ws l) g T p2 u q
  have wquote := fun u q => Jp.wordF ⟨#[34]⟩ (by decide) (Js.ws l) g T p3 u q
  have wopen := fun u q => Jp.wordT ⟨#[91]⟩ (by decide) (Js.ws l) g T p4 u q
  have li := fun u q => hL0 ((Js.ws l).drop 1) u 5 93 q (.inl ⟨rfl, rfl⟩)
  clear hL0
  have hpos : 0 < (Js.ws l).length := List.length_pos_iff.2 hne
  obtain ⟨L, hL⟩ : ∃ L, Js.ws l = L := ⟨_, rfl⟩
  simp only [hL] at *
  clear h hne hL p0 p1 p2 p3 p4
  have dd : decide ((d : Int) + 1 < 1) = false := decide_eq_false (by omega)
  go_enter Tryz.func23, Tryz.ntmps23
  go_wp2_with (go_at_call 24; refine bl.mono ?_; rintro e w1 ⟨rfl, b1, q1⟩; have HGc := Lib.hid (Jr.grown_trans HGc.out b1); have HBc := Lib.hid (Jp.boxG HBc.out b1 hgw); have HRc := Lib.hid q1; obtain ⟨i, h1, h2, h3, hB⟩ := q1; have c0 : w1.cell? ⟨g, 0, none⟩ = some (.string T) := hB.cell 0 rfl; have c1 : w1.cell? ⟨g, 1, none⟩ = some (.int .i64 (i : Int)) := hB.cell 1 rfl; have c2 : w1.cell? ⟨g, 2, none⟩ = some (.bool false) := hB.cell 2 rfl; have f2 := hB.frozen 2; obtain ⟨y0, y1, y2, y3, y4, y5⟩ := HBc.out.cells; have z0 := HBc.out.has.frozen 0; have z1 := HBc.out.has.frozen 1; have z2 := HBc.out.has.frozen 2; have z3 := HBc.out.has.frozen 3; have z4 := HBc.out.has.frozen 4; have z5 := HBc.out.has.frozen 5; clear hB b1 bl)
  have hi : i < T.size := by
    have := congrArg List.length h2
    rw [List.length_drop, Wk.len_data] at this
    omega
  have d1 : decide ((T.size : Int) ≤ (i : Int)) = false := decide_eq_false (by omega)
  have d1n : decide (T.size ≤ i) = false := decide_eq_false (by omega)
  clear h2 hpos
  go_quiet (fail)
  replace HRc := fun n => Lib.hid (HRc.out.on (Jr.grown_drewN w1 n))
  replace HGc := fun n => Lib.hid (Jr.grown_trans HGc.out (Jr.grown_some (Jr.grown_drewN w1 n) (some g)))
  replace HBc : ∀ n, Hid (Vm.Box (w1.drewN n) w.heap.size (.int .i64 0) (.int .i64 0) (.int .u64 0) (.string ⟨#[]⟩) (.slice none 0 0) (.slice none 0 0)) := fun n => Lib.hid ⟨HBc.out.all⟩
  go_wp2_with (first | (go_at_call_of 51 (Value.string ⟨#[110, 117, 108, 108]⟩); refine (wnull _ (HRc _).out).mono ?_; rintro e w2 ⟨rfl, b2, q2⟩; have HGc := Lib.hid (Jr.grown_trans (HGc _).out b2); have HBc := Lib.hid (Jp.boxG (HBc _).out b2 hgw); have HRc := Lib.hid q2; obtain ⟨y0, y1, y2, y3, y4, y5⟩ := HBc.out.cells; have z0 := HBc.out.has.frozen 0; have z1 := HBc.out.has.frozen 1; have z2 := HBc.out.has.frozen 2; have z3 := HBc.out.has.frozen 3; have z4 := HBc.out.has.frozen 4; have z5 := HBc.out.has.frozen 5; clear b2 q2 wnull) | (go_at_call_of 51 (Value.string ⟨#[116, 114, 117, 101]⟩); refine (wtrue _ HRc.out).mono ?_; rintro e w2 ⟨rfl, b2, q2⟩; have HGc := Lib.hid (Jr.grown_trans HGc.out b2); have HBc := Lib.hid (Jp.boxG HBc.out b2 hgw); have HRc := Lib.hid q2; obtain ⟨y0, y1, y2, y3, y4, y5⟩ := HBc.out.cells; have z0 := HBc.out.has.frozen 0; have z1 := HBc.out.has.frozen 1; have z2 := HBc.out.has.frozen 2; have z3 := HBc.out.has.frozen 3; have z4 := HBc.out.has.frozen 4; have z5 := HBc.out.has.frozen 5; clear b2 q2 wtrue) | (go_at_call_of 51 (Value.string ⟨#[102, 97, 108, 115, 101]⟩); refine (wfalse _ HRc.out).mono ?_; rintro e w2 ⟨rfl, b2, q2⟩; have HGc := Lib.hid (Jr.grown_trans HGc.out b2); have HBc := Lib.hid (Jp.boxG HBc.out b2 hgw); have HRc := Lib.hid q2; obtain ⟨y0, y1, y2, y3, y4, y5⟩ := HBc.out.cells; have z0 := HBc.out.has.frozen 0; have z1 := HBc.out.has.frozen 1; have z2 := HBc.out.has.frozen 2; have z3 := HBc.out.has.frozen 3; have z4 := HBc.out.has.frozen 4; have z5 := HBc.out.has.frozen 5; clear b2 q2 wfalse) | (go_at_call_of 51 (Value.string ⟨#[34]⟩); refine (wquote _ HRc.out).mono ?_; rintro e w2 ⟨rfl, b2, q2⟩; have HGc := Lib.hid (Jr.grown_trans HGc.out b2); have HBc := Lib.hid (Jp.boxG HBc.out b2 hgw); have HRc := Lib.hid q2; obtain ⟨y0, y1, y2, y3, y4, y5⟩ := HBc.out.cells; have z0 := HBc.out.has.frozen 0; have z1 := HBc.out.has.frozen 1; have z2 := HBc.out.has.frozen 2; have z3 := HBc.out.has.frozen 3; have z4 := HBc.out.has.frozen 4; have z5 := HBc.out.has.frozen 5; clear b2 q2 wquote) | (go_at_call_of 51 (Value.string ⟨#[91]⟩); refine (wopen _ HRc.out).mono ?_; rintro e w2 ⟨rfl, b2, q2⟩; have HGc := Lib.hid (Jr.grown_trans HGc.out b2); have HBc := Lib.hid (Jp.boxG HBc.out b2 hgw); have HRc := Lib.hid q2; obtain ⟨y0, y1, y2, y3, y4, y5⟩ := HBc.out.cells; have z0 := HBc.out.has.frozen 0; have z1 := HBc.out.has.frozen 1; have z2 := HBc.out.has.frozen 2; have z3 := HBc.out.has.frozen 3; have z4 := HBc.out.has.frozen 4; have z5 := HBc.out.has.frozen 5; clear b2 q2 wopen) | (go_at_call 53; refine (li _ HRc.out).mono ?_; rintro e w3 ⟨b3, k3, x3, Y3, s3, ai3, n3, c3, ak3, m3, d3, rfl, M3⟩; have HG3 := Lib.hid b3; have HM3 := Lib.hid M3; have HB3 := Lib.hid (Jp.boxG HBc.out b3 hgw); obtain ⟨y0, y1, y2, y3, y4, y5⟩ := HB3.out.cells; have z0 := HB3.out.has.frozen 0; have z1 := HB3.out.has.frozen 1; have z2 := HB3.out.has.frozen 2; have z3 := HB3.out.has.frozen 3; have z4 := HB3.out.has.frozen 4; have z5 := HB3.out.has.frozen 5; clear b3 M3))
  obtain ⟨W, hW, hX, hb6⟩ := Jr.six HB3.out (.int .i64 k3) (.int .i64 x3) (.int .u64 (Y3 : Int)) (.string s3) (.slice ai3 n3 c3) (.slice ak3 m3 d3)
  have hoth : ∀ q, q ≠ w.heap.size → W.heap[q]? = w3.heap[q]? := fun q hq => by rw [← hW]; exact Jr.six_other w3 w.heap.size 0 _ _ _ _ _ _ q hq
  rw [hW]
  obtain ⟨x0, x1, x2, x3', x4, x5⟩ := hX.cells
  refine bodyPost_ret (v := .agg #[.int .i64 k3, .int .i64 x3, .int .u64 (Y3 : Int), .string s3, .slice ai3 n3 c3, .slice ak3 m3 d3]) (by simp [results, Tryz.results23, go_sem, x0, x1, x2, x3', x4, x5]) rfl ?_
  exact Jp.finV HGc.out HBc.out.lt hgw HG3.out hb6 hoth HM3.out
set_option maxRecDepth 100000 in
set_option maxHeartbeats 4000000 in
theorem Jp.valBrace (l : List UInt8) (d : Nat) (hd : d ≤ 8) (hne : Js.ws l ≠ []) (p0 : ¬ Pl.pre [110, 117, 108, 108] (Js.ws l) = true) (p1 : ¬ Pl.pre [116, 114, 117, 101] (Js.ws l) = true) (p2 : ¬ Pl.pre [102, 97, 108, 115, 101] (Js.ws l) = true) (p3 : ¬ Pl.pre [34] (Js.ws l) = true) (p4 : ¬ Pl.pre [91] (Js.ws l) = true) (p5 : Pl.pre [123] (Js.ws l) = true) (g : Nat) (T : ByteArray) (hL0 : Jp.Lst d g T) (w : World) (h : Jp.Rd w g T l false) :
    Calls Tryz.prog 23 #[.pointer (some ⟨g, 0, none⟩), .int .i64 ((d : Int) + 1)] w (Jp.VOut ((Js.list (Js.value d) true 125 ((Js.ws l).drop 1)).map fun p => (Js.node 6 p.1.1 p.1.2, p.2)) w g T) := by
  have hgw := h.lt
  have n1 : ¬ g = w.heap.size := by omega
  have n2 : ¬ w.heap.size = g := by omega
  have HBc : Hid (Vm.Box (w.alloc (.cells #[.int .i64 0, .int .i64 0, .int .u64 0, .string ⟨#[]⟩, .slice none 0 0, .slice none 0 0] 26)) w.heap.size (.int .i64 0) (.int .i64 0) (.int .u64 0) (.string ⟨#[]⟩) (.slice none 0 0) (.slice none 0 0)) := ⟨Vm.Has.new w _ _ rfl⟩
  have HGc : Hid (w.grownBy (w.alloc (.cells #[.int .i64 0, .int .i64 0, .int .u64 0, .string ⟨#[]⟩, .slice none 0 0, .slice none 0 0] 26)) (some g)) := Jp.grown_alloc _ _ _
  have bl := Jp.blanks l false g T (w.alloc (.cells #[.int .i64 0, .int .i64 0, .int .u64 0, .string ⟨#[]⟩, .slice none 0 0, .slice none 0 0] 26)) (h.on (Jp.grown_alloc _ _ _))
  have wnull := fun u q => Jp.wordF ⟨#[110, 117, 108, 108]⟩ (by decide) (Js.ws l) g T p0 u q
  have wtrue := fun u q => Jp.wordF ⟨#[116, 114, 117, 101]⟩ (by decide) (Js.ws l) g T p1 u q
  have wfalse := fun u q => Jp.wordF ⟨#[102, 97, 108, 115, 101]⟩ (by decide) (Js.ws l) g T p2 u q
  have wquote := fun u q => Jp.wordF ⟨#[34]⟩ (by decide) (Js.ws l) g T p3 u q
  have wopen := fun u q => Jp.wordF ⟨#[91]⟩ (by decide) (Js.ws l) g T p4 u q
  have wbrace := fun u q => Jp.wordT ⟨#[123]⟩ (by decide) (Js.ws l) g T p5 u q
  have li := fun u q => hL0 ((Js.ws l).drop 1) u 6 125 q (.inr ⟨rfl, rfl⟩)
  clear hL0
  have hpos : 0 < (Js.ws l).length := List.length_pos_iff.2 hne
  obtain ⟨L, hL⟩ : ∃ L, Js.ws l = L := ⟨_, rfl⟩
  simp only [hL] at *
  clear h hne hL p0 p1 p2 p3 p4 p5
  have dd : decide ((d : Int) + 1 < 1) = false := decide_eq_false (by omega)
  go_enter Tryz.func23, Tryz.ntmps23
  go_wp2_with (go_at_call 24; refine bl.mono ?_; rintro e w1 ⟨rfl, b1, q1⟩; have HGc := Lib.hid (Jr.grown_trans HGc.out b1); have HBc := Lib.hid (Jp.boxG HBc.out b1 hgw); have HRc := Lib.hid q1; obtain ⟨i, h1, h2, h3, hB⟩ := q1; have c0 : w1.cell? ⟨g, 0, none⟩ = some (.string T) := hB.cell 0 rfl; have c1 : w1.cell? ⟨g, 1, none⟩ = some (.int .i64 (i : Int)) := hB.cell 1 rfl; have c2 : w1.cell? ⟨g, 2, none⟩ = some (.bool false) := hB.cell 2 rfl; have f2 := hB.frozen 2; obtain ⟨y0, y1, y2, y3, y4, y5⟩ := HBc.out.cells; have z0 := HBc.out.has.frozen 0; have z1 := HBc.out.has.frozen 1; have z2 := HBc.out.has.frozen 2; have z3 := HBc.out.has.frozen 3; have z4 := HBc.out.has.frozen 4; have z5 := HBc.out.has.frozen 5; clear hB b1 bl)
  have hi : i < T.size := by
    have := congrArg List.length h2
    rw [List.length_drop, Wk.len_data] at this
    omega
  have d1 : decide ((T.size : Int) ≤ (i : Int)) = false := decide_eq_false (by omega)
  have d1n : decide (T.size ≤ i) = false := decide_eq_false (by omega)
  clear h2 hpos
  go_quiet (fail)
  replace HRc := fun n => Lib.hid (HRc.out.on (Jr.grown_drewN w1 n))
  replace HGc := fun n => Lib.hid (Jr.grown_trans HGc.out (Jr.grown_some (Jr.grown_drewN w1 n) (some g)))
  replace HBc : ∀ n, Hid (Vm.Box (w1.drewN n) w.heap.size (.int .i64 0) (.int .i64 0) (.int .u64 0) (.string ⟨#[]⟩) (.slice none 0 0) (.slice none 0 0)) := fun n => Lib.hid ⟨HBc.out.all⟩
  go_wp2_with (first | (go_at_call_of 51 (Value.string ⟨#[110, 117, 108, 108]⟩); refine (wnull _ (HRc _).out).mono ?_; rintro e w2 ⟨rfl, b2, q2⟩; have HGc := Lib.hid (Jr.grown_trans (HGc _).out b2); have HBc := Lib.hid (Jp.boxG (HBc _).out b2 hgw); have HRc := Lib.hid q2; obtain ⟨y0, y1, y2, y3, y4, y5⟩ := HBc.out.cells; have z0 := HBc.out.has.frozen 0; have z1 := HBc.out.has.frozen 1; have z2 := HBc.out.has.frozen 2; have z3 := HBc.out.has.frozen 3; have z4 := HBc.out.has.frozen 4; have z5 := HBc.out.has.frozen 5; clear b2 q2 wnull) | (go_at_call_of 51 (Value.string ⟨#[116, 114, 117, 101]⟩); refine (wtrue _ HRc.out).mono ?_; rintro e w2 ⟨rfl, b2, q2⟩; have HGc := Lib.hid (Jr.grown_trans HGc.out b2); have HBc := Lib.hid (Jp.boxG HBc.out b2 hgw); have HRc := Lib.hid q2; obtain ⟨y0, y1, y2, y3, y4, y5⟩ := HBc.out.cells; have z0 := HBc.out.has.frozen 0; have z1 := HBc.out.has.frozen 1; have z2 := HBc.out.has.frozen 2; have z3 := HBc.out.has.frozen 3; have z4 := HBc.out.has.frozen 4; have z5 := HBc.out.has.frozen 5; clear b2 q2 wtrue) | (go_at_call_of 51 (Value.string ⟨#[102, 97, 108, 115, 101]⟩); refine (wfalse _ HRc.out).mono ?_; rintro e w2 ⟨rfl, b2, q2⟩; have HGc := Lib.hid (Jr.grown_trans HGc.out b2); have HBc := Lib.hid (Jp.boxG HBc.out b2 hgw); have HRc := Lib.hid q2; obtain ⟨y0, y1, y2, y3, y4, y5⟩ := HBc.out.cells; have z0 := HBc.out.has.frozen 0; have z1 := HBc.out.has.frozen 1; have z2 := HBc.out.has.frozen 2; have z3 := HBc.out.has.frozen 3; have z4 := HBc.out.has.frozen 4; have z5 := HBc.out.has.frozen 5; clear b2 q2 wfalse) | (go_at_call_of 51 (Value.string ⟨#[34]⟩); refine (wquote _ HRc.out).mono ?_; rintro e w2 ⟨rfl, b2, q2⟩; have HGc := Lib.hid (Jr.grown_trans HGc.out b2); have HBc := Lib.hid (Jp.boxG HBc.out b2 hgw); have HRc := Lib.hid q2; obtain ⟨y0, y1, y2, y3, y4, y5⟩ := HBc.out.cells; have z0 := HBc.out.has.frozen 0; have z1 := HBc.out.has.frozen 1; have z2 := HBc.out.has.frozen 2; have z3 := HBc.out.has.frozen 3; have z4 := HBc.out.has.frozen 4; have z5 := HBc.out.has.frozen 5; clear b2 q2 wquote) | (go_at_call_of 51 (Value.string ⟨#[91]⟩); refine (wopen _ HRc.out).mono ?_; rintro e w2 ⟨rfl, b2, q2⟩; have HGc := Lib.hid (Jr.grown_trans HGc.out b2); have HBc := Lib.hid (Jp.boxG HBc.out b2 hgw); have HRc := Lib.hid q2; obtain ⟨y0, y1, y2, y3, y4, y5⟩ := HBc.out.cells; have z0 := HBc.out.has.frozen 0; have z1 := HBc.out.has.frozen 1; have z2 := HBc.out.has.frozen 2; have z3 := HBc.out.has.frozen 3; have z4 := HBc.out.has.frozen 4; have z5 := HBc.out.has.frozen 5; clear b2 q2 wopen) | (go_at_call_of 51 (Value.string ⟨#[123]⟩); refine (wbrace _ HRc.out).mono ?_; rintro e w2 ⟨rfl, b2, q2⟩; have HGc := Lib.hid (Jr.grown_trans HGc.out b2); have HBc := Lib.hid (Jp.boxG HBc.out b2 hgw); have HRc := Lib.hid q2; obtain ⟨y0, y1, y2, y3, y4, y5⟩ := HBc.out.cells; have z0 := HBc.out.has.frozen 0; have z1 := HBc.out.has.frozen 1; have z2 := HBc.out.has.frozen 2; have z3 := HBc.out.has.frozen 3; have z4 := HBc.out.has.frozen 4; have z5 := HBc.out.has.frozen 5; clear b2 q2 wbrace) | (go_at_call 53; refine (li _ HRc.out).mono ?_; rintro e w3 ⟨b3, k3, x3, Y3, s3, ai3, n3, c3, ak3, m3, d3, rfl, M3⟩; have HG3 := Lib.hid b3; have HM3 := Lib.hid M3; have HB3 := Lib.hid (Jp.boxG HBc.out b3 hgw); obtain ⟨y0, y1, y2, y3, y4, y5⟩ := HB3.out.cells; have z0 := HB3.out.has.frozen 0; have z1 := HB3.out.has.frozen 1; have z2 := HB3.out.has.frozen 2; have z3 := HB3.out.has.frozen 3; have z4 := HB3.out.has.frozen 4; have z5 := HB3.out.has.frozen 5; clear b3 M3))
  obtain ⟨W, hW, hX, hb6⟩ := Jr.six HB3.out (.int .i64 k3) (.int .i64 x3) (.int .u64 (Y3 : Int)) (.string s3) (.slice ai3 n3 c3) (.slice ak3 m3 d3)
  have hoth : ∀ q, q ≠ w.heap.size → W.heap[q]? = w3.heap[q]? := fun q hq => by rw [← hW]; exact Jr.six_other w3 w.heap.size 0 _ _ _ _ _ _ q hq
  rw [hW]
  obtain ⟨x0, x1, x2, x3', x4, x5⟩ := hX.cells
  refine bodyPost_ret (v := .agg #[.int .i64 k3, .int .i64 x3, .int .u64 (Y3 : Int), .string s3, .slice ai3 n3 c3, .slice ak3 m3 d3]) (by simp [results, Tryz.results23, go_sem, x0, x1, x2, x3', x4, x5]) rfl ?_
  exact Jp.finV HGc.out HBc.out.lt hgw HG3.out hb6 hoth HM3.out
set_option maxRecDepth 100000 in
set_option maxHeartbeats 4000000 in
theorem Jp.valNumber (l : List UInt8) (d : Nat) (hd : d ≤ 8) (hne : Js.ws l ≠ []) (p0 : ¬ Pl.pre [110, 117, 108, 108] (Js.ws l) = true) (p1 : ¬ Pl.pre [116, 114, 117, 101] (Js.ws l) = true) (p2 : ¬ Pl.pre [102, 97, 108, 115, 101] (Js.ws l) = true) (p3 : ¬ Pl.pre [34] (Js.ws l) = true) (p4 : ¬ Pl.pre [91] (Js.ws l) = true) (p5 : ¬ Pl.pre [123] (Js.ws l) = true) (g : Nat) (T : ByteArray) (w : World) (h : Jp.Rd w g T l false) :
    Calls Tryz.prog 23 #[.pointer (some ⟨g, 0, none⟩), .int .i64 ((d : Int) + 1)] w (Jp.VOut (Js.number (Js.ws l)) w g T) := by
  have hgw := h.lt
  have n1 : ¬ g = w.heap.size := by omega
  have n2 : ¬ w.heap.size = g := by omega
  have HBc : Hid (Vm.Box (w.alloc (.cells #[.int .i64 0, .int .i64 0, .int .u64 0, .string ⟨#[]⟩, .slice none 0 0, .slice none 0 0] 26)) w.heap.size (.int .i64 0) (.int .i64 0) (.int .u64 0) (.string ⟨#[]⟩) (.slice none 0 0) (.slice none 0 0)) := ⟨Vm.Has.new w _ _ rfl⟩
  have HGc : Hid (w.grownBy (w.alloc (.cells #[.int .i64 0, .int .i64 0, .int .u64 0, .string ⟨#[]⟩, .slice none 0 0, .slice none 0 0] 26)) (some g)) := Jp.grown_alloc _ _ _
  have bl := Jp.blanks l false g T (w.alloc (.cells #[.int .i64 0, .int .i64 0, .int .u64 0, .string ⟨#[]⟩, .slice none 0 0, .slice none 0 0] 26)) (h.on (Jp.grown_alloc _ _ _))
  have wnull := fun u q => Jp.wordF ⟨#[110, 117, 108, 108]⟩ (by decide) (Js.ws l) g T p0 u q
  have wtrue := fun u q => Jp.wordF ⟨#[116, 114, 117, 101]⟩ (by decide) (Js.ws l) g T p1 u q
  have wfalse := fun u q => Jp.wordF ⟨#[102, 97, 108, 115, 101]⟩ (by decide) (Js.ws l) g T p2 u q
  have wquote := fun u q => Jp.wordF ⟨#[34]⟩ (by decide) (Js.ws l) g T p3 u q
  have wopen := fun u q => Jp.wordF ⟨#[91]⟩ (by decide) (Js.ws l) g T p4 u q
  have wbrace := fun u q => Jp.wordF ⟨#[123]⟩ (by decide) (Js.ws l) g T p5 u q
  have nu := fun u q => Jp.number (Js.ws l) g T u q
  have hpos : 0 < (Js.ws l).length := List.length_pos_iff.2 hne
  obtain ⟨L, hL⟩ : ∃ L, Js.ws l = L := ⟨_, rfl⟩
  simp only [hL] at *
  clear h hne hL p0 p1 p2 p3 p4 p5
  have dd : decide ((d : Int) + 1 < 1) = false := decide_eq_false (by omega)
  go_enter Tryz.func23, Tryz.ntmps23
  go_wp2_with (go_at_call 24; refine bl.mono ?_; rintro e w1 ⟨rfl, b1, q1⟩; have HGc := Lib.hid (Jr.grown_trans HGc.out b1); have HBc := Lib.hid (Jp.boxG HBc.out b1 hgw); have HRc := Lib.hid q1; obtain ⟨i, h1, h2, h3, hB⟩ := q1; have c0 : w1.cell? ⟨g, 0, none⟩ = some (.string T) := hB.cell 0 rfl; have c1 : w1.cell? ⟨g, 1, none⟩ = some (.int .i64 (i : Int)) := hB.cell 1 rfl; have c2 : w1.cell? ⟨g, 2, none⟩ = some (.bool false) := hB.cell 2 rfl; have f2 := hB.frozen 2; obtain ⟨y0, y1, y2, y3, y4, y5⟩ := HBc.out.cells; have z0 := HBc.out.has.frozen 0; have z1 := HBc.out.has.frozen 1; have z2 := HBc.out.has.frozen 2; have z3 := HBc.out.has.frozen 3; have z4 := HBc.out.has.frozen 4; have z5 := HBc.out.has.frozen 5; clear hB b1 bl)
  have hi : i < T.size := by
    have := congrArg List.length h2
    rw [List.length_drop, Wk.len_data] at this
    omega
  have d1 : decide ((T.size : Int) ≤ (i : Int)) = false := decide_eq_false (by omega)
  have d1n : decide (T.size ≤ i) = false := decide_eq_false (by omega)
  clear h2 hpos
  go_quiet (fail)
  replace HRc := fun n => Lib.hid (HRc.out.on (Jr.grown_drewN w1 n))
  replace HGc := fun n => Lib.hid (Jr.grown_trans HGc.out (Jr.grown_some (Jr.grown_drewN w1 n) (some g)))
  replace HBc : ∀ n, Hid (Vm.Box (w1.drewN n) w.heap.size (.int .i64 0) (.int .i64 0) (.int .u64 0) (.string ⟨#[]⟩) (.slice none 0 0) (.slice none 0 0)) := fun n => Lib.hid ⟨HBc.out.all⟩
  go_wp2_with (first | (go_at_call_of 51 (Value.string ⟨#[110, 117, 108, 108]⟩); refine (wnull _ (HRc _).out).mono ?_; rintro e w2 ⟨rfl, b2, q2⟩; have HGc := Lib.hid (Jr.grown_trans (HGc _).out b2); have HBc := Lib.hid (Jp.boxG (HBc _).out b2 hgw); have HRc := Lib.hid q2; obtain ⟨y0, y1, y2, y3, y4, y5⟩ := HBc.out.cells; have z0 := HBc.out.has.frozen 0; have z1 := HBc.out.has.frozen 1; have z2 := HBc.out.has.frozen 2; have z3 := HBc.out.has.frozen 3; have z4 := HBc.out.has.frozen 4; have z5 := HBc.out.has.frozen 5; clear b2 q2 wnull) | (go_at_call_of 51 (Value.string ⟨#[116, 114, 117, 101]⟩); refine (wtrue _ HRc.out).mono ?_; rintro e w2 ⟨rfl, b2, q2⟩; have HGc := Lib.hid (Jr.grown_trans HGc.out b2); have HBc := Lib.hid (Jp.boxG HBc.out b2 hgw); have HRc := Lib.hid q2; obtain ⟨y0, y1, y2, y3, y4, y5⟩ := HBc.out.cells; have z0 := HBc.out.has.frozen 0; have z1 := HBc.out.has.frozen 1; have z2 := HBc.out.has.frozen 2; have z3 := HBc.out.has.frozen 3; have z4 := HBc.out.has.frozen 4; have z5 := HBc.out.has.frozen 5; clear b2 q2 wtrue) | (go_at_call_of 51 (Value.string ⟨#[102, 97, 108, 115, 101]⟩); refine (wfalse _ HRc.out).mono ?_; rintro e w2 ⟨rfl, b2, q2⟩; have HGc := Lib.hid (Jr.grown_trans HGc.out b2); have HBc := Lib.hid (Jp.boxG HBc.out b2 hgw); have HRc := Lib.hid q2; obtain ⟨y0, y1, y2, y3, y4, y5⟩ := HBc.out.cells; have z0 := HBc.out.has.frozen 0; have z1 := HBc.out.has.frozen 1; have z2 := HBc.out.has.frozen 2; have z3 := HBc.out.has.frozen 3; have z4 := HBc.out.has.frozen 4; have z5 := HBc.out.has.frozen 5; clear b2 q2 wfalse) | (go_at_call_of 51 (Value.string ⟨#[34]⟩); refine (wquote _ HRc.out).mono ?_; rintro e w2 ⟨rfl, b2, q2⟩; have HGc := Lib.hid (Jr.grown_trans HGc.out b2); have HBc := Lib.hid (Jp.boxG HBc.out b2 hgw); have HRc := Lib.hid q2; obtain ⟨y0, y1, y2, y3, y4, y5⟩ := HBc.out.cells; have z0 := HBc.out.has.frozen 0; have z1 := HBc.out.has.frozen 1; have z2 := HBc.out.has.frozen 2; have z3 := HBc.out.has.frozen 3; have z4 := HBc.out.has.frozen 4; have z5 := HBc.out.has.frozen 5; clear b2 q2 wquote) | (go_at_call_of 51 (Value.string ⟨#[91]⟩); refine (wopen _ HRc.out).mono ?_; rintro e w2 ⟨rfl, b2, q2⟩; have HGc := Lib.hid (Jr.grown_trans HGc.out b2); have HBc := Lib.hid (Jp.boxG HBc.out b2 hgw); have HRc := Lib.hid q2; obtain ⟨y0, y1, y2, y3, y4, y5⟩ := HBc.out.cells; have z0 := HBc.out.has.frozen 0; have z1 := HBc.out.has.frozen 1; have z2 := HBc.out.has.frozen 2; have z3 := HBc.out.has.frozen 3; have z4 := HBc.out.has.frozen 4; have z5 := HBc.out.has.frozen 5; clear b2 q2 wopen) | (go_at_call_of 51 (Value.string ⟨#[123]⟩); refine (wbrace _ HRc.out).mono ?_; rintro e w2 ⟨rfl, b2, q2⟩; have HGc := Lib.hid (Jr.grown_trans HGc.out b2); have HBc := Lib.hid (Jp.boxG HBc.out b2 hgw); have HRc := Lib.hid q2; obtain ⟨y0, y1, y2, y3, y4, y5⟩ := HBc.out.cells; have z0 := HBc.out.has.frozen 0; have z1 := HBc.out.has.frozen 1; have z2 := HBc.out.has.frozen 2; have z3 := HBc.out.has.frozen 3; have z4 := HBc.out.has.frozen 4; have z5 := HBc.out.has.frozen 5; clear b2 q2 wbrace) | (go_at_call 54; refine (nu _ HRc.out).mono ?_; rintro e w3 ⟨b3, k3, x3, Y3, s3, ai3, n3, c3, ak3, m3, d3, rfl, M3⟩; have HG3 := Lib.hid b3; have HM3 := Lib.hid M3; have HB3 := Lib.hid (Jp.boxG HBc.out b3 hgw); obtain ⟨y0, y1, y2, y3, y4, y5⟩ := HB3.out.cells; have z0 := HB3.out.has.frozen 0; have z1 := HB3.out.has.frozen 1; have z2 := HB3.out.has.frozen 2; have z3 := HB3.out.has.frozen 3; have z4 := HB3.out.has.frozen 4; have z5 := HB3.out.has.frozen 5; clear b3 M3))
  obtain ⟨W, hW, hX, hb6⟩ := Jr.six HB3.out (.int .i64 k3) (.int .i64 x3) (.int .u64 (Y3 : Int)) (.string s3) (.slice ai3 n3 c3) (.slice ak3 m3 d3)
  have hoth : ∀ q, q ≠ w.heap.size → W.heap[q]? = w3.heap[q]? := fun q hq => by rw [← hW]; exact Jr.six_other w3 w.heap.size 0 _ _ _ _ _ _ q hq
  rw [hW]
  obtain ⟨x0, x1, x2, x3', x4, x5⟩ := hX.cells
  refine bodyPost_ret (v := .agg #[.int .i64 k3, .int .i64 x3, .int .u64 (Y3 : Int), .string s3, .slice ai3 n3 c3, .slice ak3 m3 d3]) (by simp [results, Tryz.results23, go_sem, x0, x1, x2, x3', x4, x5]) rfl ?_
  exact Jp.finV HGc.out HBc.out.lt hgw HG3.out hb6 hoth HM3.out
set_option maxRecDepth 100000 in
set_option maxHeartbeats 4000000 in
theorem Jp.valText (l : List UInt8) (d : Nat) (hd : d ≤ 8) (hne : Js.ws l ≠ []) (p0 : ¬ Pl.pre [110, 117, 108, 108] (Js.ws l) = true) (p1 : ¬ Pl.pre [116, 114, 117, 101] (Js.ws l) = true) (p2 : ¬ Pl.pre [102, 97, 108, 115, 101] (Js.ws l) = true) (p3 : Pl.pre [34] (Js.ws l) = true) (g : Nat) (T : ByteArray) (b r : List UInt8) (htx : Js.text ((Js.ws l).drop 1) = some (b, r)) (w : World) (h : Jp.Rd w g T l false) :
    Calls Tryz.prog 23 #[.pointer (some ⟨g, 0, none⟩), .int .i64 ((d : Int) + 1)] w (Jp.VOut (some (Js.leaf 4 0 0 ⟨b.toArray⟩, r)) w g T) := by
  have hgw := h.lt
  have n1 : ¬ g = w.heap.size := by omega
  have n2 : ¬ w.heap.size = g := by omega
  have HBc : Hid (Vm.Box (w.alloc (.cells #[.int .i64 0, .int .i64 0, .int .u64 0, .string ⟨#[]⟩, .slice none 0 0, .slice none 0 0] 26)) w.heap.size (.int .i64 0) (.int .i64 0) (.int .u64 0) (.string ⟨#[]⟩) (.slice none 0 0) (.slice none 0 0)) := ⟨Vm.Has.new w _ _ rfl⟩
  have HGc : Hid (w.grownBy (w.alloc (.cells #[.int .i64 0, .int .i64 0, .int .u64 0, .string ⟨#[]⟩, .slice none 0 0, .slice none 0 0] 26)) (some g)) := Jp.grown_alloc _ _ _
  have bl := Jp.blanks l false g T (w.alloc (.cells #[.int .i64 0, .int .i64 0, .int .u64 0, .string ⟨#[]⟩, .slice none 0 0, .slice none 0 0] 26)) (h.on (Jp.grown_alloc _ _ _))
  have wnull := fun u q => Jp.wordF ⟨#[110, 117, 108, 108]⟩ (by decide) (Js.ws l) g T p0 u q
  have wtrue := fun u q => Jp.wordF ⟨#[116, 114, 117, 101]⟩ (by decide) (Js.ws l) g T p1 u q
  have wfalse := fun u q => Jp.wordF ⟨#[102, 97, 108, 115, 101]⟩ (by decide) (Js.ws l) g T p2 u q
  have wquote := fun u q => Jp.wordT ⟨#[34]⟩ (by decide) (Js.ws l) g T p3 u q
  have tx := fun u q => Jp.text ((Js.ws l).drop 1) g T u q
  rw [htx] at tx
  clear htx
  have hpos : 0 < (Js.ws l).length := List.length_pos_iff.2 hne
  obtain ⟨L, hL⟩ : ∃ L, Js.ws l = L := ⟨_, rfl⟩
  simp only [hL] at *
  clear h hne hL p0 p1 p2 p3
  have dd : decide ((d : Int) + 1 < 1) = false := decide_eq_false (by omega)
  go_enter Tryz.func23, Tryz.ntmps23
  go_wp2_with (go_at_call 24; refine bl.mono ?_; rintro e w1 ⟨rfl, b1, q1⟩; have HGc := Lib.hid (Jr.grown_trans HGc.out b1); have HBc := Lib.hid (Jp.boxG HBc.out b1 hgw); have HRc := Lib.hid q1; obtain ⟨i, h1, h2, h3, hB⟩ := q1; have c0 : w1.cell? ⟨g, 0, none⟩ = some (.string T) := hB.cell 0 rfl; have c1 : w1.cell? ⟨g, 1, none⟩ = some (.int .i64 (i : Int)) := hB.cell 1 rfl; have c2 : w1.cell? ⟨g, 2, none⟩ = some (.bool false) := hB.cell 2 rfl; have f2 := hB.frozen 2; obtain ⟨y0, y1, y2, y3, y4, y5⟩ := HBc.out.cells; have z0 := HBc.out.has.frozen 0; have z1 := HBc.out.has.frozen 1; have z2 := HBc.out.has.frozen 2; have z3 := HBc.out.has.frozen 3; have z4 := HBc.out.has.frozen 4; have z5 := HBc.out.has.frozen 5; clear hB b1 bl)
  have hi : i < T.size := by
    have := congrArg List.length h2
    rw [List.length_drop, Wk.len_data] at this
    omega
  have d1 : decide ((T.size : Int) ≤ (i : Int)) = false := decide_eq_false (by omega)
  have d1n : decide (T.size ≤ i) = false := decide_eq_false (by omega)
  clear h2 hpos
  go_quiet (fail)
  replace HRc := fun n => Lib.hid (HRc.out.on (Jr.grown_drewN w1 n))
  replace HGc := fun n => Lib.hid (Jr.grown_trans HGc.out (Jr.grown_some (Jr.grown_drewN w1 n) (some g)))
  replace HBc : ∀ n, Hid (Vm.Box (w1.drewN n) w.heap.size (.int .i64 0) (.int .i64 0) (.int .u64 0) (.string ⟨#[]⟩) (.slice none 0 0) (.slice none 0 0)) := fun n => Lib.hid ⟨HBc.out.all⟩
  go_wp2_with (first | (go_at_call_of 51 (Value.string ⟨#[110, 117, 108, 108]⟩); refine (wnull _ (HRc _).out).mono ?_; rintro e w2 ⟨rfl, b2, q2⟩; have HGc := Lib.hid (Jr.grown_trans (HGc _).out b2); have HBc := Lib.hid (Jp.boxG (HBc _).out b2 hgw); have HRc := Lib.hid q2; obtain ⟨y0, y1, y2, y3, y4, y5⟩ := HBc.out.cells; have z0 := HBc.out.has.frozen 0; have z1 := HBc.out.has.frozen 1; have z2 := HBc.out.has.frozen 2; have z3 := HBc.out.has.frozen 3; have z4 := HBc.out.has.frozen 4; have z5 := HBc.out.has.frozen 5; clear b2 q2 wnull) | (go_at_call_of 51 (Value.string ⟨#[116, 114, 117, 101]⟩); refine (wtrue _ HRc.out).mono ?_; rintro e w2 ⟨rfl, b2, q2⟩; have HGc := Lib.hid (Jr.grown_trans HGc.out b2); have HBc := Lib.hid (Jp.boxG HBc.out b2 hgw); have HRc := Lib.hid q2; obtain ⟨y0, y1, y2, y3, y4, y5⟩ := HBc.out.cells; have z0 := HBc.out.has.frozen 0; have z1 := HBc.out.has.frozen 1; have z2 := HBc.out.has.frozen 2; have z3 := HBc.out.has.frozen 3; have z4 := HBc.out.has.frozen 4; have z5 := HBc.out.has.frozen 5; clear b2 q2 wtrue) | (go_at_call_of 51 (Value.string ⟨#[102, 97, 108, 115, 101]⟩); refine (wfalse _ HRc.out).mono ?_; rintro e w2 ⟨rfl, b2, q2⟩; have HGc := Lib.hid (Jr.grown_trans HGc.out b2); have HBc := Lib.hid (Jp.boxG HBc.out b2 hgw); have HRc := Lib.hid q2; obtain ⟨y0, y1, y2, y3, y4, y5⟩ := HBc.out.cells; have z0 := HBc.out.has.frozen 0; have z1 := HBc.out.has.frozen 1; have z2 := HBc.out.has.frozen 2; have z3 := HBc.out.has.frozen 3; have z4 := HBc.out.has.frozen 4; have z5 := HBc.out.has.frozen 5; clear b2 q2 wfalse) | (go_at_call_of 51 (Value.string ⟨#[34]⟩); refine (wquote _ HRc.out).mono ?_; rintro e w2 ⟨rfl, b2, q2⟩; have HGc := Lib.hid (Jr.grown_trans HGc.out b2); have HBc := Lib.hid (Jp.boxG HBc.out b2 hgw); have HRc := Lib.hid q2; obtain ⟨y0, y1, y2, y3, y4, y5⟩ := HBc.out.cells; have z0 := HBc.out.has.frozen 0; have z1 := HBc.out.has.frozen 1; have z2 := HBc.out.has.frozen 2; have z3 := HBc.out.has.frozen 3; have z4 := HBc.out.has.frozen 4; have z5 := HBc.out.has.frozen 5; clear b2 q2 wquote) | (go_at_call 52; refine (tx _ HRc.out).mono ?_; rintro e w3 ⟨b3, rfl, q3⟩; have HR3 := Lib.hid q3; have HB3 := Lib.hid (Jp.boxG HBc.out b3 hgw); have HG3 := Lib.hid (Jr.grown_trans HGc.out b3); obtain ⟨y0, y1, y2, y3, y4, y5⟩ := HB3.out.cells; have z0 := HB3.out.has.frozen 0; have z1 := HB3.out.has.frozen 1; have z2 := HB3.out.has.frozen 2; have z3 := HB3.out.has.frozen 3; have z4 := HB3.out.has.frozen 4; have z5 := HB3.out.has.frozen 5; clear b3 q3 tx))
  obtain ⟨W, hW, hX, hb6⟩ := Jr.six HB3.out (.int .i64 4) (.int .i64 0) (.int .u64 0) (.string ⟨b.toArray⟩) (.slice none 0 0) (.slice none 0 0)
  rw [hW]
  obtain ⟨x0, x1, x2, x3, x4, x5⟩ := hX.cells
  refine bodyPost_ret (v := .agg #[.int .i64 4, .int .i64 0, .int .u64 0, .string ⟨b.toArray⟩, .slice none 0 0, .slice none 0 0]) (by simp [results, Tryz.results23, go_sem, x0, x1, x2, x3, x4, x5]) rfl ?_
  exact Jp.fin 4 0 0 ⟨b.toArray⟩ (by decide) HG3.out hb6 hgw HR3.out rfl
set_option maxRecDepth 100000 in
set_option maxHeartbeats 4000000 in
theorem Jp.valTextN (l : List UInt8) (d : Nat) (hd : d ≤ 8) (hne : Js.ws l ≠ []) (p0 : ¬ Pl.pre [110, 117, 108, 108] (Js.ws l) = true) (p1 : ¬ Pl.pre [116, 114, 117, 101] (Js.ws l) = true) (p2 : ¬ Pl.pre [102, 97, 108, 115, 101] (Js.ws l) = true) (p3 : Pl.pre [34] (Js.ws l) = true) (g : Nat) (T : ByteArray) (htx : Js.text ((Js.ws l).drop 1) = none) (w : World) (h : Jp.Rd w g T l false) :
    Calls Tryz.prog 23 #[.pointer (some ⟨g, 0, none⟩), .int .i64 ((d : Int) + 1)] w (Jp.VOut (none) w g T) := by
  have hgw := h.lt
  have n1 : ¬ g = w.heap.size := by omega
  have n2 : ¬ w.heap.size = g := by omega
  have HBc : Hid (Vm.Box (w.alloc (.cells #[.int .i64 0, .int .i64 0, .int .u64 0, .string ⟨#[]⟩, .slice none 0 0, .slice none 0 0] 26)) w.heap.size (.int .i64 0) (.int .i64 0) (.int .u64 0) (.string ⟨#[]⟩) (.slice none 0 0) (.slice none 0 0)) := ⟨Vm.Has.new w _ _ rfl⟩
  have HGc : Hid (w.grownBy (w.alloc (.cells #[.int .i64 0, .int .i64 0, .int .u64 0, .string ⟨#[]⟩, .slice none 0 0, .slice none 0 0] 26)) (some g)) := Jp.grown_alloc _ _ _
  have bl := Jp.blanks l false g T (w.alloc (.cells #[.int .i64 0, .int .i64 0, .int .u64 0, .string ⟨#[]⟩, .slice none 0 0, .slice none 0 0] 26)) (h.on (Jp.grown_alloc _ _ _))
  have wnull := fun u q => Jp.wordF ⟨#[110, 117, 108, 108]⟩ (by decide) (Js.ws l) g T p0 u q
  have wtrue := fun u q => Jp.wordF ⟨#[116, 114, 117, 101]⟩ (by decide) (Js.ws l) g T p1 u q
  have wfalse := fun u q => Jp.wordF ⟨#[102, 97, 108, 115, 101]⟩ (by decide) (Js.ws l) g T p2 u q
  have wquote := fun u q => Jp.wordT ⟨#[34]⟩ (by decide) (Js.ws l) g T p3 u q
  have tx := fun u q => Jp.text ((Js.ws l).drop 1) g T u q
  rw [htx] at tx
  clear htx
  have hpos : 0 < (Js.ws l).length := List.length_pos_iff.2 hne
  obtain ⟨L, hL⟩ : ∃ L, Js.ws l = L := ⟨_, rfl⟩
  simp only [hL] at *
  clear h hne hL p0 p1 p2 p3
  have dd : decide ((d : Int) + 1 < 1) = false := decide_eq_false (by omega)
  go_enter Tryz.func23, Tryz.ntmps23
  go_wp2_with (go_at_call 24; refine bl.mono ?_; rintro e w1 ⟨rfl, b1, q1⟩; have HGc := Lib.hid (Jr.grown_trans HGc.out b1); have HBc := Lib.hid (Jp.boxG HBc.out b1 hgw); have HRc := Lib.hid q1; obtain ⟨i, h1, h2, h3, hB⟩ := q1; have c0 : w1.cell? ⟨g, 0, none⟩ = some (.string T) := hB.cell 0 rfl; have c1 : w1.cell? ⟨g, 1, none⟩ = some (.int .i64 (i : Int)) := hB.cell 1 rfl; have c2 : w1.cell? ⟨g, 2, none⟩ = some (.bool false) := hB.cell 2 rfl; have f2 := hB.frozen 2; obtain ⟨y0, y1, y2, y3, y4, y5⟩ := HBc.out.cells; have z0 := HBc.out.has.frozen 0; have z1 := HBc.out.has.frozen 1; have z2 := HBc.out.has.frozen 2; have z3 := HBc.out.has.frozen 3; have z4 := HBc.out.has.frozen 4; have z5 := HBc.out.has.frozen 5; clear hB b1 bl)
  have hi : i < T.size := by
    have := congrArg List.length h2
    rw [List.length_drop, Wk.len_data] at this
    omega
  have d1 : decide ((T.size : Int) ≤ (i : Int)) = false := decide_eq_false (by omega)
  have d1n : decide (T.size ≤ i) = false := decide_eq_false (by omega)
  clear h2 hpos
  go_quiet (fail)
  replace HRc := fun n => Lib.hid (HRc.out.on (Jr.grown_drewN w1 n))
  replace HGc := fun n => Lib.hid (Jr.grown_trans HGc.out (Jr.grown_some (Jr.grown_drewN w1 n) (some g)))
  replace HBc : ∀ n, Hid (Vm.Box (w1.drewN n) w.heap.size (.int .i64 0) (.int .i64 0) (.int .u64 0) (.string ⟨#[]⟩) (.slice none 0 0) (.slice none 0 0)) := fun n => Lib.hid ⟨HBc.out.all⟩
  go_wp2_with (first | (go_at_call_of 51 (Value.string ⟨#[110, 117, 108, 108]⟩); refine (wnull _ (HRc _).out).mono ?_; rintro e w2 ⟨rfl, b2, q2⟩; have HGc := Lib.hid (Jr.grown_trans (HGc _).out b2); have HBc := Lib.hid (Jp.boxG (HBc _).out b2 hgw); have HRc := Lib.hid q2; obtain ⟨y0, y1, y2, y3, y4, y5⟩ := HBc.out.cells; have z0 := HBc.out.has.frozen 0; have z1 := HBc.out.has.frozen 1; have z2 := HBc.out.has.frozen 2; have z3 := HBc.out.has.frozen 3; have z4 := HBc.out.has.frozen 4; have z5 := HBc.out.has.frozen 5; clear b2 q2 wnull) | (go_at_call_of 51 (Value.string ⟨#[116, 114, 117, 101]⟩); refine (wtrue _ HRc.out).mono ?_; rintro e w2 ⟨rfl, b2, q2⟩; have HGc := Lib.hid (Jr.grown_trans HGc.out b2); have HBc := Lib.hid (Jp.boxG HBc.out b2 hgw); have HRc := Lib.hid q2; obtain ⟨y0, y1, y2, y3, y4, y5⟩ := HBc.out.cells; have z0 := HBc.out.has.frozen 0; have z1 := HBc.out.has.frozen 1; have z2 := HBc.out.has.frozen 2; have z3 := HBc.out.has.frozen 3; have z4 := HBc.out.has.frozen 4; have z5 := HBc.out.has.frozen 5; clear b2 q2 wtrue) | (go_at_call_of 51 (Value.string ⟨#[102, 97, 108, 115, 101]⟩); refine (wfalse _ HRc.out).mono ?_; rintro e w2 ⟨rfl, b2, q2⟩; have HGc := Lib.hid (Jr.grown_trans HGc.out b2); have HBc := Lib.hid (Jp.boxG HBc.out b2 hgw); have HRc := Lib.hid q2; obtain ⟨y0, y1, y2, y3, y4, y5⟩ := HBc.out.cells; have z0 := HBc.out.has.frozen 0; have z1 := HBc.out.has.frozen 1; have z2 := HBc.out.has.frozen 2; have z3 := HBc.out.has.frozen 3; have z4 := HBc.out.has.frozen 4; have z5 := HBc.out.has.frozen 5; clear b2 q2 wfalse) | (go_at_call_of 51 (Value.string ⟨#[34]⟩); refine (wquote _ HRc.out).mono ?_; rintro e w2 ⟨rfl, b2, q2⟩; have HGc := Lib.hid (Jr.grown_trans HGc.out b2); have HBc := Lib.hid (Jp.boxG HBc.out b2 hgw); have HRc := Lib.hid q2; obtain ⟨y0, y1, y2, y3, y4, y5⟩ := HBc.out.cells; have z0 := HBc.out.has.frozen 0; have z1 := HBc.out.has.frozen 1; have z2 := HBc.out.has.frozen 2; have z3 := HBc.out.has.frozen 3; have z4 := HBc.out.has.frozen 4; have z5 := HBc.out.has.frozen 5; clear b2 q2 wquote) | (go_at_call 52; refine (tx _ HRc.out).mono ?_; rintro e w3 ⟨b3, rfl, r3, q3⟩; have HR3 := Lib.hid q3; have HB3 := Lib.hid (Jp.boxG HBc.out b3 hgw); have HG3 := Lib.hid (Jr.grown_trans HGc.out b3); obtain ⟨y0, y1, y2, y3, y4, y5⟩ := HB3.out.cells; have z0 := HB3.out.has.frozen 0; have z1 := HB3.out.has.frozen 1; have z2 := HB3.out.has.frozen 2; have z3 := HB3.out.has.frozen 3; have z4 := HB3.out.has.frozen 4; have z5 := HB3.out.has.frozen 5; clear b3 q3 tx))
  obtain ⟨W, hW, hX, hb6⟩ := Jr.six HB3.out (.int .i64 4) (.int .i64 0) (.int .u64 0) (.string ⟨#[]⟩) (.slice none 0 0) (.slice none 0 0)
  rw [hW]
  obtain ⟨x0, x1, x2, x3, x4, x5⟩ := hX.cells
  refine bodyPost_ret (v := .agg #[.int .i64 4, .int .i64 0, .int .u64 0, .string ⟨#[]⟩, .slice none 0 0, .slice none 0 0]) (by simp [results, Tryz.results23, go_sem, x0, x1, x2, x3, x4, x5]) rfl ?_
  exact ⟨Jr.grown_more HG3.out hb6 (Nat.le_refl _), 4, 0, 0, ⟨#[]⟩, none, 0, 0, none, 0, 0, rfl, .inr ⟨fun _ _ q => (by cases q), r3, HR3.out.below hb6 hgw⟩⟩
set_option maxRecDepth 100000 in
set_option maxHeartbeats 4000000 in
theorem Jp.valEnd (l : List UInt8) (d : Nat) (hd : d ≤ 8) (hne : Js.ws l = []) (g : Nat) (T : ByteArray) (w : World) (h : Jp.Rd w g T l false) :
    Calls Tryz.prog 23 #[.pointer (some ⟨g, 0, none⟩), .int .i64 ((d : Int) + 1)] w (Jp.VOut none w g T) := by
  have hgw := h.lt
  have n1 : ¬ g = w.heap.size := by omega
  have n2 : ¬ w.heap.size = g := by omega
  have HBc : Hid (Vm.Box (w.alloc (.cells #[.int .i64 0, .int .i64 0, .int .u64 0, .string ⟨#[]⟩, .slice none 0 0, .slice none 0 0] 26)) w.heap.size (.int .i64 0) (.int .i64 0) (.int .u64 0) (.string ⟨#[]⟩) (.slice none 0 0) (.slice none 0 0)) := ⟨Vm.Has.new w _ _ rfl⟩
  have HGc : Hid (w.grownBy (w.alloc (.cells #[.int .i64 0, .int .i64 0, .int .u64 0, .string ⟨#[]⟩, .slice none 0 0, .slice none 0 0] 26)) (some g)) := Jp.grown_alloc _ _ _
  have bl := Jp.blanks l false g T (w.alloc (.cells #[.int .i64 0, .int .i64 0, .int .u64 0, .string ⟨#[]⟩, .slice none 0 0, .slice none 0 0] 26)) (h.on (Jp.grown_alloc _ _ _))
  rw [hne] at bl
  clear hne
  have dd : decide ((d : Int) + 1 < 1) = false := decide_eq_false (by omega)
  clear h
  go_enter Tryz.func23, Tryz.ntmps23
  go_wp2_with (go_at_call 24; refine bl.mono ?_; rintro e w1 ⟨rfl, b1, q1⟩; have HGc := Lib.hid (Jr.grown_trans HGc.out b1); have HBc := Lib.hid (Jp.boxG HBc.out b1 hgw); have HRc := Lib.hid q1; obtain ⟨i, h1, h2, h3, hB⟩ := q1; have c0 : w1.cell? ⟨g, 0, none⟩ = some (.string T) := hB.cell 0 rfl; have c1 : w1.cell? ⟨g, 1, none⟩ = some (.int .i64 (i : Int)) := hB.cell 1 rfl; have c2 : w1.cell? ⟨g, 2, none⟩ = some (.bool false) := hB.cell 2 rfl; have f2 := hB.frozen 2; obtain ⟨y0, y1, y2, y3, y4, y5⟩ := HBc.out.cells; have z0 := HBc.out.has.frozen 0; have z1 := HBc.out.has.frozen 1; have z2 := HBc.out.has.frozen 2; have z3 := HBc.out.has.frozen 3; have z4 := HBc.out.has.frozen 4; have z5 := HBc.out.has.frozen 5; clear hB b1 bl)
  have e := Jr.at_end h1 h2
  have d1 : decide ((T.size : Int) ≤ (i : Int)) = true := decide_eq_true (by omega)
  have d1n : decide (T.size ≤ i) = true := decide_eq_true (by omega)
  clear e h2
  go_quiet (fail)
  go_wp2
  obtain ⟨W, hW, hX, hb6⟩ := Jr.six ((show Vm.Box (w1.drewN nq) w.heap.size _ _ _ _ _ _ from ⟨HBc.out.all⟩).other n2 2 (.bool true)) (.int .i64 0) (.int .i64 0) (.int .u64 0) (.string ⟨#[]⟩) (.slice none 0 0) (.slice none 0 0)
  rw [hW]
  obtain ⟨x0, x1, x2, x3, x4, x5⟩ := hX.cells
  refine bodyPost_ret (v := .agg #[.int .i64 0, .int .i64 0, .int .u64 0, .string ⟨#[]⟩, .slice none 0 0, .slice none 0 0]) (by simp [results, Tryz.results23, go_sem, x0, x1, x2, x3, x4, x5]) rfl ?_
  exact Jp.finbad (Jr.grown_trans HGc.out (Jr.grown_trans (Jr.grown_some (Jr.grown_drewN _ _) _) (Jr.grown_set _ _ _ _))) hb6 hgw (HRc.out.on (Jr.grown_drewN _ _)).spoil (fun _ _ q => by cases q)
set_option maxRecDepth 100000 in
set_option maxHeartbeats 4000000 in
theorem Jp.valDeep (l : List UInt8) (g : Nat) (T : ByteArray) (w : World) (h : Jp.Rd w g T l false) :
    Calls Tryz.prog 23 #[.pointer (some ⟨g, 0, none⟩), .int .i64 0] w (Jp.VOut none w g T) := by
  have hgw := h.lt
  have n1 : ¬ g = w.heap.size := by omega
  have n2 : ¬ w.heap.size = g := by omega
  have HBc : Hid (Vm.Box (w.alloc (.cells #[.int .i64 0, .int .i64 0, .int .u64 0, .string ⟨#[]⟩, .slice none 0 0, .slice none 0 0] 26)) w.heap.size (.int .i64 0) (.int .i64 0) (.int .u64 0) (.string ⟨#[]⟩) (.slice none 0 0) (.slice none 0 0)) := ⟨Vm.Has.new w _ _ rfl⟩
  have HGc : Hid (w.grownBy (w.alloc (.cells #[.int .i64 0, .int .i64 0, .int .u64 0, .string ⟨#[]⟩, .slice none 0 0, .slice none 0 0] 26)) (some g)) := Jp.grown_alloc _ _ _
  have bl := Jp.blanks l false g T (w.alloc (.cells #[.int .i64 0, .int .i64 0, .int .u64 0, .string ⟨#[]⟩, .slice none 0 0, .slice none 0 0] 26)) (h.on (Jp.grown_alloc _ _ _))
  clear h
  go_enter Tryz.func23, Tryz.ntmps23
  go_wp2_with (go_at_call 24; refine bl.mono ?_; rintro e w1 ⟨rfl, b1, q1⟩; have HGc := Lib.hid (Jr.grown_trans HGc.out b1); have HBc := Lib.hid (Jp.boxG HBc.out b1 hgw); have HRc := Lib.hid q1; obtain ⟨i, h1, h2, h3, hB⟩ := q1; have c0 : w1.cell? ⟨g, 0, none⟩ = some (.string T) := hB.cell 0 rfl; have c1 : w1.cell? ⟨g, 1, none⟩ = some (.int .i64 (i : Int)) := hB.cell 1 rfl; have c2 : w1.cell? ⟨g, 2, none⟩ = some (.bool false) := hB.cell 2 rfl; have f2 := hB.frozen 2; obtain ⟨y0, y1, y2, y3, y4, y5⟩ := HBc.out.cells; have z0 := HBc.out.has.frozen 0; have z1 := HBc.out.has.frozen 1; have z2 := HBc.out.has.frozen 2; have z3 := HBc.out.has.frozen 3; have z4 := HBc.out.has.frozen 4; have z5 := HBc.out.has.frozen 5; clear hB b1 bl)
  go_quiet (fail)
  go_wp2
  obtain ⟨W, hW, hX, hb6⟩ := Jr.six ((show Vm.Box (w1.drewN nq) w.heap.size _ _ _ _ _ _ from ⟨HBc.out.all⟩).other n2 2 (.bool true)) (.int .i64 0) (.int .i64 0) (.int .u64 0) (.string ⟨#[]⟩) (.slice none 0 0) (.slice none 0 0)
  rw [hW]
  obtain ⟨x0, x1, x2, x3, x4, x5⟩ := hX.cells
  refine bodyPost_ret (v := .agg #[.int .i64 0, .int .i64 0, .int .u64 0, .string ⟨#[]⟩, .slice none 0 0, .slice none 0 0]) (by simp [results, Tryz.results23, go_sem, x0, x1, x2, x3, x4, x5]) rfl ?_
  exact Jp.finbad (Jr.grown_trans HGc.out (Jr.grown_trans (Jr.grown_some (Jr.grown_drewN _ _) _) (Jr.grown_set _ _ _ _))) hb6 hgw (HRc.out.on (Jr.grown_drewN _ _)).spoil (fun _ _ q => by cases q)
theorem Jp.pre1 (c : UInt8) (l : List UInt8) : Pl.pre [c] l = true ↔ l.head? = some c := by
  cases l with
  | nil => simp [Pl.pre]
  | cons d r =>
    rw [Pl.pre_cons, Pl.pre_nil, Bool.and_true, beq_iff_eq, List.head?_cons, Option.some.injEq]
    exact ⟨Eq.symm, Eq.symm⟩
/-- value, over list -/
theorem Jp.valueW (d : Nat) (hd : d ≤ 8) (l : List UInt8) (g : Nat) (T : ByteArray) (hL : Jp.Lst d g T) (w : World) (h : Jp.Rd w g T l false) :
    Calls Tryz.prog 23 #[.pointer (some ⟨g, 0, none⟩), .int .i64 ((d : Int) + 1)] w (Jp.VOut (Js.value (d + 1) l) w g T) := by
  rw [Js.value, Js.at]
  by_cases hne : Js.ws l = []
  · rw [if_pos hne]
    exact Jp.valEnd l d hd hne g T w h
  rw [if_neg hne]
  by_cases p0 : Pl.pre [110, 117, 108, 108] (Js.ws l) = true
  · rw [if_pos p0]
    exact Jp.valNull l d hd hne p0 g T w h
  rw [if_neg p0]
  by_cases p1 : Pl.pre [116, 114, 117, 101] (Js.ws l) = true
  · rw [if_pos p1]
    exact Jp.valTrue l d hd hne p0 p1 g T w h
  rw [if_neg p1]
  by_cases p2 : Pl.pre [102, 97, 108, 115, 101] (Js.ws l) = true
  · rw [if_pos p2]
    exact Jp.valFalse l d hd hne p0 p1 p2 g T w h
  rw [if_neg p2]
  by_cases p3 : Pl.pre [34] (Js.ws l) = true
  · rw [if_pos ((Jp.pre1 _ _).1 p3)]
    cases htx : Js.text ((Js.ws l).drop 1) with
    | none => exact Jp.valTextN l d hd hne p0 p1 p2 p3 g T htx w h
    | some q => exact Jp.valText l d hd hne p0 p1 p2 p3 g T q.1 q.2 htx w h
  rw [if_neg (mt (Jp.pre1 _ _).2 p3)]
  by_cases p4 : Pl.pre [91] (Js.ws l) = true
  · rw [if_pos ((Jp.pre1 _ _).1 p4)]
    exact Jp.valOpen l d hd hne p0 p1 p2 p3 p4 g T hL w h
  rw [if_neg (mt (Jp.pre1 _ _).2 p4)]
  by_cases p5 : Pl.pre [123] (Js.ws l) = true
  · rw [if_pos ((Jp.pre1 _ _).1 p5)]
    exact Jp.valBrace l d hd hne p0 p1 p2 p3 p4 p5 g T hL w h
  rw [if_neg (mt (Jp.pre1 _ _).2 p5)]
  exact Jp.valNumber l d hd hne p0 p1 p2 p3 p4 p5 g T w h
end Go.Proofs.YtboalkfagfgnpaaGreatDoor

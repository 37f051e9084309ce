/-
  THE LANDED CURSOR in memory; the walks of isOver, function, skipPipe.
-/
import Derived.Test.YtjppobeomocgbaaGreatDoorTKPlain
import Derived.Deep.QuietTactic
import Derived.Deep.RegionWith
namespace Go.Proofs.YtjppobeomocgbaaGreatDoor
open Go.RowKit
/-- all but block g is as it was -/
structure Kc.Kept (w w' : World) (g : Nat) : Prop where
  os : w'.os = w.os
  tape : w'.tape = w.tape
  output : w'.output = w.output
  size : w.heap.size ≤ w'.heap.size
  block : ∀ k, k < w.heap.size → k ≠ g → w'.heap[k]? = w.heap[k]?
theorem Kc.Kept.refl (w : World) (g : Nat) : Kc.Kept w w g := ⟨rfl, rfl, rfl, Nat.le_refl _, fun _ _ _ => rfl⟩
theorem Kc.Kept.trans {w w1 w2 : World} {g : Nat} (h : Kc.Kept w w1 g) (h2 : Kc.Kept w1 w2 g) : Kc.Kept w w2 g :=
  ⟨h2.os.trans h.os, h2.tape.trans h.tape, h2.output.trans h.output, Nat.le_trans h.size h2.size, fun k hk hg => (h2.block k (Nat.lt_of_lt_of_le hk h.size) hg).trans (h.block k hk hg)⟩
theorem Kc.Kept.set {w w1 : World} {g : Nat} (h : Kc.Kept w w1 g) (i : Nat) (v : Value) : Kc.Kept w (w1.setCell ⟨g, i, none⟩ v) g :=
  ⟨h.os, h.tape, h.output, by simp; exact h.size, fun k hk hg => (Below.heap_setCell _ _ _ _ hg).trans (h.block k hk hg)⟩
theorem Kc.Kept.setNew {w w1 : World} {g b : Nat} (h : Kc.Kept w w1 g) (hb : w.heap.size ≤ b) (i : Nat) (v : Value) : Kc.Kept w (w1.setCell ⟨b, i, none⟩ v) g :=
  ⟨h.os, h.tape, h.output, by simp; exact h.size, fun k hk hg => (Below.heap_setCell _ _ _ _ (by show k ≠ b; omega)).trans (h.block k hk hg)⟩
theorem Kc.Kept.drewN {w w1 : World} {g : Nat} (h : Kc.Kept w w1 g) (n : Nat) : Kc.Kept w (w1.drewN n) g := ⟨h.os, h.tape, h.output, h.size, h.block⟩
theorem Kc.Kept.drew {w w1 : World} {g : Nat} (h : Kc.Kept w w1 g) : Kc.Kept w w1.drew g := ⟨h.os, h.tape, h.output, h.size, h.block⟩
theorem Kc.Kept.then {w w1 w2 : World} {g : Nat} (h : Kc.Kept w w1 g) (hb : Below w1.heap.size w1 w2) : Kc.Kept w w2 g :=
  ⟨hb.os.trans h.os, hb.tape.trans h.tape, hb.output.trans h.output, Nat.le_trans h.size hb.size, fun k hk hg => (hb.block k (Nat.lt_of_lt_of_le hk h.size)).trans (h.block k hk hg)⟩
theorem Kc.Kept.alloc {w w1 : World} {g : Nat} (h : Kc.Kept w w1 g) (o : Obj) : Kc.Kept w (w1.alloc o) g := h.then ((Below.refl _ _).alloc (Nat.le_refl _) o)
/-- seen from a world ahead of the block -/
theorem Kc.Kept.low {w w1 w2 : World} {g : Nat} (h : Kc.Kept w1 w2 g) (hb : Below w.heap.size w w1) (hg : w.heap.size ≤ g) : Below w.heap.size w w2 :=
  hb.trans { os := h.os, tape := h.tape, output := h.output, size := h.size, block := fun k hk => h.block k (Nat.lt_of_lt_of_le hk hb.size) (by omega) }
/-- a box of another block stays -/
theorem Kc.Kept.box {w w' : World} {g b : Nat} (h : Kc.Kept w w' g) (hne : b ≠ g) {cs : Array Value} {ty : TypeId} (hx : Bs.Box w b cs ty) : Bs.Box w' b cs ty := (h.block b (Bs.Box.lt hx) hne).trans hx
/-- the cursor lies in block g behind w0, at place i -/
structure Kc.At (w0 w : World) (g : Nat) (v : Value) (n i : Nat) : Prop where
  box : Bs.Box w g #[v, .int .i64 (i : Int)] 164
  low : Below w0.heap.size w0 w
  old : w0.heap.size ≤ g
  le : i ≤ n
section
variable {w0 w w' : World} {g : Nat} {v : Value} {n i : Nat}
theorem Kc.At.c0 (h : Kc.At w0 w g v n i) : w.cell? ⟨g, 0, none⟩ = some v := Bs.Box.cell h.box 0 rfl
theorem Kc.At.c1 (h : Kc.At w0 w g v n i) : w.cell? ⟨g, 1, none⟩ = some (.int .i64 (i : Int)) := Bs.Box.cell h.box 1 rfl
theorem Kc.At.fz (h : Kc.At w0 w g v n i) : ∀ q, w.frozen? ⟨g, q, none⟩ = false := fun q => Bs.Box.frozen h.box q
theorem Kc.At.lt (h : Kc.At w0 w g v n i) : g < w.heap.size := Bs.Box.lt h.box
theorem Kc.At.drewN (h : Kc.At w0 w g v n i) (k : Nat) : Kc.At w0 (w.drewN k) g v n i := ⟨h.box, { os := h.low.os, tape := h.low.tape, output := h.low.output, size := h.low.size, block := h.low.block }, h.old, h.le⟩
theorem Kc.At.drew (h : Kc.At w0 w g v n i) : Kc.At w0 w.drew g v n i := ⟨h.box, h.low.drew, h.old, h.le⟩
theorem Kc.At.set1 (h : Kc.At w0 w g v n i) (j : Nat) (hj : j ≤ n) : Kc.At w0 (w.setCell ⟨g, 1, none⟩ (.int .i64 (j : Int))) g v n j := ⟨Bs.Box.set h.box 1 _, h.low.setCell h.old _, h.old, hj⟩
theorem Kc.At.then (h : Kc.At w0 w g v n i) (hb : Below w.heap.size w w') : Kc.At w0 w' g v n i := ⟨Bs.Box.on h.box hb (Bs.Box.lt h.box), h.low.trans (hb.mono h.low.size), h.old, h.le⟩
theorem Kc.At.kept (h : Kc.At w0 w g v n i) {b : Nat} (hk : Kc.Kept w w' b) (hne : g ≠ b) (hb : w0.heap.size ≤ b) : Kc.At w0 w' g v n i := ⟨hk.box hne h.box, hk.low h.low hb, h.old, h.le⟩
end
set_option maxHeartbeats 1000000 in
theorem Kc.isOver {w0 w : World} {g n i d : Nat} {a : Option Addr} (h : Kc.At w0 w g (.slice a n d) n i) :
    Calls Tryz.prog 114 #[.pointer (some ⟨g, 0, none⟩)] w fun e w' => e = .returned (.bool (decide (n ≤ i))) ∧ ∃ k, w' = w.drewN k := by
  have c0 := h.c0
  have c1 := h.c1
  have hle := h.le
  have d1 : ((i : Int) == (n : Int)) = decide (n ≤ i) := by
    by_cases q : n ≤ i
    · rw [decide_eq_true q]; exact beq_iff_eq.2 (by omega)
    · rw [decide_eq_false q]; exact beq_eq_false_iff_ne.2 (by omega)
  generalize decide (n ≤ i) = B at *
  clear h hle
  go_enter Tryz.func114, Tryz.ntmps114
  go_wp2_with fail
  go_quiet (fail)
  go_wp2
  go_ret
  exact ⟨rfl, _, rfl⟩
/-- what stands at a place -/
theorem Kp.at_end {ws : List Wi} {i : Nat} (h : ws.length ≤ i) : ws.drop i = [] := List.drop_eq_nil_iff.2 h
theorem Kp.at_word {ws : List Wi} {i : Nat} (h : i < ws.length) : ws.drop i = ws[i] :: ws.drop (i + 1) := List.drop_eq_getElem_cons h
theorem Kp.bar_only (x : Wi) : Pi.bar x = (Ka.only x 5 && x.text.isEmpty) := by
  unfold Pi.bar Ka.only
  cases decide (x.kind = 5) <;> cases x.text.isEmpty <;> cases decide (x.num = 0) <;> cases x.path.isEmpty <;> rfl
set_option maxRecDepth 100000 in
set_option maxHeartbeats 4000000 in
theorem Kc.skipPipe {w0 w : World} {g i : Nat} {ws : List Wi} {v : Value} {R : Nat → Prop} (h : Kc.At w0 w g v ws.length i) (hl : Dt.Lies w0 R (Wi.rows ws) v) :
    Calls Tryz.prog 138 #[.pointer (some ⟨g, 0, none⟩)] w fun e w' => e = .returned (.bool (Kp.isBar (ws.drop i))) ∧ Kc.At w0 w' g v ws.length (if Kp.isBar (ws.drop i) = true then i + 1 else i) ∧ Kc.Kept w w' g := by
  obtain ⟨a, d, rfl, hd, hm, hx⟩ := Wi.get hl
  have ov := Kc.isOver h
  by_cases hi : ws.length ≤ i
  · rw [decide_eq_true hi] at ov
    rw [Kp.at_end hi, show Kp.isBar [] = false from rfl]
    have H := Lib.hid h
    clear h hl hx hi
    go_enter Tryz.func138, Tryz.ntmps138
    go_wp2_with (go_at_call 114; refine ov.mono ?_; rintro e w1 ⟨rfl, n1, rfl⟩)
    go_ret
    exact ⟨rfl, H.out.drewN _, (Kc.Kept.refl _ _).drewN _⟩
  · have hlt : i < ws.length := by omega
    rw [decide_eq_false hi] at ov
    rw [Kp.at_word hlt]
    show Calls _ _ _ _ (fun e w' => e = .returned (.bool (Pi.bar ws[i])) ∧ Kc.At w0 w' g _ ws.length (if Pi.bar ws[i] = true then i + 1 else i) ∧ _)
    obtain ⟨b, o, pv, rfl, _, x0, x1, x2, x3, hp⟩ := hx i ws[i] (List.getElem?_eq_getElem hlt)
    obtain ⟨ap, dp, rfl, _, _, _⟩ := hp
    have x0 := Tp.keep (h.drewN 0).low x0
    have x1 := Tp.keep (h.drewN 0).low x1
    have x2 := Tp.keep (h.drewN 0).low x2
    have x3 := Tp.keep (h.drewN 0).low x3
    have hid : i < d := by omega
    have on := fun u => Ka.hasOnly ws[i].kind 5 ⟨ws[i].text.toArray⟩ ws[i].path ws[i].num ap dp u
    have t1 := Pi.isEmpty_list ⟨ws[i].text.toArray⟩
    have t2 := Pi.beq_nil ⟨ws[i].text.toArray⟩
    have efn : (⟨ws[i].text.toArray⟩ : ByteArray).data.toList = ws[i].text := rfl
    rw [efn] at t1 t2 on
    have eb := Kp.bar_only ws[i]
    have H := Lib.hid h
    clear h hl hx hi efn
    generalize ws[i] = z at *
    obtain ⟨k, tl, p, m⟩ := z
    simp only at *
    generalize (⟨tl.toArray⟩ : ByteArray) = T at *
    generalize Pi.bar ⟨k, tl, p, m⟩ = B at *
    generalize Ka.only ⟨k, tl, p, m⟩ 5 = b1 at *
    generalize tl.isEmpty = b2 at *
    go_enter Tryz.func138, Tryz.ntmps138
    go_upto_region 3 with (go_at_call 114; refine ov.mono ?_; rintro e w1 ⟨rfl, n1, rfl⟩)
    have H1 := Lib.hid (H.out.drewN n1)
    have K1 := Lib.hid ((Kc.Kept.refl w g).drewN n1)
    have x0 : (w.drewN n1).cell? _ = _ := x0
    have x1 : (w.drewN n1).cell? _ = _ := x1
    have x2 : (w.drewN n1).cell? _ = _ := x2
    have x3 : (w.drewN n1).cell? _ = _ := x3
    clear H ov
    generalize w.drewN n1 = w1 at *
    have c0 := H1.out.c0
    have c1 := H1.out.c1
    have hml : ws.length ≤ 9223372036854775807 := by unfold maxLen at hm; omega
    clear hd hm
    have H2 := Lib.hid (H1.out.then ((Below.refl w1.heap.size w1).alloc (Nat.le_refl _) (.cells #[.int .i64 0, .string ⟨#[]⟩, .slice none 0 0, .int .i64 0] 91)))
    have e0 := H2.out.c0
    have e1 := H2.out.c1
    have hb2 := (Below.refl w1.heap.size w1).alloc (Nat.le_refl _) (.cells #[.int .i64 0, .string ⟨#[]⟩, .slice none 0 0, .int .i64 0] 91)
    have y0 := Tp.keep hb2 x0
    have y1 := Tp.keep hb2 x1
    have y2 := Tp.keep hb2 x2
    have y3 := Tp.keep hb2 x3
    clear hb2
    go_region
    have H3 := Lib.hid ((H1.out.then ((Below.refl w1.heap.size w1).alloc (Nat.le_refl _) (.cells #[.int .i64 k, .string T, .slice ap p.length dp, .int .i64 m] 91))).drew)
    have K3 := Lib.hid ((K1.out.alloc (.cells #[.int .i64 k, .string T, .slice ap p.length dp, .int .i64 m] 91)).drew)
    have X3 : Hid (Bs.Box (w1.alloc (.cells #[.int .i64 k, .string T, .slice ap p.length dp, .int .i64 m] 91)).drew w1.heap.size #[.int .i64 k, .string T, .slice ap p.length dp, .int .i64 m] 91) := Bs.Box.new w1 _ _ _ rfl
    clear H1 K1 H2 x0 x1 x2 x3 y0 y1 y2 y3 c0 c1 e0 e1
    generalize w1.heap.size = b3 at *
    generalize (w1.alloc (.cells #[.int .i64 k, .string T, .slice ap p.length dp, .int .i64 m] 91)).drew = w3 at *
    have z0 := X3.out.cell 0 rfl
    have z1 := X3.out.cell 1 rfl
    have z2 := X3.out.cell 2 rfl
    have z3 := X3.out.cell 3 rfl
    have on := on w3
    cases b1 with
    | false =>
      subst eb
      go_wp2_with (go_at_call 161; refine on.mono ?_; rintro e w4 ⟨rfl, b4⟩; have H4 := Lib.hid (H3.out.then b4); have K4 := Lib.hid (K3.out.then b4); clear b4 on)
      go_ret
      exact ⟨rfl, H4.out, K4.out⟩
    | true =>
      cases b2 with
      | false =>
        subst eb
        go_wp2_with (go_at_call 161; refine on.mono ?_; rintro e w4 ⟨rfl, b4⟩; have H4 := Lib.hid (H3.out.then b4); have K4 := Lib.hid (K3.out.then b4); have z1 := (X3.out.on b4 X3.out.lt).cell 1 rfl; clear b4 on)
        go_ret
        exact ⟨rfl, H4.out, K4.out⟩
      | true =>
        subst eb
        go_upto_region 6 with (go_at_call 161; refine on.mono ?_; rintro e w4 ⟨rfl, b4⟩; have H4 := Lib.hid (H3.out.then b4); have K4 := Lib.hid (K3.out.then b4); have z1 := (X3.out.on b4 X3.out.lt).cell 1 rfl; clear b4 on)
        have c1 := H4.out.c1
        have f := H4.out.fz
        have H5 := Lib.hid (H4.out.set1 (i + 1) hlt)
        have K5 := Lib.hid (K4.out.set 1 (.int .i64 ((i + 1 : Nat) : Int)))
        rw [show ((i + 1 : Nat) : Int) = (i : Int) + 1 by omega] at H5 K5
        clear H3 K3 X3 H4 K4 z0 z1 z2 z3
        go_wp2_with fail
        go_ret
        exact ⟨rfl, H5.out, K5.out⟩
set_option maxRecDepth 100000 in
set_option maxHeartbeats 4000000 in
theorem Kc.function {w0 w : World} {g i : Nat} {ws : List Wi} {v : Value} {R : Nat → Prop} (h : Kc.At w0 w g v ws.length i) (hl : Dt.Lies w0 R (Wi.rows ws) v) :
    Calls Tryz.prog 159 #[.pointer (some ⟨g, 0, none⟩)] w fun e w' => e = .returned (.string ⟨(Kp.fn (ws.drop i)).toArray⟩) ∧ Kc.At w0 w' g v ws.length (if Kp.isf (ws.drop i) = true then i + 1 else i) ∧ Kc.Kept w w' g := by
  obtain ⟨a, d, rfl, hd, hm, hx⟩ := Wi.get hl
  have ov := Kc.isOver h
  by_cases hi : ws.length ≤ i
  · rw [decide_eq_true hi] at ov
    rw [Kp.at_end hi, show Kp.fn [] = [] from rfl, show Kp.isf [] = false from rfl]
    have H := Lib.hid h
    clear h hl hx hi
    go_enter Tryz.func159, Tryz.ntmps159
    go_wp2_with (go_at_call 114; refine ov.mono ?_; rintro e w1 ⟨rfl, n1, rfl⟩)
    go_ret
    exact ⟨rfl, H.out.drewN _, (Kc.Kept.refl _ _).drewN _⟩
  · have hlt : i < ws.length := by omega
    rw [decide_eq_false hi] at ov
    rw [Kp.at_word hlt]
    obtain ⟨B, hB⟩ : ∃ B, Kp.isf (ws[i] :: ws.drop (i + 1)) = B := ⟨_, rfl⟩
    have eb : (Ka.only ws[i] 0 && Pi.isFn ws[i].text) = B := hB
    have ef : Kp.fn (ws[i] :: ws.drop (i + 1)) = if B = true then ws[i].text else [] := by rw [← hB]; rfl
    rw [hB, ef]
    clear hB ef
    obtain ⟨b, o, pv, rfl, _, x0, x1, x2, x3, hp⟩ := hx i ws[i] (List.getElem?_eq_getElem hlt)
    obtain ⟨ap, dp, rfl, _, _, _⟩ := hp
    have x0 := Tp.keep (h.drewN 0).low x0
    have x1 := Tp.keep (h.drewN 0).low x1
    have x2 := Tp.keep (h.drewN 0).low x2
    have x3 := Tp.keep (h.drewN 0).low x3
    have hid : i < d := by omega
    have on := fun u => Ka.hasOnly ws[i].kind 0 ⟨ws[i].text.toArray⟩ ws[i].path ws[i].num ap dp u
    have fn := fun u => Kf.fn ⟨ws[i].text.toArray⟩ u
    have efn : (⟨ws[i].text.toArray⟩ : ByteArray).data.toList = ws[i].text := rfl
    rw [efn] at fn on
    have H := Lib.hid h
    clear h hl hx hi efn
    generalize ws[i] = z at *
    obtain ⟨k, tl, p, m⟩ := z
    simp only at *
    generalize Ka.only ⟨k, tl, p, m⟩ 0 = b1 at *
    generalize Pi.isFn tl = b2 at *
    obtain ⟨T, hT⟩ : ∃ T : ByteArray, ⟨tl.toArray⟩ = T := ⟨_, rfl⟩
    have HT := Lib.hid hT
    rw [hT] at fn on x1
    clear hT
    go_enter Tryz.func159, Tryz.ntmps159
    go_upto_region 3 with (go_at_call 114; refine ov.mono ?_; rintro e w1 ⟨rfl, n1, rfl⟩)
    have H1 := Lib.hid (H.out.drewN n1)
    have K1 := Lib.hid ((Kc.Kept.refl w g).drewN n1)
    have x0 : (w.drewN n1).cell? _ = _ := x0
    have x1 : (w.drewN n1).cell? _ = _ := x1
    have x2 : (w.drewN n1).cell? _ = _ := x2
    have x3 : (w.drewN n1).cell? _ = _ := x3
    clear H ov
    generalize w.drewN n1 = w1 at *
    have hg1 := H1.out.lt
    have c0 := H1.out.c0
    have c1 := H1.out.c1
    have hml : ws.length ≤ 9223372036854775807 := by unfold maxLen at hm; omega
    clear hd hm
    have H2 := Lib.hid (H1.out.then ((Below.refl w1.heap.size w1).alloc (Nat.le_refl _) (.cells #[.int .i64 0, .string ⟨#[]⟩, .slice none 0 0, .int .i64 0] 91)))
    have e0 := H2.out.c0
    have e1 := H2.out.c1
    have hb2 := (Below.refl w1.heap.size w1).alloc (Nat.le_refl _) (.cells #[.int .i64 0, .string ⟨#[]⟩, .slice none 0 0, .int .i64 0] 91)
    have y0 := Tp.keep hb2 x0
    have y1 := Tp.keep hb2 x1
    have y2 := Tp.keep hb2 x2
    have y3 := Tp.keep hb2 x3
    clear hb2
    go_region
    have H3 := Lib.hid ((H1.out.then ((Below.refl w1.heap.size w1).alloc (Nat.le_refl _) (.cells #[.int .i64 k, .string T, .slice ap p.length dp, .int .i64 m] 91))).drew)
    have K3 := Lib.hid ((K1.out.alloc (.cells #[.int .i64 k, .string T, .slice ap p.length dp, .int .i64 m] 91)).drew)
    have X3 : Hid (Bs.Box (w1.alloc (.cells #[.int .i64 k, .string T, .slice ap p.length dp, .int .i64 m] 91)).drew w1.heap.size #[.int .i64 k, .string T, .slice ap p.length dp, .int .i64 m] 91) := Bs.Box.new w1 _ _ _ rfl
    clear H1 K1 H2 x0 x1 x2 x3 y0 y1 y2 y3 c0 c1 e0 e1
    have hne : w1.heap.size ≠ g := by have := hg1; omega
    generalize w1.heap.size = b3 at *
    generalize (w1.alloc (.cells #[.int .i64 k, .string T, .slice ap p.length dp, .int .i64 m] 91)).drew = w3 at *
    have z0 := X3.out.cell 0 rfl
    have z1 := X3.out.cell 1 rfl
    have z2 := X3.out.cell 2 rfl
    have z3 := X3.out.cell 3 rfl
    have on := on w3
    cases b1 with
    | false =>
      subst eb
      go_wp2_with (go_at_call 161; refine on.mono ?_; rintro e w4 ⟨rfl, b4⟩; have H4 := Lib.hid (H3.out.then b4); have K4 := Lib.hid (K3.out.then b4); clear b4 on)
      go_ret
      exact ⟨rfl, H4.out, K4.out⟩
    | true =>
      cases b2 with
      | false =>
        subst eb
        go_wp2_with (first | (go_at_call 161; refine on.mono ?_; rintro e w4 ⟨rfl, b4⟩; have H4 := Lib.hid (H3.out.then b4); have K4 := Lib.hid (K3.out.then b4); have X4 := Lib.hid (X3.out.on b4 X3.out.lt); have z1 := X4.out.cell 1 rfl; clear b4 on) | (go_at_call 162; refine (fn _).mono ?_; rintro e w5 ⟨rfl, hw⟩; have hw := hw.symm; subst hw; clear fn))
        go_ret
        exact ⟨rfl, H4.out, K4.out⟩
      | true =>
        subst eb
        go_upto_region 6 with (first | (go_at_call 161; refine on.mono ?_; rintro e w4 ⟨rfl, b4⟩; have H4 := Lib.hid (H3.out.then b4); have K4 := Lib.hid (K3.out.then b4); have X4 := Lib.hid (X3.out.on b4 X3.out.lt); have z1 := X4.out.cell 1 rfl; clear b4 on) | (go_at_call 162; refine (fn _).mono ?_; rintro e w5 ⟨rfl, hw⟩; have hw := hw.symm; subst hw; clear fn))
        have c1 := H4.out.c1
        have f := H4.out.fz
        have H5 := Lib.hid (H4.out.set1 (i + 1) hlt)
        have X5 := Lib.hid (((Kc.Kept.refl _ _).set 1 (.int .i64 ((i + 1 : Nat) : Int))).box hne X4.out)
        have K5 := Lib.hid (K4.out.set 1 (.int .i64 ((i + 1 : Nat) : Int)))
        rw [show ((i + 1 : Nat) : Int) = (i : Int) + 1 by omega] at H5 K5 X5
        have y1 := X5.out.cell 1 rfl
        clear H3 K3 X3 H4 K4 X4 z0 z1 z2 z3
        go_wp2_with fail
        go_ret
        exact ⟨by rw [← HT.out]; rfl, H5.out, K5.out⟩
end Go.Proofs.YtjppobeomocgbaaGreatDoor

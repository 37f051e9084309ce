/-
  THE WALK of stolelaw4.awake: it returns true, and turns nothing that was there.
-/
import Derived.Test.YtggfemdnoccmeaaDoorVAwPlain
import Derived.BigQuiet
namespace Go.Proofs.YtggfemdnoccmeaaDoor
open Go.RowKit

theorem Vw.rLies (b : Nat) (z : Int) (hz : z = b) (hb : b < 18446744073709551616) (w : World) (R : Nat → Prop) : (Vt.leaf 3 0 b ⟨#[]⟩).Lies w R (.agg #[.int .i64 3, .int .i64 0, .int .u64 z, .string ⟨#[]⟩, .slice none 0 0, .slice none 0 0]) := by
  subst hz
  exact Vt.leaf_lies 3 0 b ⟨#[]⟩ hb w R
theorem Vw.iLies (x : Int) (w : World) (R : Nat → Prop) : (Vt.leaf 2 x 0 ⟨#[]⟩).Lies w R (.agg #[.int .i64 2, .int .i64 x, .int .u64 0, .string ⟨#[]⟩, .slice none 0 0, .slice none 0 0]) := Vt.leaf_lies 2 x 0 ⟨#[]⟩ (by decide) w R
theorem Vw.sLies (s : ByteArray) (w : World) (R : Nat → Prop) : (Vt.leaf 4 0 0 s).Lies w R (.agg #[.int .i64 4, .int .i64 0, .int .u64 0, .string s, .slice none 0 0, .slice none 0 0]) := Vt.leaf_lies 4 0 0 s (by decide) w R

/-- how things stand in awake: the record lies in memory, its variable holds it -/
structure Vw.St (w W : World) (gK gI gR : Nat) : Prop where
  below : Below w.heap.size w W
  tabs : Re.Tabs W
  lies : Vt.rec2.Lies W (· < W.heap.size) (.agg #[.int .i64 6, .int .i64 0, .int .u64 0, .string ⟨#[]⟩, .slice (some ⟨gI, 0, none⟩) 2 2, .slice (some ⟨gK, 0, none⟩) 2 2])
  lt : gR < W.heap.size
  box : Vm.Box W gR (.int .i64 6) (.int .i64 0) (.int .u64 0) (.string ⟨#[]⟩) (.slice (some ⟨gI, 0, none⟩) 2 2) (.slice (some ⟨gK, 0, none⟩) 2 2)
theorem Vw.St.on {w W W' : World} {gK gI gR : Nat} (h : Vw.St w W gK gI gR) (hb : Below W.heap.size W W') : Vw.St w W' gK gI gR :=
  ⟨Vm.then h.below hb, h.tabs.on hb, h.lies.on' hb, Nat.lt_of_lt_of_le h.lt hb.size, h.box.on h.lt hb⟩
theorem Vw.St.alloc {w W : World} {gK gI gR : Nat} (h : Vw.St w W gK gI gR) (o : Obj) : Vw.St w (W.alloc o) gK gI gR := h.on ((Below.refl _ _).alloc (Nat.le_refl _) o)
theorem Vw.St.drew {w W : World} {gK gI gR : Nat} (h : Vw.St w W gK gI gR) : Vw.St w W.drew gK gI gR := h.on ⟨rfl, rfl, rfl, Nat.le_refl _, fun _ _ => rfl⟩
theorem Vw.start {w w1 w2 : World} (ht : Re.Tabs w) (hb1 : Below (w.alloc (.cells #[.string ⟨#[97]⟩, .string ⟨#[98]⟩] 9)).heap.size (w.alloc (.cells #[.string ⟨#[97]⟩, .string ⟨#[98]⟩] 9)) w1) (hb2 : Below w1.heap.size w1 w2) :
    Vw.St w ((w2.alloc (.cells #[.int .i64 2, .int .i64 5, .int .u64 0, .string ⟨#[]⟩, .slice none 0 0, .slice none 0 0, .int .i64 4, .int .i64 0, .int .u64 0, .string ⟨#[120]⟩, .slice none 0 0, .slice none 0 0] 26)).alloc (.cells #[.int .i64 6, .int .i64 0, .int .u64 0, .string ⟨#[]⟩, .slice (some ⟨w2.heap.size, 0, none⟩) 2 2, .slice (some ⟨w.heap.size, 0, none⟩) 2 2] 26)) w.heap.size w2.heap.size (w2.heap.size + 1) := by
  have hb3 := Vm.then (Vm.behind hb1) hb2
  have k1 : w1.heap[w.heap.size]? = some (.cells #[.string ⟨#[97]⟩, .string ⟨#[98]⟩] 9) := Vm.boxed hb1
  have hs1 : w.heap.size < w1.heap.size := (Array.getElem?_eq_some_iff.1 k1).1
  have k2 := (hb2.block _ hs1).trans k1
  have hs2 : w.heap.size < w2.heap.size := (Array.getElem?_eq_some_iff.1 k2).1
  generalize hX : (Obj.cells #[.int .i64 2, .int .i64 5, .int .u64 0, .string ⟨#[]⟩, .slice none 0 0, .slice none 0 0, .int .i64 4, .int .i64 0, .int .u64 0, .string ⟨#[120]⟩, .slice none 0 0, .slice none 0 0] 26) = X
  generalize hY : (Obj.cells #[.int .i64 6, .int .i64 0, .int .u64 0, .string ⟨#[]⟩, .slice (some ⟨w2.heap.size, 0, none⟩) 2 2, .slice (some ⟨w.heap.size, 0, none⟩) 2 2] 26) = Y
  have hbw : Below w.heap.size w ((w2.alloc X).alloc Y) := (hb3.alloc (by omega) X).alloc (by simp; omega) Y
  have k3 : ((w2.alloc X).alloc Y).heap[w.heap.size]? = some (.cells #[.string ⟨#[97]⟩, .string ⟨#[98]⟩] 9) := by
    rw [Below.heap_alloc _ _ _ (by simp; omega), Below.heap_alloc _ _ _ hs2]
    exact k2
  have i3 : ((w2.alloc X).alloc Y).heap[w2.heap.size]? = some X := by
    rw [Below.heap_alloc _ _ _ (by simp)]
    show (w2.heap.push _)[w2.heap.size]? = _
    simp
  have r3 : ((w2.alloc X).alloc Y).heap[w2.heap.size + 1]? = some Y := by
    show ((w2.heap.push _).push _)[w2.heap.size + 1]? = _
    rw [Array.getElem?_push, if_pos (by simp)]
  have hsz : ((w2.alloc X).alloc Y).heap.size = w2.heap.size + 2 := by simp
  subst hX hY
  generalize (w2.alloc _).alloc _ = W at *
  refine ⟨hbw, ht.on hbw, ?_, by omega, ⟨r3⟩⟩
  refine ⟨_, _, _, _, rfl, by decide, Nat.le_refl _, by decide, ⟨Nat.le_refl _, by decide, fun j hj => ?_⟩, fun i hi => ?_⟩
  · refine ⟨_, 0, rfl, by omega, Vm.boxCell k3 _ ?_⟩
    have : j = 0 ∨ j = 1 := by omega
    rcases this with rfl | rfl <;> rfl
  · have : i = 0 ∨ i = 1 := by omega
    rcases this with rfl | rfl
    · exact ⟨_, 0, _, _, _, _, _, _, rfl, by omega, Vm.boxCell i3 _ rfl, Vm.boxCell i3 _ rfl, Vm.boxCell i3 _ rfl, Vm.boxCell i3 _ rfl, Vm.boxCell i3 _ rfl, Vm.boxCell i3 _ rfl, Vw.iLies 5 _ _⟩
    · exact ⟨_, 0, _, _, _, _, _, _, rfl, by omega, Vm.boxCell i3 _ rfl, Vm.boxCell i3 _ rfl, Vm.boxCell i3 _ rfl, Vm.boxCell i3 _ rfl, Vm.boxCell i3 _ rfl, Vm.boxCell i3 _ rfl, Vw.sLies ⟨#[120]⟩ _ _⟩
/-- one or two names in a row of their own -/
theorem Vw.path1 (W : World) (a : ByteArray) (g : Nat) (hg : g = W.heap.size) : Vt.Keys (W.alloc (.cells #[.string a] 9)) (· < (W.alloc (.cells #[.string a] 9)).heap.size) 1 (fun _ => a) (some ⟨g, 0, none⟩) 1 := by
  subst hg
  refine ⟨Nat.le_refl _, by decide, fun j hj => ⟨W.heap.size, 0, rfl, by simp, ?_⟩⟩
  have : j = 0 := by omega
  subst this
  exact Vm.boxCell (cs := #[.string a]) (ty := 9) (by show (W.heap.push _)[W.heap.size]? = _; simp) 0 rfl
theorem Vw.path2 (W : World) (a b : ByteArray) (g : Nat) (hg : g = W.heap.size) : Vt.Keys (W.alloc (.cells #[.string a, .string b] 9)) (· < (W.alloc (.cells #[.string a, .string b] 9)).heap.size) 2 (fun j => if j = 0 then a else b) (some ⟨g, 0, none⟩) 2 := by
  subst hg
  refine ⟨Nat.le_refl _, by decide, fun j hj => ⟨W.heap.size, 0, rfl, by simp, ?_⟩⟩
  have : j = 0 ∨ j = 1 := by omega
  rcases this with rfl | rfl
  · exact Vm.boxCell (cs := #[.string a, .string b]) (ty := 9) (by show (W.heap.push _)[W.heap.size]? = _; simp) 0 rfl
  · exact Vm.boxCell (cs := #[.string a, .string b]) (ty := 9) (by show (W.heap.push _)[W.heap.size]? = _; simp) 1 rfl

/-- the variable that holds what Get gave -/
structure Vw.Ct (W : World) (gC : Nat) (v0 v1 v2 v3 v4 v5 : Value) : Prop where
  lt : gC < W.heap.size
  box : Vm.Box W gC v0 v1 v2 v3 v4 v5
  lies : (Vt.leaf 4 0 0 ⟨#[120]⟩).Lies W (· < W.heap.size) (.agg #[v0, v1, v2, v3, v4, v5])
theorem Vw.Ct.on {W W' : World} {gC : Nat} {v0 v1 v2 v3 v4 v5 : Value} (h : Vw.Ct W gC v0 v1 v2 v3 v4 v5) (hb : Below W.heap.size W W') : Vw.Ct W' gC v0 v1 v2 v3 v4 v5 :=
  ⟨Nat.lt_of_lt_of_le h.lt hb.size, h.box.on h.lt hb, h.lies.on' hb⟩
theorem Vw.Ct.alloc {W : World} {gC : Nat} {v0 v1 v2 v3 v4 v5 : Value} (h : Vw.Ct W gC v0 v1 v2 v3 v4 v5) (o : Obj) : Vw.Ct (W.alloc o) gC v0 v1 v2 v3 v4 v5 := h.on ((Below.refl _ _).alloc (Nat.le_refl _) o)
theorem Vw.Ct.drew {W : World} {gC : Nat} {v0 v1 v2 v3 v4 v5 : Value} (h : Vw.Ct W gC v0 v1 v2 v3 v4 v5) : Vw.Ct W.drew gC v0 v1 v2 v3 v4 v5 := h.on ⟨rfl, rfl, rfl, Nat.le_refl _, fun _ _ => rfl⟩
theorem Vw.Ct.start {W : World} {B : Nat} {v0 v1 v2 v3 v4 v5 : Value} (h : (Vt.leaf 4 0 0 ⟨#[120]⟩).Own W B W.heap.size (.agg #[v0, v1, v2, v3, v4, v5])) : Vw.Ct (W.alloc (.cells #[v0, v1, v2, v3, v4, v5] 26)) W.heap.size v0 v1 v2 v3 v4 v5 :=
  ⟨by simp, ⟨by show (W.heap.push _)[W.heap.size]? = _; simp⟩, Vt.Lies.alloc (h.lies.on fun g hg => ⟨hg.2, rfl⟩) _⟩

/-- THE WORLDS IN WHICH ALL THAT LAY IN L LIES STILL: a class for a region that draws its order and whose calls make memory. -/
def Vw.Wd (L : World) : Type := { u : World // Below L.heap.size L u }
theorem Vw.wd_ne (L : World) : Nonempty (Vw.Wd L) := ⟨⟨L, Below.refl _ _⟩⟩
/-- the quiet walk's theorem at this class -/
theorem Vw.region {L : World} {id : Nat} {Q : Exit → Act → World → Prop} {a : Act} {l : List Oper} (hB : Region.lexB .any l.toArray = true)
    (h : wpQuiet Tryd.prog l.toArray (fun u => ∃ q : Vw.Wd L, u = q.1) (fun a' => ∀ w', (∃ q : Vw.Wd L, w' = q.1) → Q .normal a' w') l a) : (Code.region id l.toArray true).wp Tryd.prog Q a L :=
  wp_region_quiet (C := fun u => ∃ q : Vw.Wd L, u = q.1) (by kernel_rfl) hB ⟨⟨_, (Below.refl _ _).drew⟩, rfl⟩ (by simpa using h)
theorem Vw.call {L : World} {f : FuncId} {args : Array Value} {v v' : Value} (q : Vw.Wd L) (hv : v = v') (h : Calls Tryd.prog f args q.1 fun e w' => e = .returned v ∧ Below q.1.heap.size q.1 w') :
    Calls Tryd.prog f args q.1 fun e w'' => e = .returned v' ∧ ∃ m : Vw.Wd L, w'' = m.1 :=
  h.mono fun _ w'' ⟨he, hb⟩ => ⟨by rw [he, hv], ⟨w'', Vm.then q.2 hb⟩, rfl⟩
theorem Vw.call0 {L : World} {f : FuncId} {args : Array Value} {v : Value} (q : Vw.Wd L) (h : Calls Tryd.prog f args q.1 fun e w' => e = .returned v ∧ w' = q.1) :
    Calls Tryd.prog f args q.1 fun e w'' => e = .returned v ∧ ∃ m : Vw.Wd L, w'' = m.1 :=
  h.mono fun _ _ ⟨he, hb⟩ => ⟨he, q, hb⟩

set_option maxRecDepth 100000 in
set_option maxHeartbeats 16000000 in
theorem Vw.awake (w : World) (ht : Re.Tabs w) : Calls Tryd.prog 22 #[] w fun e w' => e = .returned (.bool true) ∧ Below w.heap.size w w' := by
  go_enter Tryd.func22, Tryd.ntmps22
  go_wp2_with fail
  refine (Vn.num 5 _).mono ?_
  rintro e w1 ⟨rfl, hb1⟩
  go_wp2_with fail
  refine (Vn.text ⟨#[120]⟩ _).mono ?_
  rintro e w2 ⟨rfl, hb2⟩
  go_wp2_with fail
  have S := Vw.start ht hb1 hb2
  have HT := Lib.hid ht
  clear hb1 hb2 ht
  generalize (w2.alloc (.cells #[.int .i64 2, .int .i64 5, .int .u64 0, .string ⟨#[]⟩, .slice none 0 0, .slice none 0 0, .int .i64 4, .int .i64 0, .int .u64 0, .string ⟨#[120]⟩, .slice none 0 0, .slice none 0 0] 26)).alloc (.cells #[.int .i64 6, .int .i64 0, .int .u64 0, .string ⟨#[]⟩, .slice (some ⟨w2.heap.size, 0, none⟩) 2 2, .slice (some ⟨w.heap.size, 0, none⟩) 2 2] 26) = W0 at *
  generalize w2.heap.size = gI at *
  refine (Vn.bits 9223372036854775808 _).mono ?_
  rintro e W4 ⟨rfl, hb⟩
  replace S := S.on hb
  clear hb
  go_wp2_with fail
  refine (Vm.told (Vt.leaf 3 0 9223372036854775808 ⟨#[]⟩) _ _ (Vw.rLies 9223372036854775808 9223372036854775808 rfl (by decide) _ _) S.tabs).mono ?_
  rintro e W5 ⟨rfl, hb⟩
  rw [Vw.real_told, Vw.t2]
  replace S := S.on hb
  clear hb
  obtain ⟨c0, c1, c2, c3, c4, c5⟩ := S.box.cells
  go_wp2_with fail
  clear c0 c1 c2 c3 c4 c5
  refine (Vm.told Vt.rec2 _ _ S.lies S.tabs).mono ?_
  rintro e W6 ⟨rfl, hb⟩
  rw [Vw.told]
  generalize Vt.rec2.told.1 = T1
  replace S := S.on hb
  clear hb
  go_wp2_with fail
  refine (Vn.bits 13830554455654793216 _).mono ?_
  rintro e W7 ⟨rfl, hb⟩
  replace S := S.on hb
  clear hb
  go_wp2_with fail
  refine (Vn.bits 0 _).mono ?_
  rintro e W8 ⟨rfl, hb⟩
  replace S := S.on hb
  clear hb
  go_wp2_with fail
  refine (Vl.less (Vt.leaf 3 0 13830554455654793216 ⟨#[]⟩) (Vt.leaf 3 0 0 ⟨#[]⟩) _ _ _ (Vw.rLies 13830554455654793216 13830554455654793216 rfl (by decide) _ _) (Vw.rLies 0 0 rfl (by decide) _ _)).mono ?_
  rintro e W9 ⟨rfl, hb⟩
  rw [Vw.less1]
  replace S := S.on hb
  clear hb
  go_wp2_with fail
  refine (Vn.num 1 _).mono ?_
  rintro e W10 ⟨rfl, hb⟩
  replace S := S.on hb
  clear hb
  go_wp2_with fail
  refine (Vn.text ⟨#[49]⟩ _).mono ?_
  rintro e W11 ⟨rfl, hb⟩
  replace S := S.on hb
  clear hb
  go_wp2_with fail
  refine (Vl.less (Vt.leaf 2 1 0 ⟨#[]⟩) (Vt.leaf 4 0 0 ⟨#[49]⟩) _ _ _ (Vw.iLies 1 _ _) (Vw.sLies ⟨#[49]⟩ _ _)).mono ?_
  rintro e W12 ⟨rfl, hb⟩
  rw [Vw.mixed_less 1 (by decide) ⟨#[49]⟩ (by decide)]
  generalize ((Vt.leaf 2 1 0 ⟨#[]⟩).less (Vt.leaf 4 0 0 ⟨#[49]⟩)).1 = T2
  replace S := S.on hb
  clear hb
  obtain ⟨c0, c1, c2, c3, c4, c5⟩ := S.box.cells
  go_wp2_with fail
  clear c0 c1 c2 c3 c4 c5
  refine (Vg.get Vt.rec2 _ 1 (fun _ => ⟨#[98]⟩) _ 1 _ (S.alloc _).lies (Vw.path1 _ _ _ (by simp))).mono ?_
  rintro e W13 ⟨v', rfl, hown, hb⟩
  rw [Vw.get1 _ rfl] at hown ⊢
  replace S := (S.alloc _).on hb
  clear hb
  obtain ⟨k3, x3, b3, s3, ai3, n3, d3, ak3, m3, e3, rfl⟩ := hown.form
  have C0 := Vw.Ct.start hown
  clear hown
  replace S := S.alloc (.cells #[.int .i64 k3, .int .i64 x3, .int .u64 (b3 : Int), .string s3, .slice ai3 n3 d3, .slice ak3 m3 e3] 26)
  obtain ⟨c0, c1, c2, c3, c4, c5⟩ := S.box.cells
  have C : Vw.Ct _ _ _ _ _ _ _ _ := C0
  clear C0
  go_wp2_with fail
  clear c0 c1 c2 c3 c4 c5
  refine (Vg.get Vt.rec2 _ 1 (fun _ => ⟨#[99]⟩) _ 1 _ (S.alloc _).lies (Vw.path1 _ _ _ (by simp))).mono ?_
  rintro e W14 ⟨v', rfl, hown, hb⟩
  obtain ⟨k4, x4, b4, s4, ai4, n4, d4, ak4, m4, e4, rfl⟩ := hown.form
  rw [Vw.get2 _ rfl]
  replace S := (S.alloc _).on hb
  replace C := (C.alloc _).on hb
  clear hb hown
  replace S := S.alloc (.cells #[.int .i64 k4, .int .i64 x4, .int .u64 (b4 : Int), .string s4, .slice ai4 n4 d4, .slice ak4 m4 e4] 26)
  replace C := C.alloc (.cells #[.int .i64 k4, .int .i64 x4, .int .u64 (b4 : Int), .string s4, .slice ai4 n4 d4, .slice ak4 m4 e4] 26)
  obtain ⟨c0, c1, c2, c3, c4, c5⟩ := S.box.cells
  go_wp2_with fail
  clear c0 c1 c2 c3 c4 c5
  refine (Vg.get Vt.rec2 _ 2 (fun j => if j = 0 then ⟨#[97]⟩ else ⟨#[98]⟩) _ 2 _ (S.alloc _).lies (Vw.path2 _ _ _ _ (by simp))).mono ?_
  rintro e W15 ⟨v', rfl, hown, hb⟩
  obtain ⟨k5, x5, b5, s5, ai5, n5, d5, ak5, m5, e5, rfl⟩ := hown.form
  rw [Vw.get3 _ rfl]
  replace S := (S.alloc _).on hb
  replace C := (C.alloc _).on hb
  clear hb hown
  replace S := S.alloc (.cells #[.int .i64 k5, .int .i64 x5, .int .u64 (b5 : Int), .string s5, .slice ai5 n5 d5, .slice ak5 m5 e5] 26)
  replace C := C.alloc (.cells #[.int .i64 k5, .int .i64 x5, .int .u64 (b5 : Int), .string s5, .slice ai5 n5 d5, .slice ak5 m5 e5] 26)
  obtain ⟨c0, c1, c2, c3, c4, c5⟩ := S.box.cells
  clear c0 c1 c2 c3 c4 c5
  go_wp2_with fail
  generalize (W15.alloc (.cells #[.int .i64 k5, .int .i64 x5, .int .u64 (b5 : Int), .string s5, .slice ai5 n5 d5, .slice ak5 m5 e5] 26)) = L at *
  have ne := Vw.wd_ne L
  have cr0 := fun q : Vw.Wd L => (S.on q.2).box.cells.1
  have cc0 := fun q : Vw.Wd L => (C.on q.2).box.cells.1
  have cr1 := fun q : Vw.Wd L => (S.on q.2).box.cells.2.1
  have cc1 := fun q : Vw.Wd L => (C.on q.2).box.cells.2.1
  have cr2 := fun q : Vw.Wd L => (S.on q.2).box.cells.2.2.1
  have cc2 := fun q : Vw.Wd L => (C.on q.2).box.cells.2.2.1
  have cr3 := fun q : Vw.Wd L => (S.on q.2).box.cells.2.2.2.1
  have cc3 := fun q : Vw.Wd L => (C.on q.2).box.cells.2.2.2.1
  have cr4 := fun q : Vw.Wd L => (S.on q.2).box.cells.2.2.2.2.1
  have cc4 := fun q : Vw.Wd L => (C.on q.2).box.cells.2.2.2.2.1
  have cr5 := fun q : Vw.Wd L => (S.on q.2).box.cells.2.2.2.2.2
  have cc5 := fun q : Vw.Wd L => (C.on q.2).box.cells.2.2.2.2.2
  have HS := Lib.hid S
  have HC := Lib.hid C
  have k0 := fun (x : Int) (q : Vw.Wd L) => Vw.call0 q (Vn.errno x q.1)
  have k1 := fun (x : Int) (q : Vw.Wd L) => Vw.call q rfl (Vn.bits x q.1)
  have k2 := fun (x : Int) (q : Vw.Wd L) => Vw.call q rfl (Vn.num x q.1)
  have k3 := fun (x : ByteArray) (q : Vw.Wd L) => Vw.call q rfl (Vn.text x q.1)
  have k4 := fun q : Vw.Wd L => Vw.call q (congrArg Value.bool Vw.may) (Vm.may Vt.rec2 _ q.1 (S.on q.2).lies)
  have k5 := fun q : Vw.Wd L => Vw.call q (congrArg Value.bool Vw.big) (Vm.may (Vt.leaf 2 9007199254740992 0 ⟨#[]⟩) _ q.1 (Vw.iLies 9007199254740992 _ _))
  have k6 := fun q : Vw.Wd L => Vw.call q (congrArg Value.bool Vw.truth) (Vm.truth Vt.rec2 _ q.1 (S.on q.2).lies)
  have k7 := fun q : Vw.Wd L => Vw.call q (congrArg Value.bool Vw.truth2) (Vm.truth (Vt.leaf 3 0 9223372036854775808 ⟨#[]⟩) _ q.1 (Vw.rLies 9223372036854775808 9223372036854775808 rfl (by decide) _ _))
  have k8 := fun q : Vw.Wd L => Vw.call q (congrArg Value.bool Vw.same1) (Va.same (Vt.leaf 3 0 0 ⟨#[]⟩) (Vt.leaf 3 0 9223372036854775808 ⟨#[]⟩) _ _ q.1 (Vw.rLies 0 0 rfl (by decide) _ _) (Vw.rLies 9223372036854775808 9223372036854775808 rfl (by decide) _ _))
  have k9 := fun q : Vw.Wd L => Vw.call q (congrArg Value.bool Vw.same2) (Va.same (Vt.leaf 3 0 9221120237041090560 ⟨#[]⟩) (Vt.leaf 3 0 9221120237041090560 ⟨#[]⟩) _ _ q.1 (Vw.rLies 9221120237041090560 9221120237041090560 rfl (by decide) _ _) (Vw.rLies 9221120237041090560 9221120237041090560 rfl (by decide) _ _))
  have k10 := fun q : Vw.Wd L => Vw.call q (congrArg Value.bool (Vw.eq ⟨#[120]⟩)) (Vs.same (Vt.leaf 4 0 0 ⟨#[120]⟩) (Vt.leaf 4 0 0 ⟨#[120]⟩) _ _ q.1 (C.on q.2).lies (Vw.sLies ⟨#[120]⟩ _ _))
  have K0 := Lib.hid k0
  have K1 := Lib.hid k1
  have K2 := Lib.hid k2
  have K3 := Lib.hid k3
  have K4 := Lib.hid k4
  have K5 := Lib.hid k5
  have K6 := Lib.hid k6
  have K7 := Lib.hid k7
  have K8 := Lib.hid k8
  have K9 := Lib.hid k9
  have K10 := Lib.hid k10
  clear k0 k1 k2 k3 k4 k5 k6 k7 k8 k9 k10 S C HT
  simp only [List.append]
  refine Vw.region (L := L) (by kernel_rfl) ?_
  repeat (go_big_quiet_step (first | (go_at_call 12; exact K0.out _ _) | (go_at_call 41; exact K1.out _ _) | (go_at_call 39; exact K2.out _ _) | (go_at_call 40; exact K3.out _ _) | (go_at_call_of 15 gI; exact K4.out _) | (go_at_call_of 15 (9007199254740992 : Int); exact K5.out _) | (go_at_call_of 17 gI; exact K6.out _) | (go_at_call_of 17 (9223372036854775808 : Int); exact K7.out _) | (go_at_call_of 19 (9223372036854775808 : Int); exact K8.out _) | (go_at_call_of 19 (9221120237041090560 : Int); exact K9.out _) | (go_at_call 13; exact K10.out _)))
  refine wpQuiet_nil ?_
  rintro _ ⟨q, rfl⟩
  go_wp2
  go_ret
  exact ⟨rfl, Vm.then HS.out.below q.2⟩
end Go.Proofs.YtggfemdnoccmeaaDoor

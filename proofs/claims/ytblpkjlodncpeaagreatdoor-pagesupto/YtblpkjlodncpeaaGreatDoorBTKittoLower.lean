/-
  SMALL THINGS for the walks of package tok; the walks of tok.inTag, tok.isBlank, tok.isLetter, tok.to.
-/
import Derived.Test.YtblpkjlodncpeaaGreatDoorChecked
import Derived.Test.YtblpkjlodncpeaaGreatDoorBPlaintoKPlain
import Derived.WalkKit
import Derived.OwnWalk
import Derived.Lib.Hide
import Derived.Below
import Derived.Shelf.Strings.Builder2
import Derived.Shelf.Strings.BuilderK
import Derived.Shelf.Strings.Prefix
import Derived.Test.YtblpkjlodncpeaaGreatDoorProg
import Derived.BigCall
import Derived.Laws.IdiomStrings
namespace Go.Proofs.YtblpkjlodncpeaaGreatDoor
open Go.RowKit
theorem Tp.cells {W w1 : World} (hb : Below W.heap.size W w1) : (∀ b o, b < W.heap.size → w1.cell? ⟨b, o, none⟩ = W.cell? ⟨b, o, none⟩) ∧ (∀ b o, b < W.heap.size → w1.frozen? ⟨b, o, none⟩ = W.frozen? ⟨b, o, none⟩) :=
 ⟨fun b o h => hb.cell (p := ⟨b, o, none⟩) h, fun b o h => hb.frozen (p := ⟨b, o, none⟩) h⟩
theorem Tp.eq_true {c : UInt8} {d : UInt8} (h : c = d) : ((c.toNat : Int) == (d.toNat : Int)) = true := by rw [h]; simp
theorem Tp.eq_false {c : UInt8} {d : UInt8} (h : ¬ c = d) : ((c.toNat : Int) == (d.toNat : Int)) = false := beq_eq_false_iff_ne.2 (fun e => h (UInt8.toNat_inj.1 (by omega)))
theorem Tp.n33 {c : UInt8} (h : ¬ c = 33) : ((c.toNat : Int) == 33) = false := Tp.eq_false h
theorem Tp.n34 {c : UInt8} (h : ¬ c = 34) : ((c.toNat : Int) == 34) = false := Tp.eq_false h
theorem Tp.n39 {c : UInt8} (h : ¬ c = 39) : ((c.toNat : Int) == 39) = false := Tp.eq_false h
theorem Tp.n45 {c : UInt8} (h : ¬ c = 45) : ((c.toNat : Int) == 45) = false := Tp.eq_false h
theorem Tp.n47 {c : UInt8} (h : ¬ c = 47) : ((c.toNat : Int) == 47) = false := Tp.eq_false h
theorem Tp.n60 {c : UInt8} (h : ¬ c = 60) : ((c.toNat : Int) == 60) = false := Tp.eq_false h
theorem Tp.n61 {c : UInt8} (h : ¬ c = 61) : ((c.toNat : Int) == 61) = false := Tp.eq_false h
theorem Tp.n62 {c : UInt8} (h : ¬ c = 62) : ((c.toNat : Int) == 62) = false := Tp.eq_false h
theorem Tp.y45 {c : UInt8} (h : c = 45) : ((c.toNat : Int) == 45) = true := Tp.eq_true h
theorem Tp.y47 {c : UInt8} (h : c = 47) : ((c.toNat : Int) == 47) = true := Tp.eq_true h
theorem Tp.y60 {c : UInt8} (h : c = 60) : ((c.toNat : Int) == 60) = true := Tp.eq_true h
theorem Tp.y61 {c : UInt8} (h : c = 61) : ((c.toNat : Int) == 61) = true := Tp.eq_true h
theorem Tp.y62 {c : UInt8} (h : c = 62) : ((c.toNat : Int) == 62) = true := Tp.eq_true h
theorem Tp.set6 (w : World) (g : Nat) (v0 v1 v2 v3 v4 v5 : Value) {B : Nat} {a : World} (hb : Below B a w) (hg : B ≤ g) : Below B a ((((((w.setCell ⟨g, 0, none⟩ v0).setCell ⟨g, 1, none⟩ v1).setCell ⟨g, 2, none⟩ v2).setCell ⟨g, 3, none⟩ v3).setCell ⟨g, 4, none⟩ v4).setCell ⟨g, 5, none⟩ v5) :=
 (((((hb.setCell (p := ⟨g, 0, none⟩) hg _).setCell (p := ⟨g, 1, none⟩) hg _).setCell (p := ⟨g, 2, none⟩) hg _).setCell (p := ⟨g, 3, none⟩) hg _).setCell (p := ⟨g, 4, none⟩) hg _).setCell (p := ⟨g, 5, none⟩) hg _
structure Vm.Still (p : Prop) : Prop where
 out : p
theorem Vm.stop (n : Nat) {P : Program} {ops : Array Oper} {Q : Exit → Act → World → Prop} {op : Op} {ty : TypeId} {pos : String} {after : Array Edge} {gd : Option (Nat × Bool)} {rest : List Oper} {a : Act} {w : World} (h : Vm.Still (wpList P ops Q ({ dst := some n, op := op, type := ty, pos := pos, after := after, guard := gd } :: rest) a w)) : wpList P ops Q ({ dst := some n, op := op, type := ty, pos := pos, after := after, guard := gd } :: rest) a w := h.out
theorem Vm.stopS (t : TypeId) {P : Program} {ops : Array Oper} {Q : Exit → Act → World → Prop} {x y : Operand} {ty : TypeId} {pos : String} {after : Array Edge} {gd : Option (Nat × Bool)} {rest : List Oper} {a : Act} {w : World} (h : Vm.Still (wpList P ops Q ({ dst := none, op := .store t x y, type := ty, pos := pos, after := after, guard := gd } :: rest) a w)) : wpList P ops Q ({ dst := none, op := .store t x y, type := ty, pos := pos, after := after, guard := gd } :: rest) a w := h.out
theorem Tp.six (w1 : World) (g : Nat) {u0 u1 u2 u3 u4 u5 : Value} (v0 v1 v2 v3 v4 v5 : Value) (c0 : w1.cell? ⟨g, 0, none⟩ = some u0) (c1 : w1.cell? ⟨g, 1, none⟩ = some u1) (c2 : w1.cell? ⟨g, 2, none⟩ = some u2) (c3 : w1.cell? ⟨g, 3, none⟩ = some u3) (c4 : w1.cell? ⟨g, 4, none⟩ = some u4) (c5 : w1.cell? ⟨g, 5, none⟩ = some u5) (f : ∀ i, w1.frozen? ⟨g, i, none⟩ = false) :
  ∃ W, ((((((w1.setCell ⟨g, 0, none⟩ v0).setCell ⟨g, 1, none⟩ v1).setCell ⟨g, 2, none⟩ v2).setCell ⟨g, 3, none⟩ v3).setCell ⟨g, 4, none⟩ v4).setCell ⟨g, 5, none⟩ v5) = W ∧ W.cell? ⟨g, 0, none⟩ = some v0 ∧ W.cell? ⟨g, 1, none⟩ = some v1 ∧ W.cell? ⟨g, 2, none⟩ = some v2 ∧ W.cell? ⟨g, 3, none⟩ = some v3 ∧ W.cell? ⟨g, 4, none⟩ = some v4 ∧ W.cell? ⟨g, 5, none⟩ = some v5 ∧ (∀ i, W.frozen? ⟨g, i, none⟩ = false) ∧
   (∀ b o, b ≠ g → W.cell? ⟨b, o, none⟩ = w1.cell? ⟨b, o, none⟩) ∧ (∀ b o, W.frozen? ⟨b, o, none⟩ = w1.frozen? ⟨b, o, none⟩) ∧ W.heap.size = w1.heap.size ∧ ∀ B a, B ≤ g → Below B a w1 → Below B a W := by
 refine ⟨_, rfl, ?_, ?_, ?_, ?_, ?_, ?_, ?_, ?_, ?_, by simp, fun B a hB hb => Tp.set6 _ _ _ _ _ _ _ _ hb hB⟩
 ·
  simp [go_sem, c0]
 ·
  simp [go_sem, c1]
 ·
  simp [go_sem, c2]
 ·
  simp [go_sem, c3]
 ·
  simp [go_sem, c4]
 ·
  simp [go_sem, c5]
 ·
  intro i; simp [f]
 ·
  intro b o hb
  have e : ∀ j, (⟨g, j, none⟩ : Addr) ≠ ⟨b, o, none⟩ := fun j e => hb (by injection e with e1; exact e1.symm)
  rw [World.cell?_setCell_other (h := e 5), World.cell?_setCell_other (h := e 4), World.cell?_setCell_other (h := e 3), World.cell?_setCell_other (h := e 2), World.cell?_setCell_other (h := e 1), World.cell?_setCell_other (h := e 0)]
 ·
  intro b o; simp
def Ts.v (s : Ts) : Value := .agg #[.int .i64 s.pl, .string s.name, .bool s.fin, .string s.attr, .string s.held, .int .i64 s.read]
theorem Tp.keep {W w1 : World} (hb : Below W.heap.size W w1) {b o : Nat} {v : Value} (h : W.cell? ⟨b, o, none⟩ = some v) : w1.cell? ⟨b, o, none⟩ = some v :=
 (hb.cell (p := ⟨b, o, none⟩) (World.block_lt_of_cell? _ _ h)).trans h
theorem Tp.k6 {w w1 : World} (hb : Below w.heap.size w w1) {b : Nat} {v0 v1 v2 v3 v4 v5 : Value} (h : w.cell? ⟨b, 0, none⟩ = some v0 ∧ w.cell? ⟨b, 1, none⟩ = some v1 ∧ w.cell? ⟨b, 2, none⟩ = some v2 ∧ w.cell? ⟨b, 3, none⟩ = some v3 ∧ w.cell? ⟨b, 4, none⟩ = some v4 ∧ w.cell? ⟨b, 5, none⟩ = some v5) : w1.cell? ⟨b, 0, none⟩ = some v0 ∧ w1.cell? ⟨b, 1, none⟩ = some v1 ∧ w1.cell? ⟨b, 2, none⟩ = some v2 ∧ w1.cell? ⟨b, 3, none⟩ = some v3 ∧ w1.cell? ⟨b, 4, none⟩ = some v4 ∧ w1.cell? ⟨b, 5, none⟩ = some v5 :=
 ⟨Tp.keep hb h.1, Tp.keep hb h.2.1, Tp.keep hb h.2.2.1, Tp.keep hb h.2.2.2.1, Tp.keep hb h.2.2.2.2.1, Tp.keep hb h.2.2.2.2.2⟩
theorem Tp.z6 {w w1 : World} (hb : Below w.heap.size w w1) {b : Nat} (h : w.cell? ⟨b, 0, none⟩ = some (.int .i64 0) ∧ w.cell? ⟨b, 1, none⟩ = some (.string ⟨#[]⟩) ∧ w.cell? ⟨b, 2, none⟩ = some (.bool false) ∧ w.cell? ⟨b, 3, none⟩ = some (.string ⟨#[]⟩) ∧ w.cell? ⟨b, 4, none⟩ = some (.string ⟨#[]⟩) ∧ w.cell? ⟨b, 5, none⟩ = some (.int .i64 0)) : w1.cell? ⟨b, 0, none⟩ = some (.int .i64 0) ∧ w1.cell? ⟨b, 1, none⟩ = some (.string ⟨#[]⟩) ∧ w1.cell? ⟨b, 2, none⟩ = some (.bool false) ∧ w1.cell? ⟨b, 3, none⟩ = some (.string ⟨#[]⟩) ∧ w1.cell? ⟨b, 4, none⟩ = some (.string ⟨#[]⟩) ∧ w1.cell? ⟨b, 5, none⟩ = some (.int .i64 0) := Tp.k6 hb h
theorem Tp.keepF {W w1 : World} (hb : Below W.heap.size W w1) {b : Nat} (hlt : b < W.heap.size) (h : ∀ i, W.frozen? ⟨b, i, none⟩ = false) : ∀ i, w1.frozen? ⟨b, i, none⟩ = false :=
 fun i => (hb.frozen (p := ⟨b, i, none⟩) hlt).trans (h i)
theorem Tp.inTag (a : Int) (w : World) : Calls Tryz.prog 76 #[.int .i64 a] w fun e w' => e = .returned (.bool (Ts.inTag a)) ∧ w' = w := by
 unfold Ts.inTag
 by_cases g1 : 3 ≤ a
 ·
  have d1 : decide (3 ≤ a) = true := decide_eq_true g1
  by_cases g2 : a ≤ 12
  ·
   have d2 : decide (a ≤ 12) = true := decide_eq_true g2
   go_enter Tryz.func76, Tryz.ntmps76
   go_wp2
   go_ret
   simp [g1, g2]
  ·
   have d2 : decide (a ≤ 12) = false := decide_eq_false g2
   go_enter Tryz.func76, Tryz.ntmps76
   go_wp2
   go_ret
   simp
 ·
  have d1 : decide (3 ≤ a) = false := decide_eq_false g1
  go_enter Tryz.func76, Tryz.ntmps76
  go_wp2
  go_ret
  simp
theorem Tp.ret {a b : Ts} (h : a = b) : Ending.returned (.agg #[.int .i64 a.pl, .string a.name, .bool a.fin, .string a.attr, .string a.held, .int .i64 a.read]) = .returned (.agg #[.int .i64 b.pl, .string b.name, .bool b.fin, .string b.attr, .string b.held, .int .i64 b.read]) := by rw [h]
theorem Tp.two (w : World) (o o' : Obj) : Below w.heap.size w ((w.alloc o).alloc o') := ((Below.refl _ _).alloc (Nat.le_refl _) _).alloc (by simp) _
theorem Tp.kp {w w1 : World} {v0 v1 v2 v3 v4 v5 u0 u1 u2 u3 u4 u5 : Value} {T U : TypeId} (hb1 : Below ((w.alloc (.cells #[v0, v1, v2, v3, v4, v5] T)).alloc (.cells #[u0, u1, u2, u3, u4, u5] U)).heap.size ((w.alloc (.cells #[v0, v1, v2, v3, v4, v5] T)).alloc (.cells #[u0, u1, u2, u3, u4, u5] U)) w1) :
  w.heap.size < w1.heap.size ∧ w.heap.size + 1 < w1.heap.size ∧ w1.cell? ⟨w.heap.size, 0, none⟩ = some v0 ∧ w1.cell? ⟨w.heap.size, 1, none⟩ = some v1 ∧ w1.cell? ⟨w.heap.size, 2, none⟩ = some v2 ∧ w1.cell? ⟨w.heap.size, 3, none⟩ = some v3 ∧ w1.cell? ⟨w.heap.size, 4, none⟩ = some v4 ∧ w1.cell? ⟨w.heap.size, 5, none⟩ = some v5 ∧ (∀ i, w1.frozen? ⟨w.heap.size, i, none⟩ = false) ∧ w1.cell? ⟨w.heap.size + 1, 0, none⟩ = some u0 ∧ w1.cell? ⟨w.heap.size + 1, 1, none⟩ = some u1 ∧ w1.cell? ⟨w.heap.size + 1, 2, none⟩ = some u2 ∧ w1.cell? ⟨w.heap.size + 1, 3, none⟩ = some u3 ∧ w1.cell? ⟨w.heap.size + 1, 4, none⟩ = some u4 ∧ w1.cell? ⟨w.heap.size + 1, 5, none⟩ = some u5 ∧ (∀ i, w1.frozen? ⟨w.heap.size + 1, i, none⟩ = false) ∧ Below w.heap.size w w1 := by
 have hz := hb1.size
 simp at hz
 refine ⟨by omega, by omega, ?_, ?_, ?_, ?_, ?_, ?_, fun i => (hb1.frozen (p := ⟨w.heap.size, i, none⟩) (by simp; omega)).trans (by simp), ?_, ?_, ?_, ?_, ?_, ?_, fun i => (hb1.frozen (p := ⟨w.heap.size + 1, i, none⟩) (by simp)).trans (by simp), (Tp.two _ _ _).trans (hb1.mono (by simp; omega))⟩
 all_goals first | exact (hb1.cell (p := ⟨w.heap.size, _, none⟩) (by simp; omega)).trans (by simp) | exact (hb1.cell (p := ⟨w.heap.size + 1, _, none⟩) (by simp)).trans (by simp)
theorem Tp.to (s : Ts) (a : Int) (w : World) : Calls Tryz.prog 98 #[.agg #[.int .i64 s.pl, .string s.name, .bool s.fin, .string s.attr, .string s.held, .int .i64 s.read], .int .i64 a] w fun e w' => e = .returned (.agg #[.int .i64 (s.to a).pl, .string (s.to a).name, .bool (s.to a).fin, .string (s.to a).attr, .string (s.to a).held, .int .i64 (s.to a).read]) ∧ Below w.heap.size w w' := by
 cases ht : Ts.inTag a
 all_goals
  by_cases g1 : a < 5
  all_goals
   by_cases g2 : 10 < a
   all_goals
    by_cases g3 : a < 19
    all_goals
     by_cases g4 : a = 22
     all_goals first | (exfalso; omega) | skip
 all_goals
  have H1 := Lib.hid g1
  have H2 := Lib.hid g2
  have H3 := Lib.hid g3
  have H4 := Lib.hid g4
  try (have d1 : decide (a < 5) = true := decide_eq_true g1)
  try (have d1 : decide (a < 5) = false := decide_eq_false g1)
  try (have d2 : decide (10 < a) = true := decide_eq_true g2)
  try (have d2 : decide (10 < a) = false := decide_eq_false g2)
  try (have d3 : decide (a < 19) = true := decide_eq_true g3)
  try (have d3 : decide (a < 19) = false := decide_eq_false g3)
  try (have d4 : (a != 22) = false := by simp [g4])
  try (have d4 : (a != 22) = true := by simp [g4])
  clear g4
  go_enter Tryz.func98, Tryz.ntmps98
  go_wp2_with (go_at_call 76; refine (Tp.inTag a _).mono ?_; rintro e w' ⟨rfl, rfl⟩)
  refine bodyPost_ret (v := .agg #[.int .i64 (s.to a).pl, .string (s.to a).name, .bool (s.to a).fin, .string (s.to a).attr, .string (s.to a).held, .int .i64 (s.to a).read]) ?_ rfl ⟨rfl, Tp.two _ _ _⟩
  have K1 := H1.out
  have K2 := H2.out
  have K3 := H3.out
  have K4 := H4.out
  have ha : Ts.hasAttr a = (!decide (a < 5) && !decide (10 < a)) := by unfold Ts.hasAttr; rw [Bool.eq_iff_iff]; simp
  have hh : decide (19 ≤ a) = !decide (a < 19) := by rw [Bool.eq_iff_iff]; simp
  clear K1 K2 H1 H2 H3 H4
  rw [d1, d2] at ha
  rw [d3] at hh
  simp only [Bool.not_true, Bool.not_false, Bool.and_true, Bool.and_false, decide_eq_true_eq, decide_eq_false_iff_not] at hh ha
  simp [results, Tryz.results98, go_sem, Ts.to, ht, ha, hh, K4, Ts.e] <;> first | (rw [K4] at ht; exact absurd ht (by decide)) | simp [Ts.inTag, Ts.hasAttr]
open Go.Shelf
def Sh.lays169_ren : Go.Shelf.Ren := ⟨fun | 169 => 114 | n => n, fun | 70 => 122 | 9 => 9 | 0 => 0 | 72 => 124 | 37 => 43 | 127 => 111 | 3 => 3 | 5 => 5 | n => n, fun | n => n⟩
theorem Sh.lays169 : Go.Proofs.Lays.n169 Tryz.prog Sh.lays169_ren := {
 mixed := by kernel_rfl
 f169 := Tryz.func114.trans (congrArg some (by kernel_rfl))
 t0 := Tryz.underlying0
 a0 := Tryz.isAgg0
 z0 := Tryz.sizeOf0
 v0 := Tryz.zeroValue0
 t3 := Tryz.underlying3
 a3 := Tryz.isAgg3
 z3 := Tryz.sizeOf3
 v3 := Tryz.zeroValue3
 t9 := Tryz.underlying9
 a9 := Tryz.isAgg9
 z9 := Tryz.sizeOf9
 v9 := Tryz.zeroValue9
 t37 := Tryz.underlying43
 a37 := Tryz.isAgg43
 z37 := Tryz.sizeOf43
 v37 := Tryz.zeroValue43
 t70 := Tryz.underlying122
 a70 := Tryz.isAgg122
 z70 := Tryz.sizeOf122
 v70 := Tryz.zeroValue122
 t72 := Tryz.underlying124
 a72 := Tryz.isAgg124
 z72 := Tryz.sizeOf124
 v72 := Tryz.zeroValue124
 t127 := Tryz.underlying111
 a127 := Tryz.isAgg111
 z127 := Tryz.sizeOf111
 v127 := Tryz.zeroValue111 }
theorem Sh.Builder_Extra_169 : Builder.Extra Tryz.prog Sh.lays169_ren := {
 sizeBuilder := by kernel_rfl
 liesBuilder := by kernel_rfl
 t5 := Tryz.underlying5
 a5 := Tryz.isAgg5
 z5 := Tryz.sizeOf5
 v5 := Tryz.zeroValue5
 infoByte := by kernel_rfl
 cellsByte := by kernel_rfl
 sizeByte := by kernel_rfl
 neB5 := by decide }
def Sh.lays165_ren : Go.Shelf.Ren := ⟨fun | 165 => 110 | 240 => 135 | 241 => 136 | 276 => 158 | 277 => 159 | n => n, fun | 70 => 122 | 3 => 3 | 0 => 0 | 4 => 4 | 9 => 9 | 20 => 20 | 72 => 124 | 37 => 43 | 164 => 157 | 5 => 5 | n => n, fun | n => n⟩
theorem Sh.lays165 : Go.Proofs.Lays.n165 Tryz.prog Sh.lays165_ren := {
 mixed := by kernel_rfl
 f165 := Tryz.func110.trans (congrArg some (by kernel_rfl))
 f240 := Tryz.func135.trans (congrArg some (by kernel_rfl))
 f241 := Tryz.func136.trans (congrArg some (by kernel_rfl))
 f276 := Tryz.func158.trans (congrArg some (by kernel_rfl))
 f277 := Tryz.func159.trans (congrArg some (by kernel_rfl))
 t0 := Tryz.underlying0
 a0 := Tryz.isAgg0
 z0 := Tryz.sizeOf0
 v0 := Tryz.zeroValue0
 t3 := Tryz.underlying3
 a3 := Tryz.isAgg3
 z3 := Tryz.sizeOf3
 v3 := Tryz.zeroValue3
 t4 := Tryz.underlying4
 a4 := Tryz.isAgg4
 z4 := Tryz.sizeOf4
 v4 := Tryz.zeroValue4
 t9 := Tryz.underlying9
 a9 := Tryz.isAgg9
 z9 := Tryz.sizeOf9
 v9 := Tryz.zeroValue9
 t20 := Tryz.underlying20
 a20 := Tryz.isAgg20
 z20 := Tryz.sizeOf20
 v20 := Tryz.zeroValue20
 t37 := Tryz.underlying43
 a37 := Tryz.isAgg43
 z37 := Tryz.sizeOf43
 v37 := Tryz.zeroValue43
 t70 := Tryz.underlying122
 a70 := Tryz.isAgg122
 z70 := Tryz.sizeOf122
 v70 := Tryz.zeroValue122
 t72 := Tryz.underlying124
 a72 := Tryz.isAgg124
 z72 := Tryz.sizeOf124
 v72 := Tryz.zeroValue124
 t164 := Tryz.underlying157
 a164 := Tryz.isAgg157
 z164 := Tryz.sizeOf157
 v164 := Tryz.zeroValue157 }
theorem Sh.Builder_Extra_165 : Builder.Extra Tryz.prog Sh.lays165_ren := {
 sizeBuilder := by kernel_rfl
 liesBuilder := by kernel_rfl
 t5 := Tryz.underlying5
 a5 := Tryz.isAgg5
 z5 := Tryz.sizeOf5
 v5 := Tryz.zeroValue5
 infoByte := by kernel_rfl
 cellsByte := by kernel_rfl
 sizeByte := by kernel_rfl
 neB5 := by decide }
open Go.RowKit in
theorem Sh.Builder_Grow_fresh (B b n : Nat) (w : World) (hB : B ≤ b) (hbk : w.heap[b]? = some (.cells #[.pointer none, .slice none 0 0] 124 (0, 0))) (hBw : B ≤ w.heap.size) (hn : n ≤ 281474976710656) :
  Calls Tryz.prog 110 #[.pointer (some ⟨b, 0, none⟩), .int .i64 n] w fun e w' => e = .returned (.tuple #[]) ∧ (Lib.BuilderAt 124 5 B b (.pointer (some ⟨b, 0, none⟩)) [] w' ∧ Below B w w') := Any.Builder_Grow_fresh Sh.lays165 Sh.Builder_Extra_165 B b n w hB hbk hBw hn
open Go.RowKit in
theorem Sh.Builder_String_any_k (B b : Nat) (l : List UInt8) (w : World) (h : Lib.IsBuilderF 124 5 B b (Lib.byteCells l) w) (hBw : B ≤ w.heap.size) :
  Calls Tryz.prog 114 #[.pointer (some ⟨b, 0, none⟩)] w fun e w' => e = .returned (.string ⟨l.toArray⟩) ∧ (Lib.IsBuilderF 124 5 B b (Lib.byteCells l) w' ∧ Below B w w' ∧ Lib.OthersKept 5 (some b) w w') := Any.Builder_String_any_k Sh.lays169 Sh.Builder_Extra_169 B b l w h hBw
def Sh.lays166_ren : Go.Shelf.Ren := ⟨fun | 166 => 113 | 240 => 135 | 276 => 158 | n => n, fun | 70 => 122 | 3 => 3 | 0 => 0 | 4 => 4 | 9 => 9 | 20 => 20 | 72 => 124 | 37 => 43 | 164 => 157 | 5 => 5 | 75 => 128 | 80 => 132 | n => n, fun | n => n⟩
theorem Sh.lays166 : Go.Proofs.Lays.n166 Tryz.prog Sh.lays166_ren := {
 mixed := by kernel_rfl
 f166 := Tryz.func113.trans (congrArg some (by kernel_rfl))
 f240 := Tryz.func135.trans (congrArg some (by kernel_rfl))
 f276 := Tryz.func158.trans (congrArg some (by kernel_rfl))
 t0 := Tryz.underlying0
 a0 := Tryz.isAgg0
 z0 := Tryz.sizeOf0
 v0 := Tryz.zeroValue0
 t3 := Tryz.underlying3
 a3 := Tryz.isAgg3
 z3 := Tryz.sizeOf3
 v3 := Tryz.zeroValue3
 t4 := Tryz.underlying4
 a4 := Tryz.isAgg4
 z4 := Tryz.sizeOf4
 v4 := Tryz.zeroValue4
 t9 := Tryz.underlying9
 a9 := Tryz.isAgg9
 z9 := Tryz.sizeOf9
 v9 := Tryz.zeroValue9
 t20 := Tryz.underlying20
 a20 := Tryz.isAgg20
 z20 := Tryz.sizeOf20
 v20 := Tryz.zeroValue20
 t37 := Tryz.underlying43
 a37 := Tryz.isAgg43
 z37 := Tryz.sizeOf43
 v37 := Tryz.zeroValue43
 t70 := Tryz.underlying122
 a70 := Tryz.isAgg122
 z70 := Tryz.sizeOf122
 v70 := Tryz.zeroValue122
 t72 := Tryz.underlying124
 a72 := Tryz.isAgg124
 z72 := Tryz.sizeOf124
 v72 := Tryz.zeroValue124
 t75 := Tryz.underlying128
 a75 := Tryz.isAgg128
 z75 := Tryz.sizeOf128
 v75 := Tryz.zeroValue128
 t164 := Tryz.underlying157
 a164 := Tryz.isAgg157
 z164 := Tryz.sizeOf157
 v164 := Tryz.zeroValue157 }
theorem Sh.Builder_Extra_166 : Builder.Extra Tryz.prog Sh.lays166_ren := {
 sizeBuilder := by kernel_rfl
 liesBuilder := by kernel_rfl
 t5 := Tryz.underlying5
 a5 := Tryz.isAgg5
 z5 := Tryz.sizeOf5
 v5 := Tryz.zeroValue5
 infoByte := by kernel_rfl
 cellsByte := by kernel_rfl
 sizeByte := by kernel_rfl
 neB5 := by decide }
open Go.RowKit in
theorem Sh.Builder_WriteString_k (B b : Nat) (bs : List Value) (s : ByteArray) (w : World) (h : Lib.IsBuilderF 124 5 B b bs w) (hlen : bs.length + s.size ≤ 140737488355328) (hBw : B ≤ w.heap.size) :
  Calls Tryz.prog 113 #[.pointer (some ⟨b, 0, none⟩), .string s] w fun e w' => e = .returned (.tuple #[.int .i64 s.size, .nilIface]) ∧ (Lib.BuilderAtF 124 5 B b (.pointer (some ⟨b, 0, none⟩)) (bs ++ Lib.strCells s) w' ∧ Below B w w' ∧ Lib.OthersKept 5 (some b) w w') := Any.Builder_WriteString_k Sh.lays166 Sh.Builder_Extra_166 B b bs s w h hlen hBw
def Sh.lays167_ren : Go.Shelf.Ren := ⟨fun | 167 => 112 | 240 => 135 | 276 => 158 | n => n, fun | 70 => 122 | 3 => 3 | 0 => 0 | 4 => 4 | 9 => 9 | 20 => 20 | 72 => 124 | 37 => 43 | 164 => 157 | 5 => 5 | 75 => 128 | 80 => 132 | n => n, fun | n => n⟩
theorem Sh.lays167 : Go.Proofs.Lays.n167 Tryz.prog Sh.lays167_ren := {
 mixed := by kernel_rfl
 f167 := Tryz.func112.trans (congrArg some (by kernel_rfl))
 f240 := Tryz.func135.trans (congrArg some (by kernel_rfl))
 f276 := Tryz.func158.trans (congrArg some (by kernel_rfl))
 t0 := Tryz.underlying0
 a0 := Tryz.isAgg0
 z0 := Tryz.sizeOf0
 v0 := Tryz.zeroValue0
 t4 := Tryz.underlying4
 a4 := Tryz.isAgg4
 z4 := Tryz.sizeOf4
 v4 := Tryz.zeroValue4
 t5 := Tryz.underlying5
 a5 := Tryz.isAgg5
 z5 := Tryz.sizeOf5
 v5 := Tryz.zeroValue5
 t9 := Tryz.underlying9
 a9 := Tryz.isAgg9
 z9 := Tryz.sizeOf9
 v9 := Tryz.zeroValue9
 t20 := Tryz.underlying20
 a20 := Tryz.isAgg20
 z20 := Tryz.sizeOf20
 v20 := Tryz.zeroValue20
 t37 := Tryz.underlying43
 a37 := Tryz.isAgg43
 z37 := Tryz.sizeOf43
 v37 := Tryz.zeroValue43
 t70 := Tryz.underlying122
 a70 := Tryz.isAgg122
 z70 := Tryz.sizeOf122
 v70 := Tryz.zeroValue122
 t72 := Tryz.underlying124
 a72 := Tryz.isAgg124
 z72 := Tryz.sizeOf124
 v72 := Tryz.zeroValue124
 t75 := Tryz.underlying128
 a75 := Tryz.isAgg128
 z75 := Tryz.sizeOf128
 v75 := Tryz.zeroValue128
 t164 := Tryz.underlying157
 a164 := Tryz.isAgg157
 z164 := Tryz.sizeOf157
 v164 := Tryz.zeroValue157 }
theorem Sh.Builder_Extra_167 : Builder.Extra Tryz.prog Sh.lays167_ren := {
 sizeBuilder := by kernel_rfl
 liesBuilder := by kernel_rfl
 t5 := Tryz.underlying5
 a5 := Tryz.isAgg5
 z5 := Tryz.sizeOf5
 v5 := Tryz.zeroValue5
 infoByte := by kernel_rfl
 cellsByte := by kernel_rfl
 sizeByte := by kernel_rfl
 neB5 := by decide }
open Go.RowKit in
theorem Sh.Builder_WriteByte_k (B b : Nat) (bs : List Value) (c : Int) (w : World) (h : Lib.IsBuilderF 124 5 B b bs w) (hlen : bs.length + 1 ≤ 140737488355328) (hBw : B ≤ w.heap.size) :
  Calls Tryz.prog 112 #[.pointer (some ⟨b, 0, none⟩), .int .u8 c] w fun e w' => e = .returned .nilIface ∧ (Lib.BuilderAtF 124 5 B b (.pointer (some ⟨b, 0, none⟩)) (bs ++ [.int .u8 c]) w' ∧ Below B w w' ∧ Lib.OthersKept 5 (some b) w w') := Any.Builder_WriteByte_k Sh.lays167 Sh.Builder_Extra_167 B b bs c w h hlen hBw
def Sh.lays99_ren : Go.Shelf.Ren := ⟨fun | 99 => 137 | 206 => 160 | n => n, fun | 9 => 9 | 3 => 3 | 4 => 4 | n => n, fun | n => n⟩
theorem Sh.lays99 : Go.Proofs.Lays.n99 Tryz.prog Sh.lays99_ren := {
 mixed := by kernel_rfl
 f99 := Tryz.func137.trans (congrArg some (by kernel_rfl))
 f206 := Tryz.func160.trans (congrArg some (by kernel_rfl))
 t3 := Tryz.underlying3
 a3 := Tryz.isAgg3
 z3 := Tryz.sizeOf3
 v3 := Tryz.zeroValue3
 t4 := Tryz.underlying4
 a4 := Tryz.isAgg4
 z4 := Tryz.sizeOf4
 v4 := Tryz.zeroValue4
 t9 := Tryz.underlying9
 a9 := Tryz.isAgg9
 z9 := Tryz.sizeOf9
 v9 := Tryz.zeroValue9 }
open Go.RowKit in
theorem Sh.strings_HasPrefix (s p : ByteArray) (w : World) :
  Calls Tryz.prog 137 #[.string s, .string p] w fun e w' => e = .returned (.bool (Lib.hasPrefix s.data.toList p.data.toList)) ∧ w' = w := Any.strings_HasPrefix Sh.lays99 s p w
theorem Wk.rest_data (s : ByteArray) (k : Nat) : (s.extract k s.size).data.toList = s.data.toList.drop k := by
 rw [Lib.extract_data, List.take_of_length_le]
 rw [List.length_drop, Array.length_toList]
 exact Nat.le_refl _
theorem Wk.len_data (s : ByteArray) : s.data.toList.length = s.size := by rw [Array.length_toList]; rfl
theorem Wk.ret_bool {a b : Bool} (h : a = b) : Ending.returned (.bool a) = .returned (.bool b) := by rw [h]
theorem Wk.below_step {w wr w1 : World} (h : Below w.heap.size w wr) (h1 : Below wr.heap.size wr w1) : Below w.heap.size w w1 := h.trans (h1.mono h.size)
theorem Wk.info5 : (Tryz.prog.info? 5).map (fun i => (i.zero, i.size, i.bytes)) = some (some (.int .u8 0), 1, 1) := by kernel_rfl
theorem Wk.low (c : UInt8) (w : World) :
  Calls Tryz.prog 173 #[.int .u8 c.toNat] w fun e w' => e = .returned (.int .u8 (Pl.lowB c).toNat) ∧ w' = w := by
 have hc := c.toNat_lt
 have hl := Pl.lowB_toNat c
 generalize (Pl.lowB c).toNat = m at *
 generalize c.toNat = k at *
 by_cases h1 : 65 ≤ k
 ·
  by_cases h2 : k ≤ 90
  ·
   rw [if_pos ⟨h1, h2⟩] at hl
   subst hl
   go_enter Tryz.func173, Tryz.ntmps173
   go_wp2
   go_ret
   exact ⟨by simp, rfl⟩
  ·
   rw [if_neg (by omega)] at hl
   subst hl
   go_enter Tryz.func173, Tryz.ntmps173
   go_wp2
   go_ret
   exact ⟨rfl, rfl⟩
 ·
  rw [if_neg (by omega)] at hl
  subst hl
  go_enter Tryz.func173, Tryz.ntmps173
  go_wp2
  go_ret
  exact ⟨rfl, rfl⟩
theorem Wk.atF_below {T e : TypeId} {B b : Nat} {p : Value} {bs : List Value} {W W' : World} (h : Lib.BuilderAtF T e B b p bs W) (hb : Below W.heap.size W W') : Lib.BuilderAtF T e B b p bs W' := by
 have hlt := h.lt
 obtain ⟨hB, v, hv, hown, hne⟩ := h
 exact ⟨hB, v, (hb.block b hlt).trans hv, hown.kept (row := none) ⟨hb.os, hb.tape, hb.output, hb.size, fun k hk _ => hb.block k hk⟩ (Classical.em _), hne⟩
theorem Wk.isF_below {T e : TypeId} {B b : Nat} {bs : List Value} {W W' : World} (h : Lib.IsBuilderF T e B b bs W) (hb : Below W.heap.size W W') : Lib.IsBuilderF T e B b bs W' :=
 h.elim (fun x => .inl (Wk.atF_below x hb)) (fun x => .inr (Wk.atF_below x hb))
theorem Wk.run_cut (w : World) (s : ByteArray) (l h : Int) (h0 : 0 ≤ l) (h1 : l ≤ h) (h2 : h ≤ s.size) :
  (Instr.slice 9 (.string s) (some (.int .i64 l)) (some (.int .i64 h)) none).run Tryz.prog w = .ok (.string (s.extract l.toNat h.toNat)) w := by
 have eh : (h.toNat : Int) = h := Int.toNat_of_nonneg (by omega)
 simp [Instr.slice, run_underlying Tryz.underlying9, Instr.sliceBounds, run_sliceBound, h0, h1, h2, eh, (by omega : 0 ≤ h)]
theorem Wk.ret_str {a b : List UInt8} (h : a = b) : Ending.returned (.string ⟨a.toArray⟩) = .returned (.string ⟨b.toArray⟩) := by rw [h]
def Wk.half (l : List UInt8) (k : Nat) : List Value := Lib.byteCells (Pl.lowL (l.take k)) ++ List.replicate (l.length - k) (.int .u8 0)
theorem Wk.half_zero (l : List UInt8) : Wk.half l 0 = List.replicate l.length (.int .u8 0) := by simp [Wk.half, Lib.byteCells, Pl.lowL]
theorem Wk.half_all (l : List UInt8) : Wk.half l l.length = Lib.byteCells (Pl.lowL l) := by simp [Wk.half]
theorem Wk.half_len (l : List UInt8) (k : Nat) (h : k < l.length) : (Lib.byteCells (Pl.lowL (l.take k))).length = k := by
 rw [Lib.byteCells_length, Pl.low_length, List.length_take]; omega
theorem Wk.half_get (l : List UInt8) (k : Nat) (h : k < l.length) : (Wk.half l k)[k]? = some (.int .u8 0) := by
 have hl := Wk.half_len l k h
 rw [Wk.half, List.getElem?_append_right (by omega), hl, Nat.sub_self, List.getElem?_replicate, if_pos (by omega)]
theorem Wk.half_set (l : List UInt8) (k : Nat) (h : k < l.length) : (Wk.half l k).set k (.int .u8 (Pl.lowB l[k]).toNat) = Wk.half l (k + 1) := by
 have hl := Wk.half_len l k h
 unfold Wk.half
 rw [List.set_append_right _ _ (by omega), hl, Nat.sub_self, show l.length - k = (l.length - (k + 1)) + 1 by omega, List.replicate_succ, List.set_cons_zero, List.take_succ_eq_append_getElem h]
 simp only [Lib.byteCells, Pl.lowL, List.map_append, List.map_cons, List.map_nil, List.append_assoc, List.cons_append, List.nil_append]
set_option maxHeartbeats 1000000 in
theorem Wk.lower (s : ByteArray) (w : World) (hs : s.size ≤ 281474976710656) :
  Calls Tryz.prog 157 #[.string s] w fun e w' => e = .returned (.string ⟨(Pl.lowL s.data.toList).toArray⟩) ∧ Below w.heap.size w w' := by
 obtain ⟨i0, hi, hz0, hz1, hz2⟩ := info_parts Wk.info5
 have hmk : ∀ u : World, (Instr.makeSlice 43 (.int .i64 (s.size : Int)) (.int .i64 (s.size : Int))).run Tryz.prog u =
   .ok (.slice (some ⟨u.heap.size, 0, none⟩) s.size s.size) (u.alloc (.cells (madeCells #[.int .u8 0] s.size) 5)) := fun u => by
  have h := run_make (P := Tryz.prog) u 43 5 i0 (.int .u8 0) Tryz.underlying43 hi hz0 .i64 .i64 (s.size : Int) (s.size : Int) (by omega) (Int.le_refl _) (by rw [hz2]; omega) (by omega)
  simpa [hz1, Value.cells] using h
 have h0 : (w.alloc (.cells (madeCells #[.int .u8 0] s.size) 5)).ownsRow w.heap.size 5 1 (.slice (some ⟨w.heap.size, 0, none⟩) s.size s.size) s.size (Wk.half s.data.toList 0) := by
  have := World.ownsRow_lit (e := 5) (size := 1) w (madeCells #[.int .u8 0] s.size) s.size (Nat.le_refl _) (by unfold maxLen; omega) (by simp [size_madeCells])
  rw [toList_madeCells_one] at this
  rw [Wk.half_zero, Wk.len_data]
  exact this
 go_enter Tryz.func157, Tryz.ntmps157
 go_wp2
 go_loopw [10] (fun i wr => ∃ k : Nat, k ≤ s.size ∧ i = .int .i64 k ∧ wr.ownsRow w.heap.size 5 1 (.slice (some ⟨w.heap.size, 0, none⟩) s.size s.size) s.size (Wk.half s.data.toList k) ∧ Below w.heap.size w wr) (fun i _ => s.size - (intOf i).toNat)
 case atStart => exact ⟨0, Nat.zero_le _, rfl, h0, (Below.refl _ _).alloc (Nat.le_refl _) _⟩
 case round =>
  clear h0 hmk
  obtain ⟨k, hk, rfl, hown, hb⟩ := hrel
  by_cases hlt : k < s.size
  ·
   have hlt' : k < s.data.toList.length := by rw [Wk.len_data]; exact hlt
   have hcell : wr.cell? ⟨w.heap.size, k, none⟩ = some (.int .u8 0) := by
    rw [hown.cellAt k (by omega), Wk.half_get _ _ hlt']
   have hfz : wr.frozen? ⟨w.heap.size, k, none⟩ = false := hown.frozenAt k
   have hst := hown.stored k (.int .u8 (Pl.lowB s[k]).toNat)
   have hset : (Wk.half s.data.toList k).set k (.int .u8 (Pl.lowB s[k]).toNat) = Wk.half s.data.toList (k + 1) := Wk.half_set _ _ hlt'
   rw [hset] at hst
   clear hset
   have hsz := hb.size
   go_wp2_with (go_at_call 173; refine (Wk.low _ _).mono ?_; rintro e w' ⟨rfl, rfl⟩)
   go_roundw
   case rel => exact ⟨k + 1, by omega, by go_num, hst.1, hb.setCell (Nat.le_refl _) _⟩
   case measure => simp [intOf]; omega
  ·
   have hke : k = s.size := by omega
   have hl : (Pl.lowL s.data.toList).length = s.size := by rw [Pl.low_length, Wk.len_data]
   have hconv : (convert 43 9 (.slice (some ⟨w.heap.size, 0, none⟩) s.size s.size)).run Tryz.prog wr = .ok (.string ⟨(Pl.lowL s.data.toList).toArray⟩) wr := by
    have h := run_convert_bytes_back (P := Tryz.prog) wr 43 9 5 ⟨w.heap.size, 0, none⟩ s.size (Pl.lowL s.data.toList) Tryz.underlying43 Tryz.underlying5 Tryz.underlying9 (fun j hj => by
     have hj' : j < s.size := by omega
     have e : (⟨w.heap.size, 0, none⟩ : Addr).add j = ⟨w.heap.size, j, none⟩ := by rw [Addr.add_lit, Nat.zero_add]
     rw [e, hown.cellAt j (by omega), hke, ← Wk.len_data, Wk.half_all]
     simp [Lib.byteCells, hj])
    rwa [hl] at h
   clear hown hl hke
   go_wp2
   go_ret
   exact ⟨rfl, hb⟩
end Go.Proofs.YtblpkjlodncpeaaGreatDoor

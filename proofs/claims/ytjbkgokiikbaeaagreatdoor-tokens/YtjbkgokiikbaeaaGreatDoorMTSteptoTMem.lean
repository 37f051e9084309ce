/-
  THE WALKS of tok.quoted's function, of a table's step.
-/
import Derived.Test.YtjbkgokiikbaeaaGreatDoorTRowA
import Derived.Deep.RegionHeld
import Derived.Test.YtjbkgokiikbaeaaGreatDoorTRowB
import Derived.Test.YtjbkgokiikbaeaaGreatDoorTRowE
import Derived.Great.BuildSlice
import Derived.Deep.MidRow
import Derived.Laws.AppendOwn
import Derived.Laws.OwnMore
import Derived.Deep.RegionLaw
namespace Go.Proofs.YtjbkgokiikbaeaaGreatDoor
open Go.RowKit
set_option maxHeartbeats 1000000 in
theorem Tp.stepAt (s : Ts) (c : UInt8) (w : World) (g off k : Nat) (hk : s.pl = (k : Int)) (hk23 : k < 23) (hg : g < w.heap.size) (f : Nat) (lb : Array Value) (ef : ∀ args w, (callFunc f args).run Tryz.prog w = .ok (.enter f args) w)
    (hc : w.cell? ⟨g, off + k, none⟩ = some (.func (.func f) #[] lb)) (X : Ts)
    (hX : ∀ u, Below w.heap.size w u → Calls Tryz.prog f (#[.agg #[.int .i64 (s.to k).pl, .string (s.to k).name, .bool (s.to k).fin, .string (s.to k).attr, .string (s.to k).held, .int .i64 (s.to k).read], .int .u8 c.toNat] ++ lb) u fun e w' => e = .returned (.agg #[.int .i64 X.pl, .string X.name, .bool X.fin, .string X.attr, .string X.held, .int .i64 X.read]) ∧ Below u.heap.size u w') :
    Calls Tryz.prog 23 #[.pointer (some ⟨g, off, none⟩), .agg #[.int .i64 s.pl, .string s.name, .bool s.fin, .string s.attr, .string s.held, .int .i64 s.read], .int .u8 c.toNat] w fun e w' => e = .returned (.agg #[.int .i64 X.pl, .string X.name, .bool X.fin, .string X.attr, .string X.held, .int .i64 X.read]) ∧ Below w.heap.size w w' := by
  obtain ⟨p, n, fi, a, h, r⟩ := s
  simp only at hk ⊢
  subst hk
  have t1 : decide ((k : Int) < 0) = false := decide_eq_false (by omega)
  have t2 : decide ((23 : Int) ≤ (k : Int)) = false := decide_eq_false (by omega)
  have hT := Tp.to ⟨k, n, fi, a, h, r⟩ k
  simp only at hT
  generalize Ts.to ⟨k, n, fi, a, h, r⟩ k = Y at *
  go_enter Tryz.func23, Tryz.ntmps23
  go_wp2
  have hne : w.heap.size ≠ g := by omega
  have hne1 : w.heap.size + 1 ≠ g := by omega
  obtain ⟨W, hW⟩ : ∃ W, (w.alloc (.cells #[.int .i64 (k : Int), .string n, .bool fi, .string a, .string h, .int .i64 r] 23)).alloc (.cells #[.int .i64 0, .string ⟨#[]⟩, .bool false, .string ⟨#[]⟩, .string ⟨#[]⟩, .int .i64 0] 23) = W := ⟨_, rfl⟩
  rw [hW]
  have hbW : Below w.heap.size w W := by rw [← hW]; exact Tp.two _ _ _
  have hsW : W.heap.size = w.heap.size + 1 + 1 := by rw [← hW]; simp
  have k0 : W.cell? ⟨w.heap.size, 0, none⟩ = some (.int .i64 (k : Int)) := by rw [← hW]; simp
  have k1 : W.cell? ⟨w.heap.size, 1, none⟩ = some (.string n) := by rw [← hW]; simp
  have k2 : W.cell? ⟨w.heap.size, 2, none⟩ = some (.bool fi) := by rw [← hW]; simp
  have k3 : W.cell? ⟨w.heap.size, 3, none⟩ = some (.string a) := by rw [← hW]; simp
  have k4 : W.cell? ⟨w.heap.size, 4, none⟩ = some (.string h) := by rw [← hW]; simp
  have k5 : W.cell? ⟨w.heap.size, 5, none⟩ = some (.int .i64 r) := by rw [← hW]; simp
  have z0 : W.cell? ⟨w.heap.size + 1, 0, none⟩ = some (.int .i64 0) := by rw [← hW]; simp
  have z1 : W.cell? ⟨w.heap.size + 1, 1, none⟩ = some (.string ⟨#[]⟩) := by rw [← hW]; simp
  have z2 : W.cell? ⟨w.heap.size + 1, 2, none⟩ = some (.bool false) := by rw [← hW]; simp
  have z3 : W.cell? ⟨w.heap.size + 1, 3, none⟩ = some (.string ⟨#[]⟩) := by rw [← hW]; simp
  have z4 : W.cell? ⟨w.heap.size + 1, 4, none⟩ = some (.string ⟨#[]⟩) := by rw [← hW]; simp
  have z5 : W.cell? ⟨w.heap.size + 1, 5, none⟩ = some (.int .i64 0) := by rw [← hW]; simp
  have zf : ∀ i, W.frozen? ⟨w.heap.size + 1, i, none⟩ = false := fun i => by rw [← hW]; simp
  have kc : W.cell? ⟨g, off + k, none⟩ = some (.func (.func f) #[] lb) := (hbW.cell (p := ⟨g, off + k, none⟩) hg).trans hc
  clear hW hc
  have HX := Lib.hid hX
  clear hX
  go_region_held (fun u => u.cell? ⟨w.heap.size, 0, none⟩ = some (.int .i64 (k : Int)) ∧ u.cell? ⟨w.heap.size, 1, none⟩ = some (.string n) ∧ u.cell? ⟨w.heap.size, 2, none⟩ = some (.bool fi) ∧ u.cell? ⟨w.heap.size, 3, none⟩ = some (.string a) ∧ u.cell? ⟨w.heap.size, 4, none⟩ = some (.string h) ∧ u.cell? ⟨w.heap.size, 5, none⟩ = some (.int .i64 r) ∧ u.cell? ⟨g, off + k, none⟩ = some (.func (.func f) #[] lb)) (go_keep) (first | (go_at_call 67; refine (hT _).mono ?_; rintro e w1 ⟨rfl, hb1⟩; go_loud (have k0' := Tp.keep hb1 k0; have k1' := Tp.keep hb1 k1; have k2' := Tp.keep hb1 k2; have k3' := Tp.keep hb1 k3; have k4' := Tp.keep hb1 k4; have k5' := Tp.keep hb1 k5; have kc' := Tp.keep hb1 kc; have z0' := Tp.keep hb1 z0; have z1' := Tp.keep hb1 z1; have z2' := Tp.keep hb1 z2; have z3' := Tp.keep hb1 z3; have z4' := Tp.keep hb1 z4; have z5' := Tp.keep hb1 z5; have zf' := Tp.keepF hb1 (by simp; omega) zf; have hs1 := hb1.size; simp at hs1; have q1 : Below w.heap.size w w1 := hbW.trans (Below.trans (by exact (Below.refl _ _).drew) (hb1.mono (by simp; omega))); clear hb1 zf hT k0 k1 k2 k3 k4 k5 kc z0 z1 z2 z3 z4 z5)) | (go_at_fn f; refine (HX.out _ q1).mono ?_; rintro e w2 ⟨rfl, hb2⟩; go_loud (have k0'' := Tp.keep hb2 k0'; have k1'' := Tp.keep hb2 k1'; have k2'' := Tp.keep hb2 k2'; have k3'' := Tp.keep hb2 k3'; have k4'' := Tp.keep hb2 k4'; have k5'' := Tp.keep hb2 k5'; have kc'' := Tp.keep hb2 kc'; have z0'' := Tp.keep hb2 z0'; have z1'' := Tp.keep hb2 z1'; have z2'' := Tp.keep hb2 z2'; have z3'' := Tp.keep hb2 z3'; have z4'' := Tp.keep hb2 z4'; have z5'' := Tp.keep hb2 z5'; have zf'' := Tp.keepF hb2 (by omega) zf'; have hs2 := hb2.size; have q2 : Below w.heap.size w w2 := q1.trans (hb2.mono (by omega)); clear hb2 zf' k0' k1' k2' k3' k4' k5' kc' z0' z1' z2' z3' z4' z5')))
  all_goals go_wp2
  all_goals refine bodyPost_ret (v := .agg #[.int .i64 X.pl, .string X.name, .bool X.fin, .string X.attr, .string X.held, .int .i64 X.read]) (by simp [results, Tryz.results23, go_sem, *]) rfl ⟨rfl, ?_⟩
  all_goals repeat (refine Below.setCell ?_ (by simp) _)
  all_goals exact q2
theorem Tp.stepOut (s : Ts) (c : UInt8) (w : World) (g off : Nat) (hk : s.pl < 0 ∨ 23 ≤ s.pl) :
    Calls Tryz.prog 23 #[.pointer (some ⟨g, off, none⟩), .agg #[.int .i64 s.pl, .string s.name, .bool s.fin, .string s.attr, .string s.held, .int .i64 s.read], .int .u8 c.toNat] w fun e w' => e = .returned (.agg #[.int .i64 s.pl, .string s.name, .bool s.fin, .string s.attr, .string s.held, .int .i64 s.read]) ∧ Below w.heap.size w w' := by
  by_cases h : s.pl < 0
  · have t1 : decide (s.pl < 0) = true := decide_eq_true h
    clear h hk
    go_enter Tryz.func23, Tryz.ntmps23
    go_wp2
    exact bodyPost_ret (v := .agg #[.int .i64 s.pl, .string s.name, .bool s.fin, .string s.attr, .string s.held, .int .i64 s.read]) (by simp [results, Tryz.results23, go_sem]) rfl ⟨rfl, Tp.two _ _ _⟩
  · have t1 : decide (s.pl < 0) = false := decide_eq_false h
    have t2 : decide (23 ≤ s.pl) = true := decide_eq_true (by omega)
    clear h hk
    go_enter Tryz.func23, Tryz.ntmps23
    go_wp2
    exact bodyPost_ret (v := .agg #[.int .i64 s.pl, .string s.name, .bool s.fin, .string s.attr, .string s.held, .int .i64 s.read]) (by simp [results, Tryz.results23, go_sem]) rfl ⟨rfl, Tp.two _ _ _⟩
/-- tok.quoted's own function -/
theorem Tp.quoted1 (q : UInt8) (s : Ts) (c : UInt8) (B : Nat) (w : World) (hB : B < w.heap.size) (hq : w.cell? ⟨B, 0, none⟩ = some (.int .u8 q.toNat)) :
    Calls Tryz.prog 94 #[.agg #[.int .i64 s.pl, .string s.name, .bool s.fin, .string s.attr, .string s.held, .int .i64 s.read], .int .u8 c.toNat, .pointer (some ⟨B, 0, none⟩)] w fun e w' => e = .returned (.agg #[.int .i64 (Ts.quoted q s c).pl, .string (Ts.quoted q s c).name, .bool (Ts.quoted q s c).fin, .string (Ts.quoted q s c).attr, .string (Ts.quoted q s c).held, .int .i64 (Ts.quoted q s c).read]) ∧ Below w.heap.size w w' := by
  have hn0 : w.heap.size ≠ B := by omega
  have hn1 : w.heap.size + 1 ≠ B := by omega
  have hn2 : B ≠ w.heap.size := by omega
  have hn3 : B ≠ w.heap.size + 1 := by omega
  by_cases h : c = q
  · have t : ((c.toNat : Int) == (q.toNat : Int)) = true := Tp.eq_true h
    have HX := Lib.hid (show Ts.quoted q s c = s.to 11 by unfold Ts.quoted; rw [if_pos h])
    clear h
    go_enter Tryz.func94, Tryz.ntmps94
    go_wp2_with (go_at_call 67; refine (Tp.to s _ _).mono ?_; rintro e w1 ⟨rfl, hb1⟩; have b0 := Tp.keep hb1 (b := w.heap.size + 1) (o := 0) (v := .int .i64 0) (by simp); have b1 := Tp.keep hb1 (b := w.heap.size + 1) (o := 1) (v := .string ⟨#[]⟩) (by simp); have b2 := Tp.keep hb1 (b := w.heap.size + 1) (o := 2) (v := .bool false) (by simp); have b3 := Tp.keep hb1 (b := w.heap.size + 1) (o := 3) (v := .string ⟨#[]⟩) (by simp); have b4 := Tp.keep hb1 (b := w.heap.size + 1) (o := 4) (v := .string ⟨#[]⟩) (by simp); have b5 := Tp.keep hb1 (b := w.heap.size + 1) (o := 5) (v := .int .i64 0) (by simp); have bf := Tp.keepF hb1 (b := w.heap.size + 1) (by simp) (fun i => by simp); have q1 : Below w.heap.size w w1 := (Tp.two _ _ _).trans (hb1.mono (by simp; omega)); clear hb1)
    refine bodyPost_ret (v := .agg #[.int .i64 (s.to 11).pl, .string (s.to 11).name, .bool (s.to 11).fin, .string (s.to 11).attr, .string (s.to 11).held, .int .i64 (s.to 11).read]) (by simp [results, Tryz.results94, go_sem, *]) rfl ⟨Tp.ret HX.out.symm, ?_⟩
    repeat (refine Below.setCell ?_ (by simp) _)
    exact q1
  · have t : ((c.toNat : Int) == (q.toNat : Int)) = false := Tp.eq_false h
    have HX := Lib.hid (show Ts.quoted q s c = s by unfold Ts.quoted; rw [if_neg h])
    clear h
    go_enter Tryz.func94, Tryz.ntmps94
    go_wp2
    exact bodyPost_ret (v := .agg #[.int .i64 s.pl, .string s.name, .bool s.fin, .string s.attr, .string s.held, .int .i64 s.read]) (by simp [results, Tryz.results94, go_sem]) rfl ⟨Tp.ret HX.out.symm, Tp.two _ _ _⟩
end Go.Proofs.YtjbkgokiikbaeaaGreatDoor
/-
  THE WALKS of tok.steppers, tok.Step, tok.Start: the table of functions in memory.
-/
namespace Go.Proofs.YtjbkgokiikbaeaaGreatDoor
open Go.RowKit
def Tp.quote (B : Nat) : Value := .func (.func 94) #[] #[.pointer (some ⟨B, 0, none⟩)]
def Tp.fn (f : Nat) : Value := .func (.func f) #[] #[]
/-- the table's functions, the quotes' variables at B and C -/
def Tp.table (B C : Nat) : Array Value := #[Tp.fn 45, Tp.fn 46, Tp.fn 47, Tp.fn 48, Tp.fn 49, Tp.fn 50, Tp.fn 51, Tp.fn 52, Tp.quote B, Tp.quote C, Tp.fn 54, Tp.fn 55, Tp.fn 56, Tp.fn 57, Tp.fn 58, Tp.fn 59, Tp.fn 60, Tp.fn 61, Tp.fn 62, Tp.fn 63, Tp.fn 64, Tp.fn 65, Tp.fn 66]
/-- the table lies at a place of block g; the quotes in variables of their own -/
structure Tp.Table (w : World) (g off : Nat) : Prop where
  lt : g < w.heap.size
  all : ∃ B C, B < w.heap.size ∧ C < w.heap.size ∧ w.cell? ⟨B, 0, none⟩ = some (.int .u8 34) ∧ w.cell? ⟨C, 0, none⟩ = some (.int .u8 39) ∧ ∀ k v, (Tp.table B C)[k]? = some v → w.cell? ⟨g, off + k, none⟩ = some v

theorem Tp.quoted (q : Int) (w : World) : Calls Tryz.prog 53 #[.int .u8 q] w fun e w' => e = .returned (Tp.quote w.heap.size) ∧ w' = w.alloc (.cells #[.int .u8 q] 5) := by
  go_enter Tryz.func53, Tryz.ntmps53
  go_wp2
  go_ret
  exact ⟨rfl, rfl⟩
theorem Tp.setCells {B : Nat} {a : World} (b : Nat) (hB : B ≤ b) : ∀ (vs : List Value) (o : Nat) (w : World), Below B a w → Below B a (w.setCells b o vs)
  | [], _, _, h => h
  | _ :: vs, o, _, h => Tp.setCells b hB vs (o + 1) _ (h.setCell (p := ⟨b, o, none⟩) hB _)
theorem Tp.setCells_size (b : Nat) : ∀ (vs : List Value) (o : Nat) (w : World), (w.setCells b o vs).heap.size = w.heap.size
  | [], _, _ => rfl
  | _ :: vs, o, w => by
    show ((w.setCell ⟨b, o, none⟩ _).setCells b (o + 1) vs).heap.size = _
    rw [Tp.setCells_size b vs]; simp
theorem Tp.newCell (w : World) (v : Value) (t : TypeId) {g : Nat} (hg : g = w.heap.size) : (w.alloc (.cells #[v] t)).cell? ⟨g, 0, none⟩ = some v := by subst hg; simp
theorem Tp.tableInfo : (Tryz.prog.info? 58).map (·.size) = some 23 := by kernel_rfl
theorem Tp.table_one (B C : Nat) : (Tp.table B C).all (·.oneCell') = true := by simp [Tp.table, Tp.fn, Tp.quote, Value.oneCell']
/-- what a new array of functions is -/
def Tp.none23 : Array Value := #[.nilFunc, .nilFunc, .nilFunc, .nilFunc, .nilFunc, .nilFunc, .nilFunc, .nilFunc, .nilFunc, .nilFunc, .nilFunc, .nilFunc, .nilFunc, .nilFunc, .nilFunc, .nilFunc, .nilFunc, .nilFunc, .nilFunc, .nilFunc, .nilFunc, .nilFunc, .nilFunc]
theorem Tp.there (w : World) (g : Nat) (cs : Array Value) (t : TypeId) (h : w.heap[g]? = some (.cells cs t)) (o n : Nat) (hn : o + n ≤ cs.size) : w.there g o n := by
  intro j hj
  have hlt : o + j < cs.size := by omega
  constructor
  · unfold World.cell?
    rw [h]
    simp [hlt]
  · unfold World.frozen?
    rw [h]
    simp
set_option maxHeartbeats 2000000 in
theorem Tp.steppers (w : World) : Calls Tryz.prog 22 #[] w fun e w' => ∃ B C, e = .returned (.agg (Tp.table B C)) ∧ B < w'.heap.size ∧ C < w'.heap.size ∧ w.heap.size ≤ B ∧ w.heap.size ≤ C ∧ w'.cell? ⟨B, 0, none⟩ = some (.int .u8 34) ∧ w'.cell? ⟨C, 0, none⟩ = some (.int .u8 39) ∧ Below w.heap.size w w' := by
  go_enter Tryz.func22, Tryz.ntmps22
  go_wp2_with (first | (go_at_call 53; refine (Tp.quoted _ _).mono ?_; rintro e w' ⟨rfl, rfl⟩) | refine Vm.stop 3 ?_)
  obtain ⟨W, hW⟩ : ∃ W, ((w.alloc (.cells Tp.none23 58)).alloc (.cells #[.int .u8 34] 5)).alloc (.cells #[.int .u8 39] 5) = W := ⟨_, rfl⟩
  have hsz : W.heap.size = w.heap.size + 3 := by rw [← hW]; simp
  have hbW : Below w.heap.size w W := by rw [← hW]; exact (Tp.two _ _ _).alloc (by simp; omega) _
  have c34 : W.cell? ⟨w.heap.size + 1, 0, none⟩ = some (.int .u8 34) := by
    rw [← hW]
    exact Tp.keep ((Below.refl _ _).alloc (Nat.le_refl _) _) (Tp.newCell (w.alloc _) _ _ (by simp))
  have c39 : W.cell? ⟨w.heap.size + 1 + 1, 0, none⟩ = some (.int .u8 39) := by
    rw [← hW]
    exact Tp.newCell ((w.alloc _).alloc _) _ _ (by simp)
  have hth : W.there w.heap.size 0 23 := by
    refine Tp.there W w.heap.size Tp.none23 58 ?_ 0 23 (by decide)
    rw [← hW]
    exact (Below.heap_alloc _ _ _ (by simp; omega)).trans ((Below.heap_alloc _ _ _ (by simp)).trans (heap_alloc_new w _))
  refine ⟨?_⟩
  refine wpList_buildTo rfl 58 _ rfl (some 3) rfl (Tp.table (w.heap.size + 1) (w.heap.size + 1 + 1)) (by kernel_rfl) ?_
  unfold Tp.none23 at hW
  rw [hW]
  refine wpList_store_mid rfl 58 _ _ rfl w.heap.size 0 (Tp.table (w.heap.size + 1) (w.heap.size + 1 + 1)) rfl rfl hth Tp.tableInfo (Tp.table_one _ _) ?_
  clear hW
  have hr := World.rangeAt_setCells_same W w.heap.size 0 (Tp.table (w.heap.size + 1) (w.heap.size + 1 + 1)).toList hth
  have hbS := Tp.setCells (B := w.heap.size) (a := w) w.heap.size (Nat.le_refl _) (Tp.table (w.heap.size + 1) (w.heap.size + 1 + 1)).toList 0 W hbW
  have hsS := Tp.setCells_size w.heap.size (Tp.table (w.heap.size + 1) (w.heap.size + 1 + 1)).toList 0 W
  have d34 := (World.cell?_setCells_out w.heap.size (Tp.table (w.heap.size + 1) (w.heap.size + 1 + 1)).toList 0 W ⟨w.heap.size + 1, 0, none⟩ (fun e => by have e' : w.heap.size + 1 = w.heap.size := e; omega)).trans c34
  have d39 := (World.cell?_setCells_out w.heap.size (Tp.table (w.heap.size + 1) (w.heap.size + 1 + 1)).toList 0 W ⟨w.heap.size + 1 + 1, 0, none⟩ (fun e => by have e' : w.heap.size + 1 + 1 = w.heap.size := e; omega)).trans c39
  generalize W.setCells w.heap.size 0 (Tp.table (w.heap.size + 1) (w.heap.size + 1 + 1)).toList = V at *
  have hl := run_loadVar_mid (P := Tryz.prog) V w.heap.size 0 58 _ _ hr Tryz.underlying58 rfl Tp.tableInfo
  clear hr hth c34 c39
  go_wp2
  refine bodyPost_ret (v := .agg (Tp.table (w.heap.size + 1) (w.heap.size + 1 + 1))) ?_ rfl ⟨_, _, rfl, by omega, by omega, by omega, by omega, d34, d39, hbS⟩
  simp [results, Tryz.results22, asAddr, Act.put, hl]
theorem Tp.Table.cell {w : World} {g off : Nat} (h : Tp.Table w g off) : ∃ B C, B < w.heap.size ∧ C < w.heap.size ∧ w.cell? ⟨B, 0, none⟩ = some (.int .u8 34) ∧ w.cell? ⟨C, 0, none⟩ = some (.int .u8 39) ∧ ∀ k v, (Tp.table B C)[k]? = some v → w.cell? ⟨g, off + k, none⟩ = some v := h.all
theorem Tp.Table.on {w w' : World} {g off : Nat} (h : Tp.Table w g off) (hb : Below w.heap.size w w') : Tp.Table w' g off := by
  obtain ⟨B, C, hB, hC, h1, h2, hk⟩ := h.all
  exact ⟨Nat.lt_of_lt_of_le h.lt hb.size, B, C, Nat.lt_of_lt_of_le hB hb.size, Nat.lt_of_lt_of_le hC hb.size, Tp.keep hb h1, Tp.keep hb h2, fun k v hv => Tp.keep hb (hk k v hv)⟩
end Go.Proofs.YtjbkgokiikbaeaaGreatDoor
/-
  THE WALKS of a table's step at every place, of tok.Step and tok.Start.
-/
namespace Go.Proofs.YtjbkgokiikbaeaaGreatDoor
open Go.RowKit
/-- the names of a state are no longer than a text may be -/
def Ts.Fits (s : Ts) : Prop := s.name.size ≤ maxLen ∧ s.attr.size ≤ maxLen ∧ s.held.size ≤ maxLen
theorem Ts.to_fits {s : Ts} (h : s.Fits) (a : Int) : (s.to a).Fits := by
  have e : Ts.e.size ≤ maxLen := by decide
  unfold Ts.to
  refine ⟨?_, ?_, ?_⟩
  · show (if _ then _ else _ : ByteArray).size ≤ _
    split
    · exact h.1
    · exact e
  · show (if _ then _ else _ : ByteArray).size ≤ _
    split
    · exact h.2.1
    · exact e
  · show (if _ then _ else _ : ByteArray).size ≤ _
    split
    · exact h.2.2
    · exact e
theorem Tp.step (s : Ts) (c : UInt8) (w : World) (g off : Nat) (hT : Tp.Table w g off) (hs : s.Fits) :
    Calls Tryz.prog 23 #[.pointer (some ⟨g, off, none⟩), .agg #[.int .i64 s.pl, .string s.name, .bool s.fin, .string s.attr, .string s.held, .int .i64 s.read], .int .u8 c.toNat] w fun e w' => e = .returned (.agg #[.int .i64 (s.step c).pl, .string (s.step c).name, .bool (s.step c).fin, .string (s.step c).attr, .string (s.step c).held, .int .i64 (s.step c).read]) ∧ Below w.heap.size w w' := by
  by_cases hk : s.pl < 0 ∨ 23 ≤ s.pl
  · have h := Tp.stepOut s c w g off hk
    rw [show s.step c = s by unfold Ts.step; rw [if_pos hk]]
    exact h
  obtain ⟨k, hk'⟩ : ∃ k : Nat, s.pl = (k : Int) := ⟨s.pl.toNat, by omega⟩
  have hk23 : k < 23 := by omega
  rw [show s.step c = (s.to k).at c k by unfold Ts.step; rw [if_neg hk, hk', Int.toNat_natCast]]
  obtain ⟨B, C, hB, hC, h34, h39, hc⟩ := hT.cell
  have hf := Ts.to_fits hs (k : Int)
  have hlt := hT.lt
  clear hk hs hT
  by_cases e0 : k = 0
  · subst e0
    exact Tp.stepAt s c w g off 0 hk' hk23 hlt 45 #[] (enters_of Tryz.func45 (by kernel_rfl) rfl) (hc 0 _ rfl) _ (fun u _ => Tp.data (s.to 0) c u)
  by_cases e1 : k = 1
  · subst e1
    exact Tp.stepAt s c w g off 1 hk' hk23 hlt 46 #[] (enters_of Tryz.func46 (by kernel_rfl) rfl) (hc 1 _ rfl) _ (fun u _ => Tp.tagOpen (s.to 1) c u)
  by_cases e2 : k = 2
  · subst e2
    exact Tp.stepAt s c w g off 2 hk' hk23 hlt 47 #[] (enters_of Tryz.func47 (by kernel_rfl) rfl) (hc 2 _ rfl) _ (fun u _ => Tp.endOpen (s.to 2) c u)
  by_cases e3 : k = 3
  · subst e3
    exact Tp.stepAt s c w g off 3 hk' hk23 hlt 48 #[] (enters_of Tryz.func48 (by kernel_rfl) rfl) (hc 3 _ rfl) _ (fun u _ => Tp.tagName (s.to 3) c u hf.1)
  by_cases e4 : k = 4
  · subst e4
    exact Tp.stepAt s c w g off 4 hk' hk23 hlt 49 #[] (enters_of Tryz.func49 (by kernel_rfl) rfl) (hc 4 _ rfl) _ (fun u _ => Tp.beforeAttr (s.to 4) c u)
  by_cases e5 : k = 5
  · subst e5
    exact Tp.stepAt s c w g off 5 hk' hk23 hlt 50 #[] (enters_of Tryz.func50 (by kernel_rfl) rfl) (hc 5 _ rfl) _ (fun u _ => Tp.attrName (s.to 5) c u hf.2.1)
  by_cases e6 : k = 6
  · subst e6
    exact Tp.stepAt s c w g off 6 hk' hk23 hlt 51 #[] (enters_of Tryz.func51 (by kernel_rfl) rfl) (hc 6 _ rfl) _ (fun u _ => Tp.afterName (s.to 6) c u)
  by_cases e7 : k = 7
  · subst e7
    exact Tp.stepAt s c w g off 7 hk' hk23 hlt 52 #[] (enters_of Tryz.func52 (by kernel_rfl) rfl) (hc 7 _ rfl) _ (fun u _ => Tp.beforeValue (s.to 7) c u)
  by_cases e8 : k = 8
  · subst e8
    exact Tp.stepAt s c w g off 8 hk' hk23 hlt 94 #[.pointer (some ⟨B, 0, none⟩)] (enters_of Tryz.func94 (by kernel_rfl) rfl) (hc 8 _ rfl) _ (fun u hu => Tp.quoted1 34 (s.to 8) c B u (Nat.lt_of_lt_of_le hB hu.size) (Tp.keep hu h34))
  by_cases e9 : k = 9
  · subst e9
    exact Tp.stepAt s c w g off 9 hk' hk23 hlt 94 #[.pointer (some ⟨C, 0, none⟩)] (enters_of Tryz.func94 (by kernel_rfl) rfl) (hc 9 _ rfl) _ (fun u hu => Tp.quoted1 39 (s.to 9) c C u (Nat.lt_of_lt_of_le hC hu.size) (Tp.keep hu h39))
  by_cases e10 : k = 10
  · subst e10
    exact Tp.stepAt s c w g off 10 hk' hk23 hlt 54 #[] (enters_of Tryz.func54 (by kernel_rfl) rfl) (hc 10 _ rfl) _ (fun u _ => Tp.bare (s.to 10) c u)
  by_cases e11 : k = 11
  · subst e11
    exact Tp.stepAt s c w g off 11 hk' hk23 hlt 55 #[] (enters_of Tryz.func55 (by kernel_rfl) rfl) (hc 11 _ rfl) _ (fun u _ => Tp.afterValue (s.to 11) c u)
  by_cases e12 : k = 12
  · subst e12
    exact Tp.stepAt s c w g off 12 hk' hk23 hlt 56 #[] (enters_of Tryz.func56 (by kernel_rfl) rfl) (hc 12 _ rfl) _ (fun u _ => Tp.selfClose (s.to 12) c u)
  by_cases e13 : k = 13
  · subst e13
    exact Tp.stepAt s c w g off 13 hk' hk23 hlt 57 #[] (enters_of Tryz.func57 (by kernel_rfl) rfl) (hc 13 _ rfl) _ (fun u _ => Tp.bang (s.to 13) c u)
  by_cases e14 : k = 14
  · subst e14
    exact Tp.stepAt s c w g off 14 hk' hk23 hlt 58 #[] (enters_of Tryz.func58 (by kernel_rfl) rfl) (hc 14 _ rfl) _ (fun u _ => Tp.bangDash (s.to 14) c u)
  by_cases e15 : k = 15
  · subst e15
    exact Tp.stepAt s c w g off 15 hk' hk23 hlt 59 #[] (enters_of Tryz.func59 (by kernel_rfl) rfl) (hc 15 _ rfl) _ (fun u _ => Tp.comment (s.to 15) c u)
  by_cases e16 : k = 16
  · subst e16
    exact Tp.stepAt s c w g off 16 hk' hk23 hlt 60 #[] (enters_of Tryz.func60 (by kernel_rfl) rfl) (hc 16 _ rfl) _ (fun u _ => Tp.commentDash (s.to 16) c u)
  by_cases e17 : k = 17
  · subst e17
    exact Tp.stepAt s c w g off 17 hk' hk23 hlt 61 #[] (enters_of Tryz.func61 (by kernel_rfl) rfl) (hc 17 _ rfl) _ (fun u _ => Tp.commentEnd (s.to 17) c u)
  by_cases e18 : k = 18
  · subst e18
    exact Tp.stepAt s c w g off 18 hk' hk23 hlt 62 #[] (enters_of Tryz.func62 (by kernel_rfl) rfl) (hc 18 _ rfl) _ (fun u _ => Tp.bogus (s.to 18) c u)
  by_cases e19 : k = 19
  · subst e19
    exact Tp.stepAt s c w g off 19 hk' hk23 hlt 63 #[] (enters_of Tryz.func63 (by kernel_rfl) rfl) (hc 19 _ rfl) _ (fun u _ => Tp.held (s.to 19) c u)
  by_cases e20 : k = 20
  · subst e20
    exact Tp.stepAt s c w g off 20 hk' hk23 hlt 64 #[] (enters_of Tryz.func64 (by kernel_rfl) rfl) (hc 20 _ rfl) _ (fun u _ => Tp.heldLt (s.to 20) c u)
  by_cases e21 : k = 21
  · subst e21
    exact Tp.stepAt s c w g off 21 hk' hk23 hlt 65 #[] (enters_of Tryz.func65 (by kernel_rfl) rfl) (hc 21 _ rfl) _ (fun u _ => Tp.heldSlash (s.to 21) c u)
  by_cases e22 : k = 22
  · subst e22
    exact Tp.stepAt s c w g off 22 hk' hk23 hlt 66 #[] (enters_of Tryz.func66 (by kernel_rfl) rfl) (hc 22 _ rfl) _ (fun u _ => Tp.heldName (s.to 22) c u hf.2.2)
  omega
end Go.Proofs.YtjbkgokiikbaeaaGreatDoor
/-
  THE WALKS of tok.Step and tok.Start.
-/
namespace Go.Proofs.YtjbkgokiikbaeaaGreatDoor
open Go.RowKit
/-- the table laid by a store of the whole into a new variable -/
theorem Tp.Table.laid {W : World} {g o B C : Nat} (hB : B < W.heap.size) (hC : C < W.heap.size) (h1 : W.cell? ⟨B, 0, none⟩ = some (.int .u8 34)) (h2 : W.cell? ⟨C, 0, none⟩ = some (.int .u8 39)) (hgB : B ≠ g) (hgC : C ≠ g) (hg : g < W.heap.size) (ht : W.there g o 23) :
    Tp.Table (W.setCells g o (Tp.table B C).toList) g o := by
  have hr := World.rangeAt_setCells_same W g o (Tp.table B C).toList ht
  have hs := Tp.setCells_size g (Tp.table B C).toList o W
  refine ⟨by omega, B, C, by omega, by omega, ?_, ?_, fun k v hv => hr k v (by simpa using hv)⟩
  · exact (World.cell?_setCells_out g _ o W ⟨B, 0, none⟩ (fun e => absurd e hgB)).trans h1
  · exact (World.cell?_setCells_out g _ o W ⟨C, 0, none⟩ (fun e => absurd e hgC)).trans h2
set_option maxHeartbeats 2000000 in
theorem Tp.Step (s : Ts) (c : UInt8) (w : World) (hs : s.Fits) : Calls Tryz.prog 8 #[.agg #[.int .i64 s.pl, .string s.name, .bool s.fin, .string s.attr, .string s.held, .int .i64 s.read], .int .u8 c.toNat] w fun e w' => e = .returned (.agg #[.int .i64 (s.step c).pl, .string (s.step c).name, .bool (s.step c).fin, .string (s.step c).attr, .string (s.step c).held, .int .i64 (s.step c).read]) ∧ Below w.heap.size w w' := by
  have HS := Lib.hid hs
  clear hs
  go_enter Tryz.func8, Tryz.ntmps8
  go_wp2_with (first | (go_at_call 22; refine (Tp.steppers _).mono ?_; rintro e w1 ⟨B, C, rfl, hB, hC, hB0, hC0, h34, h39, hb1⟩) | refine Vm.stop 5 ?_)
  have k0 := Tp.keep hb1 (b := w.heap.size) (o := 0) (v := .int .i64 s.pl) (by simp)
  have k1 := Tp.keep hb1 (b := w.heap.size) (o := 1) (v := .string s.name) (by simp)
  have k2 := Tp.keep hb1 (b := w.heap.size) (o := 2) (v := .bool s.fin) (by simp)
  have k3 := Tp.keep hb1 (b := w.heap.size) (o := 3) (v := .string s.attr) (by simp)
  have k4 := Tp.keep hb1 (b := w.heap.size) (o := 4) (v := .string s.held) (by simp)
  have k5 := Tp.keep hb1 (b := w.heap.size) (o := 5) (v := .int .i64 s.read) (by simp)
  have z0 := Tp.keep hb1 (b := w.heap.size + 1) (o := 0) (v := .int .i64 0) (by simp)
  have z1 := Tp.keep hb1 (b := w.heap.size + 1) (o := 1) (v := .string ⟨#[]⟩) (by simp)
  have z2 := Tp.keep hb1 (b := w.heap.size + 1) (o := 2) (v := .bool false) (by simp)
  have z3 := Tp.keep hb1 (b := w.heap.size + 1) (o := 3) (v := .string ⟨#[]⟩) (by simp)
  have z4 := Tp.keep hb1 (b := w.heap.size + 1) (o := 4) (v := .string ⟨#[]⟩) (by simp)
  have z5 := Tp.keep hb1 (b := w.heap.size + 1) (o := 5) (v := .int .i64 0) (by simp)
  have zf := Tp.keepF hb1 (b := w.heap.size + 1) (by simp) (fun i => by simp)
  have hs1 := hb1.size
  simp at hs1 hB0 hC0
  have q1 : Below w.heap.size w w1 := (Tp.two _ _ _).trans (hb1.mono (by simp; omega))
  clear hb1
  refine ⟨?_⟩
  go_wp2_with (refine Vm.stopS 58 ?_)
  refine ⟨?_⟩
  obtain ⟨W, hW⟩ : ∃ W, w1.alloc (.cells Tp.none23 58) = W := ⟨_, rfl⟩
  have hsz : W.heap.size = w1.heap.size + 1 := by rw [← hW]; simp
  have hb2 : Below w1.heap.size w1 W := by rw [← hW]; exact (Below.refl _ _).alloc (Nat.le_refl _) _
  have hth : W.there w1.heap.size 0 23 := Tp.there W w1.heap.size Tp.none23 58 (by rw [← hW]; exact heap_alloc_new w1 _) 0 23 (by decide)
  have hT := Tp.Table.laid (W := W) (g := w1.heap.size) (o := 0) (B := B) (C := C) (by omega) (by omega) (Tp.keep hb2 h34) (Tp.keep hb2 h39) (by omega) (by omega) (by omega) hth
  have hb3 := Tp.setCells (B := w1.heap.size) (a := w1) w1.heap.size (Nat.le_refl _) (Tp.table B C).toList 0 W hb2
  unfold Tp.none23 at hW
  rw [hW]
  refine wpList_store_mid rfl 58 _ _ rfl w1.heap.size 0 (Tp.table B C) rfl rfl hth Tp.tableInfo (Tp.table_one _ _) ?_
  clear hW hth hb2
  generalize W.setCells w1.heap.size 0 (Tp.table B C).toList = V at *
  have k0' := Tp.keep hb3 k0
  have k1' := Tp.keep hb3 k1
  have k2' := Tp.keep hb3 k2
  have k3' := Tp.keep hb3 k3
  have k4' := Tp.keep hb3 k4
  have k5' := Tp.keep hb3 k5
  have z0' := Tp.keep hb3 z0
  have z1' := Tp.keep hb3 z1
  have z2' := Tp.keep hb3 z2
  have z3' := Tp.keep hb3 z3
  have z4' := Tp.keep hb3 z4
  have z5' := Tp.keep hb3 z5
  have zf' := Tp.keepF hb3 (by omega) zf
  have q2 : Below w.heap.size w V := q1.trans (hb3.mono (by omega))
  have hsV := hb3.size
  have hst := Tp.step s c V w1.heap.size 0 hT HS.out
  clear k0 k1 k2 k3 k4 k5 z0 z1 z2 z3 z4 z5 zf q1 hb3 h34 h39
  go_wp2_with (go_at_call 23; refine hst.mono ?_; rintro e w2 ⟨rfl, hb4⟩; have y0 := Tp.keep hb4 z0'; have y1 := Tp.keep hb4 z1'; have y2 := Tp.keep hb4 z2'; have y3 := Tp.keep hb4 z3'; have y4 := Tp.keep hb4 z4'; have y5 := Tp.keep hb4 z5'; have yf := Tp.keepF hb4 (by omega) zf'; have q3 : Below w.heap.size w w2 := q2.trans (hb4.mono (by omega)); clear hb4 hst)
  refine bodyPost_ret (v := .agg #[.int .i64 (s.step c).pl, .string (s.step c).name, .bool (s.step c).fin, .string (s.step c).attr, .string (s.step c).held, .int .i64 (s.step c).read]) (by simp [results, Tryz.results8, go_sem, *]) rfl ⟨rfl, ?_⟩
  repeat (refine Below.setCell ?_ (by simp) _)
  exact q3
theorem Tp.Start (w : World) : Calls Tryz.prog 10 #[] w fun e w' => e = .returned (.agg #[.int .i64 0, .string ⟨#[]⟩, .bool false, .string ⟨#[]⟩, .string ⟨#[]⟩, .int .i64 0]) ∧ Below w.heap.size w w' := by
  go_enter Tryz.func10, Tryz.ntmps10
  go_wp2
  exact bodyPost_ret (v := .agg #[.int .i64 0, .string ⟨#[]⟩, .bool false, .string ⟨#[]⟩, .string ⟨#[]⟩, .int .i64 0]) (by simp [results, Tryz.results10, go_sem]) rfl ⟨rfl, (Below.refl _ _).alloc (Nat.le_refl _) _⟩
end Go.Proofs.YtjbkgokiikbaeaaGreatDoor
/-
  TOKENS AND ATTRIBUTES IN MEMORY; the reader's own block.
-/
namespace Go.Proofs.YtjbkgokiikbaeaaGreatDoor
open Go.RowKit

theorem Ro.add (b o j : Nat) : (⟨b, o, none⟩ : Addr).add j = ⟨b, o + j, none⟩ := by unfold Addr.add; split <;> simp_all
/-- where the row lies behind an 'append': where it lay, or in a new block -/
theorem Ro.fresh {P : Program} {w : World} (base : Nat) (t ty e : TypeId) (i : TypeInfo) (z : Value) (size bytes : Nat) (ht : P.underlying t = some (.slice e)) (hi : P.info? e = some i) (hz : i.zero = some z)
    (hsize : i.size = size) (hby : i.bytes = bytes) (hsz : 0 < size)
    (v : Value) (n : Nat) (xs : List Value) (hown : w.ownsRow base e size v n xs)
    (a : Addr) (m c : Nat) (hm : 0 < m) (news : List Value) (hl : news.length = m * size) (hnews : ∀ j u, news[j]? = some u → w.cell? (a.add j) = some u) (h1 : ∀ u ∈ news, u.oneCell' = true)
    (h63 : n + m ≤ maxLen) (hbytes : (n + m) * bytes ≤ 140737488355328) (v' : Value) (w' : World) (hrun : (Builtin.append_ #[t, t] ty #[v, .slice (some a) m c]).run P w = .ok v' w') :
    v'.ownBlock = v.ownBlock ∨ v'.ownBlock = some w.heap.size := by
  subst hsize
  subst hby
  have hsmall : n + m ≤ 9223372036854775807 := by simp only [maxLen] at h63; omega
  rcases hown.2 with ⟨rfl, rfl⟩ | ⟨g, cap, cur, rfl, hbg, hg, hnc, hcm, hcs, htake⟩
  · have hr := run_append_nil (P := P) w t ty e i z ht hi hz a m c news hl hnews (by omega) (by omega) (by have hb := hbytes; simp only [Nat.zero_add] at hb; omega)
    rw [hr] at hrun
    injection hrun with e1 e2
    subst e1
    exact .inr rfl
  · by_cases hroom : n + m ≤ cap
    · have hfit : n * i.size + news.length ≤ cur.size := by rw [hl, hcs, ← Nat.add_mul]; exact Nat.mul_le_mul_right _ hroom
      have hr := run_append_room (P := P) w t ty e i ht hi g n cap cur hg a m c news hl hnews h1 hroom hfit
      rw [hr] at hrun
      injection hrun with e1 e2
      subst e1
      exact .inl rfl
    · have holds : ∀ j u, xs[j]? = some u → w.cell? ((⟨g, 0, none⟩ : Addr).add j) = some u := hown.cells (g := g) rfl
      have hr := run_append_grow (P := P) w t ty e i z ht hi hz ⟨g, 0, none⟩ n cap xs hown.1 holds a m c news hl hnews (by omega) (by omega) (growslice_fits (by omega) hbytes)
      rw [hr] at hrun
      injection hrun with e1 e2
      subst e1
      exact .inr rfl
/-- 'append(row, x)': one element more in a row of its own -/
theorem Ro.wp_push {w : World} {o : Oper} {a : Act} {K : Act → World → Prop} {Z : Exit → Act → World → Prop} (s x : Operand) (t e : TypeId) (size bytes : Nat) (z : Value)
    (ho : o.op = .call { callee := .builtin .append, args := #[s, x], argTypes := #[t, t] })
    (ht : Tryz.prog.underlying t = some (.slice e)) (hi : (Tryz.prog.info? e).map (fun i => (i.zero, i.size, i.bytes)) = some (some z, size, bytes)) (hzs : z.cells.size = size) (hsz : 0 < size)
    {base n : Nat} {xs : List Value} (v : Value) (hs : a.eval s = v) (hown : w.ownsRow base e size v n xs) (g1 : Nat) (news : List Value)
    (hx : a.eval x = .slice (some ⟨g1, 0, none⟩) 1 1) (hg1 : ∀ j u, news[j]? = some u → w.cell? ⟨g1, j, none⟩ = some u) (hl : news.length = size) (hone : ∀ u ∈ news, u.oneCell' = true)
    (hn1 : n + 1 ≤ maxLen) (hn : (n + 1) * bytes ≤ 140737488355328) (hbase : base ≤ w.heap.size)
    (h : ∀ v' w', w'.ownsRow base e size v' (n + 1) (xs ++ news) → w.grownBy w' v.ownBlock → (v'.ownBlock = v.ownBlock ∨ v'.ownBlock = some w.heap.size) → K (a.put o.dst v') w') : o.wp Tryz.prog a w K Z := by
  obtain ⟨iV, hiV, hzV, hsV, hbV⟩ := info_parts hi
  have hnews : ∀ j u, news[j]? = some u → w.cell? ((⟨g1, 0, none⟩ : Addr).add j) = some u := fun j u hj => by
    rw [Ro.add, Nat.zero_add]
    exact hg1 j u hj
  obtain ⟨v', w', hr, h2, h3, h4⟩ := run_append_own (P := Tryz.prog) w base t o.type e iV _ size bytes ht hiV hzV hsV hbV hzs hsz v n xs hown ⟨g1, 0, none⟩ 1 1 news (by omega) hnews hone hn1 hn hbase
  have hf := Ro.fresh (P := Tryz.prog) base t o.type e iV _ size bytes ht hiV hzV hsV hbV hsz v n xs hown ⟨g1, 0, none⟩ 1 1 (by decide) news (by omega) hnews hone hn1 hn v' w' hr
  unfold Oper.wp execOp
  simp only [ho, resolve, invoke, builtin, Sem.run_bind, Sem.run_pure, Result.andThen_ok, List.map_toArray, List.map_cons, List.map_nil, hs, hx, hr]
  exact h v' w' h2 h3 hf
/-- at a step of a region that draws -/
theorem Ro.step_push {w : World} {ops : Array Oper} {o : Oper} {a : Act} {K : Act → World → Prop} {E : Prop} {Z : Exit → Act → World → Prop} (hgd : o.guard = none) (s x : Operand) (t e : TypeId) (size bytes : Nat) (z : Value)
    (ho : o.op = .call { callee := .builtin .append, args := #[s, x], argTypes := #[t, t] })
    (ht : Tryz.prog.underlying t = some (.slice e)) (hi : (Tryz.prog.info? e).map (fun i => (i.zero, i.size, i.bytes)) = some (some z, size, bytes)) (hzs : z.cells.size = size) (hsz : 0 < size)
    {base n : Nat} {xs : List Value} (v : Value) (hs : a.eval s = v) (hown : w.ownsRow base e size v n xs) (g1 : Nat) (news : List Value)
    (hx : a.eval x = .slice (some ⟨g1, 0, none⟩) 1 1) (hg1 : ∀ j u, news[j]? = some u → w.cell? ⟨g1, j, none⟩ = some u) (hl : news.length = size) (hone : ∀ u ∈ news, u.oneCell' = true)
    (hn1 : n + 1 ≤ maxLen) (hn : (n + 1) * bytes ≤ 140737488355328) (hbase : base ≤ w.heap.size)
    (h : ∀ v' w', w'.ownsRow base e size v' (n + 1) (xs ++ news) → w.grownBy w' v.ownBlock → (v'.ownBlock = v.ownBlock ∨ v'.ownBlock = some w.heap.size) → K (a.put o.dst v') w') :
    if Region.wanted o (yielded ops a.tmps) = true then Oper.wp Tryz.prog o a w K Z else E := by
  have hw : Region.wanted o (yielded ops a.tmps) = true := by simp [Region.wanted, hgd]
  rw [if_pos hw]
  exact Ro.wp_push s x t e size bytes z ho ht hi hzs hsz v hs hown g1 news hx hg1 hl hone hn1 hn hbase h
/-- at a list of operations -/
theorem Ro.push {w : World} {ops : Array Oper} {rest : List Oper} {o : Oper} {a : Act} {Z : Exit → Act → World → Prop} (hgd : o.guard = none) (s x : Operand) (t e : TypeId) (size bytes : Nat) (z : Value)
    (ho : o.op = .call { callee := .builtin .append, args := #[s, x], argTypes := #[t, t] })
    (ht : Tryz.prog.underlying t = some (.slice e)) (hi : (Tryz.prog.info? e).map (fun i => (i.zero, i.size, i.bytes)) = some (some z, size, bytes)) (hzs : z.cells.size = size) (hsz : 0 < size)
    {base n : Nat} {xs : List Value} (v : Value) (hs : a.eval s = v) (hown : w.ownsRow base e size v n xs) (g1 : Nat) (news : List Value)
    (hx : a.eval x = .slice (some ⟨g1, 0, none⟩) 1 1) (hg1 : ∀ j u, news[j]? = some u → w.cell? ⟨g1, j, none⟩ = some u) (hl : news.length = size) (hone : ∀ u ∈ news, u.oneCell' = true)
    (hn1 : n + 1 ≤ maxLen) (hn : (n + 1) * bytes ≤ 140737488355328) (hbase : base ≤ w.heap.size)
    (h : ∀ v' w', w'.ownsRow base e size v' (n + 1) (xs ++ news) → w.grownBy w' v.ownBlock → (v'.ownBlock = v.ownBlock ∨ v'.ownBlock = some w.heap.size) → wpList Tryz.prog ops Z rest (a.put o.dst v') w') : wpList Tryz.prog ops Z (o :: rest) a w :=
  wpList_plain hgd fun _ hK => Ro.wp_push s x t e size bytes z ho ht hi hzs hsz v hs hown g1 news hx hg1 hl hone hn1 hn hbase fun v' w' h2 h3 h4 => hK _ _ (h v' w' h2 h3 h4)

theorem Rm.infoT : (Tryz.prog.info? 47).map (fun i => (i.zero, i.size, i.bytes)) = some (some (.agg #[.int .i64 0, .string ⟨#[]⟩, .string ⟨#[]⟩, .slice none 0 0, .bool false]), 5, 72) := by kernel_rfl
theorem Rm.infoA : (Tryz.prog.info? 45).map (fun i => (i.zero, i.size, i.bytes)) = some (some (.agg #[.string ⟨#[]⟩, .string ⟨#[]⟩]), 2, 32) := by kernel_rfl

/-- attributes in a row -/
def Ak.cells (al : List (ByteArray × ByteArray)) : List Value := al.flatMap fun a => [.string a.1, .string a.2]
theorem Ak.cells_length (al : List (ByteArray × ByteArray)) : (Ak.cells al).length = al.length * 2 := by
  induction al with
  | nil => rfl
  | cons a al ih => simp only [Ak.cells, List.flatMap_cons, List.length_append] at *; simp only [List.length_cons, List.length_nil]; omega
theorem Ak.cells_append (a b : List (ByteArray × ByteArray)) : Ak.cells (a ++ b) = Ak.cells a ++ Ak.cells b := by simp [Ak.cells]
theorem Ak.cells_one (al : List (ByteArray × ByteArray)) : ∀ u ∈ Ak.cells al, u.oneCell' = true := by
  intro u hu
  simp only [Ak.cells, List.mem_flatMap, List.mem_cons, List.not_mem_nil, or_false] at hu
  obtain ⟨a, _, rfl | rfl⟩ := hu <;> rfl
theorem Ak.cells_get : ∀ (al : List (ByteArray × ByteArray)) (j : Nat) (x : ByteArray × ByteArray), al[j]? = some x → (Ak.cells al)[j * 2]? = some (.string x.1) ∧ (Ak.cells al)[j * 2 + 1]? = some (.string x.2) := by
  intro al
  induction al with
  | nil => intro j x h; simp at h
  | cons a al ih =>
    intro j x h
    cases j with
    | zero =>
      simp only [List.getElem?_cons_zero, Option.some.injEq] at h
      subst h
      exact ⟨rfl, rfl⟩
    | succ j =>
      rw [List.getElem?_cons_succ] at h
      obtain ⟨h1, h2⟩ := ih j x h
      have e : Ak.cells (a :: al) = .string a.1 :: .string a.2 :: Ak.cells al := rfl
      rw [e, show (j + 1) * 2 = j * 2 + 1 + 1 by omega]
      exact ⟨h1, h2⟩
/-- none of a block's cells is frozen -/
def Rm.Ub (w : World) (k : Nat) : Prop := ∀ o, w.frozen? ⟨k, o, none⟩ = false
theorem Rm.Ub.on {w w' : World} {k : Nat} (h : Rm.Ub w k) (hw : w'.heap[k]? = w.heap[k]?) : Rm.Ub w' k := fun o => by
  have := h o
  unfold World.frozen? at this ⊢
  rw [hw]
  exact this
theorem Rm.Ub.own {w : World} {base : Nat} {e : TypeId} {size n : Nat} {v : Value} {xs : List Value} (h : w.ownsRow base e size v n xs) {k : Nat} (hk : v.ownBlock = some k) : Rm.Ub w k := by
  rcases h.2 with ⟨rfl, hn⟩ | ⟨g, cap, cur, rfl, hbg, hg, rest⟩
  · cases hk
  · have : g = k := Option.some.inj hk
    subst this
    intro o
    unfold World.frozen?
    rw [hg]
    simp
/-- the attributes lie in a block of R -/
def Ak.Lies (w : World) (R : Nat → Prop) (al : List (ByteArray × ByteArray)) (v : Value) : Prop :=
  ∃ a d, v = .slice a al.length d ∧ al.length ≤ d ∧ d ≤ maxLen ∧ ∀ j x, al[j]? = some x → ∃ b o, a = some ⟨b, o, none⟩ ∧ R b ∧ w.cell? ⟨b, o + j * 2, none⟩ = some (.string x.1) ∧ w.cell? ⟨b, o + j * 2 + 1, none⟩ = some (.string x.2)
theorem Ak.Lies.on {w w' : World} {R R' : Nat → Prop} {al : List (ByteArray × ByteArray)} {v : Value} (h : Ak.Lies w R al v) (hR : ∀ k, R k → R' k ∧ w'.heap[k]? = w.heap[k]?) : Ak.Lies w' R' al v := by
  obtain ⟨a, d, e, h1, h2, hx⟩ := h
  refine ⟨a, d, e, h1, h2, fun j x hj => ?_⟩
  obtain ⟨b, o, ea, hb, c1, c2⟩ := hx j x hj
  obtain ⟨hb', hw⟩ := hR b hb
  exact ⟨b, o, ea, hb', (World.cell?_of_block (a := ⟨b, o + j * 2, none⟩) hw).trans c1, (World.cell?_of_block (a := ⟨b, o + j * 2 + 1, none⟩) hw).trans c2⟩
theorem Ak.Lies.nil (w : World) (R : Nat → Prop) : Ak.Lies w R [] (.slice none 0 0) := ⟨none, 0, rfl, Nat.le_refl _, Nat.zero_le _, fun j x h => by simp at h⟩
theorem Ak.Lies.own {w : World} {base : Nat} {al : List (ByteArray × ByteArray)} {v : Value} (h : w.ownsRow base 45 2 v al.length (Ak.cells al)) : Ak.Lies w (fun k => v.ownBlock = some k) al v := by
  have hc := fun g hg => h.cells (g := g) hg
  rcases h.2 with ⟨rfl, hn⟩ | ⟨g, cap, cur, rfl, hbg, hg, hnc, hcm, hcs, htake⟩
  · have : al = [] := List.eq_nil_of_length_eq_zero hn
    subst this
    exact Ak.Lies.nil _ _
  · refine ⟨some ⟨g, 0, none⟩, cap, rfl, hnc, hcm, fun j x hj => ?_⟩
    obtain ⟨h1, h2⟩ := Ak.cells_get al j x hj
    have c1 := hc g rfl _ _ h1
    have c2 := hc g rfl _ _ h2
    rw [Ro.add] at c1 c2
    exact ⟨g, 0, rfl, rfl, c1, by rw [show 0 + j * 2 + 1 = 0 + (j * 2 + 1) by omega]; exact c2⟩
/-- tokens lie in blocks of R -/
def Tk.Lies (w : World) (R : Nat → Prop) (ts : List Tk) (v : Value) : Prop :=
  ∃ a d, v = .slice a ts.length d ∧ ts.length ≤ d ∧ d ≤ maxLen ∧ ∀ i t, ts[i]? = some t → ∃ b o av, a = some ⟨b, o, none⟩ ∧ R b ∧ w.cell? ⟨b, o + i * 5, none⟩ = some (.int .i64 t.kind) ∧ w.cell? ⟨b, o + i * 5 + 1, none⟩ = some (.string t.name) ∧ w.cell? ⟨b, o + i * 5 + 2, none⟩ = some (.string t.text) ∧ w.cell? ⟨b, o + i * 5 + 3, none⟩ = some av ∧ w.cell? ⟨b, o + i * 5 + 4, none⟩ = some (.bool t.self) ∧ Ak.Lies w R t.attrs av
theorem Tk.Lies.on {w w' : World} {R R' : Nat → Prop} {ts : List Tk} {v : Value} (h : Tk.Lies w R ts v) (hR : ∀ k, R k → R' k ∧ w'.heap[k]? = w.heap[k]?) : Tk.Lies w' R' ts v := by
  obtain ⟨a, d, e, h1, h2, hx⟩ := h
  refine ⟨a, d, e, h1, h2, fun i t hi => ?_⟩
  obtain ⟨b, o, av, ea, hb, c0, c1, c2, c3, c4, hl⟩ := hx i t hi
  obtain ⟨hb', hw⟩ := hR b hb
  exact ⟨b, o, av, ea, hb', (World.cell?_of_block (a := ⟨b, o + i * 5, none⟩) hw).trans c0, (World.cell?_of_block (a := ⟨b, o + i * 5 + 1, none⟩) hw).trans c1, (World.cell?_of_block (a := ⟨b, o + i * 5 + 2, none⟩) hw).trans c2, (World.cell?_of_block (a := ⟨b, o + i * 5 + 3, none⟩) hw).trans c3, (World.cell?_of_block (a := ⟨b, o + i * 5 + 4, none⟩) hw).trans c4, hl.on hR⟩
/-- tokens in a row that grows; what their attributes lie in is none of the row's block nor of block 'no' -/
def Rm.Toks (base : Nat) (ts : List Tk) (w : World) (v : Value) (no : Option Nat) : Prop :=
  ∃ xs, w.ownsRow base 47 5 v ts.length xs ∧ ∀ i t, ts[i]? = some t → ∃ av, xs[i * 5]? = some (.int .i64 t.kind) ∧ xs[i * 5 + 1]? = some (.string t.name) ∧ xs[i * 5 + 2]? = some (.string t.text) ∧ xs[i * 5 + 3]? = some av ∧ xs[i * 5 + 4]? = some (.bool t.self) ∧ Ak.Lies w (fun k => base ≤ k ∧ k < w.heap.size ∧ v.ownBlock ≠ some k ∧ no ≠ some k ∧ Rm.Ub w k) t.attrs av
theorem Rm.lies0 {base : Nat} {ts : List Tk} {w : World} {v : Value} {X : Nat → Prop} (h : ∃ xs, w.ownsRow base 47 5 v ts.length xs ∧ ∀ i t, ts[i]? = some t → ∃ av, xs[i * 5]? = some (.int .i64 t.kind) ∧ xs[i * 5 + 1]? = some (.string t.name) ∧ xs[i * 5 + 2]? = some (.string t.text) ∧ xs[i * 5 + 3]? = some av ∧ xs[i * 5 + 4]? = some (.bool t.self) ∧ Ak.Lies w (fun k => base ≤ k ∧ k < w.heap.size ∧ X k) t.attrs av) (hX : ∀ k, v.ownBlock = some k → X k) : Tk.Lies w (fun k => base ≤ k ∧ k < w.heap.size ∧ X k) ts v := by
  obtain ⟨xs, ho, hx⟩ := h
  have hc := fun g hg => ho.cells (g := g) hg
  have hlt := ho.lt
  rcases ho.2 with ⟨rfl, hn⟩ | ⟨g, cap, cur, rfl, hbg, hg, hnc, hcm, hcs, htake⟩
  · have : ts = [] := List.eq_nil_of_length_eq_zero hn
    subst this
    exact ⟨none, 0, rfl, Nat.le_refl _, Nat.zero_le _, fun j x h => by simp at h⟩
  · refine ⟨some ⟨g, 0, none⟩, cap, rfl, hnc, hcm, fun i t hi => ?_⟩
    obtain ⟨av, x0, x1, x2, x3, x4, hl⟩ := hx i t hi
    have c0 := hc g rfl _ _ x0
    have c1 := hc g rfl _ _ x1
    have c2 := hc g rfl _ _ x2
    have c3 := hc g rfl _ _ x3
    have c4 := hc g rfl _ _ x4
    rw [Ro.add] at c0 c1 c2 c3 c4
    exact ⟨g, 0, av, rfl, ⟨(hlt g rfl).1, (hlt g rfl).2, hX g rfl⟩, c0, by rw [Nat.add_assoc]; exact c1, by rw [Nat.add_assoc]; exact c2, by rw [Nat.add_assoc]; exact c3, by rw [Nat.add_assoc]; exact c4, hl⟩
theorem Rm.Toks.liesU {base : Nat} {ts : List Tk} {w : World} {v : Value} {no : Option Nat} (h : Rm.Toks base ts w v no) : Tk.Lies w (fun k => base ≤ k ∧ k < w.heap.size ∧ Rm.Ub w k) ts v := by
  obtain ⟨xs, ho, hx⟩ := h
  refine Rm.lies0 ⟨xs, ho, fun i t hi => ?_⟩ (fun k hk => Rm.Ub.own ho hk)
  obtain ⟨av, x0, x1, x2, x3, x4, hl⟩ := hx i t hi
  exact ⟨av, x0, x1, x2, x3, x4, hl.on fun _ hk => ⟨⟨hk.1, hk.2.1, hk.2.2.2.2⟩, rfl⟩⟩
theorem Rm.Toks.lies {base : Nat} {ts : List Tk} {w : World} {v : Value} {no : Option Nat} (h : Rm.Toks base ts w v no) : Tk.Lies w (fun k => base ≤ k ∧ k < w.heap.size) ts v := h.liesU.on fun _ hk => ⟨⟨hk.1, hk.2.1⟩, rfl⟩
theorem Rm.Toks.on {base : Nat} {ts : List Tk} {w w' : World} {v : Value} {no no' : Option Nat} (h : Rm.Toks base ts w v no) (hs : w.heap.size ≤ w'.heap.size) (hb : ∀ k, v.ownBlock = some k → w'.heap[k]? = w.heap[k]?) (hw : ∀ k, base ≤ k → k < w.heap.size → v.ownBlock ≠ some k → no ≠ some k → no' ≠ some k ∧ w'.heap[k]? = w.heap[k]?) : Rm.Toks base ts w' v no' := by
  obtain ⟨xs, ho, hx⟩ := h
  refine ⟨xs, ⟨ho.1, ?_⟩, fun i t hi => ?_⟩
  · rcases ho.2 with hn | ⟨g, cap, cur, rfl, hbg, hg, rest⟩
    · exact .inl hn
    · exact .inr ⟨g, cap, cur, rfl, hbg, (hb g rfl).trans hg, rest⟩
  · obtain ⟨av, x0, x1, x2, x3, x4, hl⟩ := hx i t hi
    refine ⟨av, x0, x1, x2, x3, x4, hl.on fun k hk => ?_⟩
    obtain ⟨h1, h2⟩ := hw k hk.1 hk.2.1 hk.2.2.1 hk.2.2.2.1
    exact ⟨⟨hk.1, Nat.lt_of_lt_of_le hk.2.1 hs, hk.2.2.1, h1, hk.2.2.2.2.on h2⟩, h2⟩
theorem Rm.own_on {base : Nat} {w w' : World} {e : TypeId} {size n : Nat} {v : Value} {xs : List Value} (h : w.ownsRow base e size v n xs) (hb : ∀ k, v.ownBlock = some k → w'.heap[k]? = w.heap[k]?) : w'.ownsRow base e size v n xs := by
  refine ⟨h.1, ?_⟩
  rcases h.2 with hn | ⟨g, cap, cur, rfl, hbg, hg, rest⟩
  · exact .inl hn
  · exact .inr ⟨g, cap, cur, rfl, hbg, (hb g rfl).trans hg, rest⟩
end Go.Proofs.YtjbkgokiikbaeaaGreatDoor

/-
  THE WALKS of stolelaw0.SameAttrs and stolelaw0.SameTokens at the same attributes, the same tokens.
-/
import Derived.Test.YtblpkjlodncpeaaGreatDoorBTMemtoUMk
import Derived.Deep.QuietTactic
import Derived.BigQuiet
import Derived.Test.YtblpkjlodncpeaaGreatDoorBTKittoLower
import Derived.Test.YtblpkjlodncpeaaGreatDoorBUProgtoKBulk
import Derived.Test.YtblpkjlodncpeaaGreatDoorBNSkel2
import Derived.Test.YtblpkjlodncpeaaGreatDoorRows
import Derived.Deep.Strs
import Derived.ChangeOld
import Derived.ProofKit
import Derived.OpenShut
namespace Go.Proofs.YtblpkjlodncpeaaGreatDoor
open Go.RowKit
theorem Sa.lies {w : World} {R : Nat → Prop} {al : List (ByteArray × ByteArray)} {v : Value} (h : Ak.Lies w R al v) (n : Nat) : Ak.Lies (w.drewN n) R al v := h
set_option maxHeartbeats 2000000 in
theorem Sa.attrs (al : List (ByteArray × ByteArray)) (v1 v2 : Value) (R R' : Nat → Prop) (w : World) (h1 : Ak.Lies w R al v1) (h2 : Ak.Lies w R' al v2) :
  Calls Tryz.prog 29 #[v1, v2] w fun e w' => e = .returned (.bool true) ∧ ∃ n, w' = w.drewN n := by
 obtain ⟨a1, d1, rfl, l1, m1, x1⟩ := h1
 obtain ⟨a2, d2, rfl, l2, m2, x2⟩ := h2
 have hm : al.length ≤ 9223372036854775807 := by unfold maxLen at m1; omega
 have X1 := Lib.hid x1
 have X2 := Lib.hid x2
 clear x1 x2
 go_enter Tryz.func29, Tryz.ntmps29
 go_wp2
 go_loopw [5] (fun i wr => ∃ j n : Nat, j ≤ al.length ∧ i = .int .i64 (j : Int) ∧ wr = w.drewN n) (fun i _ => al.length - (intOf i).toNat)
 case atStart => exact ⟨0, 0, Nat.zero_le _, rfl, rfl⟩
 case round =>
  obtain ⟨j, n, hj, rfl, rfl⟩ := hrel
  by_cases hlt : j < al.length
  ·
   obtain ⟨b1, o1, rfl, _, c1, c1'⟩ := X1.out j al[j] (List.getElem?_eq_getElem hlt)
   obtain ⟨b2, o2, rfl, _, c2, c2'⟩ := X2.out j al[j] (List.getElem?_eq_getElem hlt)
   generalize al[j] = y at *
   obtain ⟨yn, yv⟩ := y
   have hd1 : j < d1 := by omega
   have hd2 : j < d2 := by omega
   simp only at c1 c1' c2 c2'
   go_wp2_with fail
   go_quiet (fail)
   go_wp2
   go_roundw
   case rel => exact ⟨j + 1, _, by omega, by go_num, rfl⟩
   case measure => simp [intOf]; omega
  ·
   have e : j = al.length := by omega
   subst e
   go_wp2
   go_ret
   exact ⟨rfl, n, rfl⟩
set_option maxRecDepth 100000 in
set_option maxHeartbeats 4000000 in
theorem Sa.nodes (ts : List Nd) (v1 v2 : Value) (R R' : Nat → Prop) (w : World) (h1 : Nd.Lies w R ts v1) (h2 : Nd.Lies w R' ts v2) :
  Calls Tryz.prog 13 #[v1, v2] w fun e w' => e = .returned (.bool true) ∧ ∃ n, w' = w.drewN n := by
 obtain ⟨a1, d1, rfl, l1, m1, x1⟩ := h1
 obtain ⟨a2, d2, rfl, l2, m2, x2⟩ := h2
 have hm : ts.length ≤ 9223372036854775807 := by unfold maxLen at m1; omega
 have X1 := Lib.hid x1
 have X2 := Lib.hid x2
 clear x1 x2
 go_enter Tryz.func13, Tryz.ntmps13
 go_wp2
 go_loopw [5] (fun i wr => ∃ j : Nat, j ≤ ts.length ∧ i = .int .i64 (j : Int) ∧ Hid (∃ n, wr = w.drewN n)) (fun i _ => ts.length - (intOf i).toNat)
 case atStart => exact ⟨0, Nat.zero_le _, rfl, 0, rfl⟩
 case round =>
  obtain ⟨j, hj, rfl, HW⟩ := hrel
  by_cases hlt : j < ts.length
  ·
   obtain ⟨b1, o1, av1, rfl, _, p0, p1, p2, p3, p4, pl⟩ := X1.out j ts[j] (List.getElem?_eq_getElem hlt)
   obtain ⟨b2, o2, av2, rfl, _, q0, q1, q2, q3, q4, ql⟩ := X2.out j ts[j] (List.getElem?_eq_getElem hlt)
   generalize ts[j] = y at *
   obtain ⟨yk, yn, yt, ya, ys⟩ := y
   have hd1 : j < d1 := by omega
   have hd2 : j < d2 := by omega
   simp only at p0 p1 p2 p3 p4 q0 q1 q2 q3 q4
   have hcell : ∀ a v, w.cell? a = some v → wr.cell? a = some v := fun a v h => by obtain ⟨n, hn⟩ := HW.out; rw [hn]; exact h
   have hli : ∀ R v, Ak.Lies w R ya v → Ak.Lies wr R ya v := fun R v h => by obtain ⟨n, hn⟩ := HW.out; rw [hn]; exact h
   replace p0 := hcell _ _ p0
   replace p1 := hcell _ _ p1
   replace p2 := hcell _ _ p2
   replace p3 := hcell _ _ p3
   replace p4 := hcell _ _ p4
   replace q0 := hcell _ _ q0
   replace q1 := hcell _ _ q1
   replace q2 := hcell _ _ q2
   replace q3 := hcell _ _ q3
   replace q4 := hcell _ _ q4
   have hat := fun (k : Nat) => Sa.attrs ya av1 av2 R R' (wr.drewN k) (Sa.lies (hli _ _ pl) k) (Sa.lies (hli _ _ ql) k)
   clear hcell hli
   obtain ⟨aa1, dd1, rfl, _⟩ := pl
   obtain ⟨aa2, dd2, rfl, _⟩ := ql
   clear X1 X2
   have s0 : (yk != yk) = false := by simp
   have s1 : (yn.toList != yn.toList) = false := by simp
   have s2 : (yt.toList != yt.toList) = false := by simp
   have s3 : (ys != ys) = false := by simp
   go_wp2_with fail
   go_quiet ((go_at_call 29; exact Calls.quiet_of (hat _)))
   go_wp2
   go_roundw
   case rel => exact ⟨j + 1, by omega, by go_num, by obtain ⟨n, hn⟩ := HW.out; rw [hn]; exact ⟨_, World.drewN_drewN _ _ _⟩⟩
   case measure => simp [intOf]; omega
  ·
   have e : j = ts.length := by omega
   subst e
   go_wp2
   go_ret
   exact ⟨rfl, HW.out⟩
structure Sp.Rel (R : Nat → Prop) (n : Nat) (w w' : World) : Prop where
 os : w'.os = w.os
 tape : w'.tape = w.tape
 output : w'.output = w.output
 size : w'.heap.size = w.heap.size
 out : ∀ k, ¬ R k → w'.heap[k]? = w.heap[k]?
 str : ∀ b o (s : ByteArray), w.cell? ⟨b, o, none⟩ = some (.string s) → ∃ s' : ByteArray, w'.cell? ⟨b, o, none⟩ = some (.string s') ∧ s'.size ≤ s.size + n
 oth : ∀ b o v, w.cell? ⟨b, o, none⟩ = some v → (∀ s, v ≠ .string s) → w'.cell? ⟨b, o, none⟩ = some v
 fz : ∀ b o, w'.frozen? ⟨b, o, none⟩ = w.frozen? ⟨b, o, none⟩
theorem Sp.Rel.refl (R : Nat → Prop) (w : World) : Sp.Rel R 0 w w := ⟨rfl, rfl, rfl, rfl, fun _ _ => rfl, fun _ _ s h => ⟨s, h, Nat.le_refl _⟩, fun _ _ _ h _ => h, fun _ _ => rfl⟩
theorem Sp.Rel.trans {R : Nat → Prop} {n m : Nat} {w w1 w2 : World} (h : Sp.Rel R n w w1) (g : Sp.Rel R m w1 w2) : Sp.Rel R (n + m) w w2 :=
 ⟨g.os.trans h.os, g.tape.trans h.tape, g.output.trans h.output, g.size.trans h.size, fun k hk => (g.out k hk).trans (h.out k hk), fun b o s hs => by
  obtain ⟨s1, h1, l1⟩ := h.str b o s hs
  obtain ⟨s2, h2, l2⟩ := g.str b o s1 h1
  exact ⟨s2, h2, by omega⟩, fun b o v hv hn => g.oth b o v (h.oth b o v hv hn) hn, fun b o => (g.fz b o).trans (h.fz b o)⟩
theorem Sp.set {R : Nat → Prop} {w : World} {b o : Nat} {s s' : ByteArray} (hb : R b) (hc : w.cell? ⟨b, o, none⟩ = some (.string s)) (hs : s'.size ≤ s.size + 1) : Sp.Rel R 1 w (w.setCell ⟨b, o, none⟩ (.string s')) := by
 have hother : ∀ b1 o1, (¬ (b1 = b ∧ o1 = o)) → (w.setCell ⟨b, o, none⟩ (.string s')).cell? ⟨b1, o1, none⟩ = w.cell? ⟨b1, o1, none⟩ := fun b1 o1 hn => by
  exact World.cell?_setCell_other _ _ _ _ (fun e => hn (by injection e with e1 e2 e3; exact ⟨e1.symm, e2.symm⟩))
 have hself : (w.setCell ⟨b, o, none⟩ (.string s')).cell? ⟨b, o, none⟩ = some (.string s') := by simp [go_sem, hc]
 refine ⟨rfl, rfl, rfl, by simp, fun k hk => Below.heap_setCell _ _ _ _ (fun e => hk (by rw [e]; exact hb)), fun b1 o1 s1 h1 => ?_, fun b1 o1 v h1 hn => ?_, fun _ _ => by rw [World.frozen?_setCell]⟩
 ·
  by_cases e : b1 = b ∧ o1 = o
  ·
   obtain ⟨rfl, rfl⟩ := e
   rw [hc] at h1
   injection h1 with h1
   injection h1 with h1
   exact ⟨s', hself, by rw [← h1]; exact hs⟩
  ·
   exact ⟨s1, (hother b1 o1 e).trans h1, by omega⟩
 ·
  by_cases e : b1 = b ∧ o1 = o
  ·
   obtain ⟨rfl, rfl⟩ := e
   rw [hc] at h1
   injection h1 with h1
   exact absurd h1.symm (hn s)
  ·
   exact (hother b1 o1 e).trans h1
def Sp.Names (w : World) (R : Nat → Prop) (a : Option Addr) (m L : Nat) : Prop := ∀ j, j < m → ∃ b o, ∃ s : ByteArray, a = some ⟨b, o, none⟩ ∧ R b ∧ (∀ q, w.frozen? ⟨b, q, none⟩ = false) ∧ w.cell? ⟨b, o + j * 2, none⟩ = some (.string s) ∧ s.size ≤ L
theorem Sp.Names.on {w w' : World} {R : Nat → Prop} {a : Option Addr} {m L n : Nat} (h : Sp.Names w R a m L) (g : Sp.Rel R n w w') : Sp.Names w' R a m (L + n) := fun j hj => by
 obtain ⟨b, o, s, e, hb, hf, hc, hs⟩ := h j hj
 obtain ⟨s', hc', hs'⟩ := g.str _ _ _ hc
 exact ⟨b, o, s', e, hb, fun q => (g.fz _ _).trans (hf q), hc', by omega⟩
set_option maxHeartbeats 2000000 in
theorem Sp.attrs (R : Nat → Prop) (a : Option Addr) (m d L : Nat) (w : World) (h : Sp.Names w R a m L) (hm : m ≤ 1000000) (hd : m ≤ d) (hL : L ≤ 1000000000) :
  Calls Tryz.prog 30 #[.slice a m d] w fun e w' => e = .returned (.tuple #[]) ∧ Sp.Rel R m w w' := by
 have H := Lib.hid h
 clear h
 go_enter Tryz.func30, Tryz.ntmps30
 go_wp2
 go_loopw [2] (fun ix wr => ∃ j : Nat, j ≤ m ∧ ix = .int .i64 (j : Int) ∧ Hid (Sp.Rel R j w wr)) (fun ix _ => m - (intOf ix).toNat)
 case atStart => exact ⟨0, Nat.zero_le _, by go_num, Sp.Rel.refl _ _⟩
 case round =>
  obtain ⟨j, hj, rfl, HR⟩ := hrel
  by_cases hlt : j < m
  ·
   obtain ⟨b, o, s, rfl, hb, hf, hc, hs⟩ := (H.out.on HR.out) j hlt
   have d1 : decide ((j : Int) < (m : Int)) = true := decide_eq_true (by omega)
   have hjd : j < d := by omega
   have hsz : (s ++ (⟨#[33]⟩ : ByteArray)).size = s.size + 1 := by rw [ByteArray.size_append]; rfl
   obtain ⟨s', hs'⟩ : ∃ s' : ByteArray, s ++ ⟨#[33]⟩ = s' := ⟨_, rfl⟩
   rw [hs'] at hsz
   have HN := Lib.hid (HR.out.trans (Sp.set (s' := s') hb hc (by omega)))
   have hz : s.size ≤ 1001000000 := by omega
   clear H hs
   go_wp2
   go_roundw
   case rel => exact ⟨j + 1, by omega, by go_num, HN.out⟩
   case measure => simp [intOf]; omega
  ·
   have e : j = m := by omega
   subst e
   have d1 : decide ((j : Int) < (j : Int)) = false := decide_eq_false (by omega)
   go_wp2
   go_end0
   exact ⟨rfl, HR.out⟩
structure Sq.Rel (R : Nat → Prop) (n : Nat) (w w' : World) : Prop where
 os : w'.os = w.os
 tape : w'.tape = w.tape
 output : w'.output = w.output
 size : w'.heap.size = w.heap.size
 out : ∀ k, ¬ R k → w'.heap[k]? = w.heap[k]?
 str : ∀ b o (s : ByteArray), w.cell? ⟨b, o, none⟩ = some (.string s) → ∃ s' : ByteArray, w'.cell? ⟨b, o, none⟩ = some (.string s') ∧ s'.size ≤ s.size + n
 num : ∀ b o (x : Int), w.cell? ⟨b, o, none⟩ = some (.int .i64 x) → ∃ x' : Int, w'.cell? ⟨b, o, none⟩ = some (.int .i64 x')
 row : ∀ b o a m d, w.cell? ⟨b, o, none⟩ = some (.slice a m d) → w'.cell? ⟨b, o, none⟩ = some (.slice a m d)
 fz : ∀ b o, w'.frozen? ⟨b, o, none⟩ = w.frozen? ⟨b, o, none⟩
theorem Sq.Rel.refl (R : Nat → Prop) (w : World) : Sq.Rel R 0 w w := ⟨rfl, rfl, rfl, rfl, fun _ _ => rfl, fun _ _ s h => ⟨s, h, Nat.le_refl _⟩, fun _ _ x h => ⟨x, h⟩, fun _ _ _ _ _ h => h, fun _ _ => rfl⟩
theorem Sq.Rel.of {R : Nat → Prop} {n : Nat} {w w' : World} (h : Sp.Rel R n w w') : Sq.Rel R n w w' :=
 ⟨h.os, h.tape, h.output, h.size, h.out, h.str, fun b o x hx => ⟨x, h.oth b o _ hx (fun s q => by cases q)⟩, fun b o a m d hx => h.oth b o _ hx (fun s q => by cases q), h.fz⟩
theorem Sq.Rel.trans {R : Nat → Prop} {n m : Nat} {w w1 w2 : World} (h : Sq.Rel R n w w1) (g : Sq.Rel R m w1 w2) : Sq.Rel R (n + m) w w2 :=
 ⟨g.os.trans h.os, g.tape.trans h.tape, g.output.trans h.output, g.size.trans h.size, fun k hk => (g.out k hk).trans (h.out k hk), fun b o s hs => by
  obtain ⟨s1, h1, l1⟩ := h.str b o s hs
  obtain ⟨s2, h2, l2⟩ := g.str b o s1 h1
  exact ⟨s2, h2, by omega⟩, fun b o x hx => by
  obtain ⟨x1, h1⟩ := h.num b o x hx
  exact g.num b o x1 h1, fun b o a m d hx => g.row b o a m d (h.row b o a m d hx), fun b o => (g.fz b o).trans (h.fz b o)⟩
theorem Sq.Rel.wide {R : Nat → Prop} {n m : Nat} {w w1 : World} (h : Sq.Rel R n w w1) (hm : n ≤ m) : Sq.Rel R m w w1 :=
 ⟨h.os, h.tape, h.output, h.size, h.out, fun b o s hs => by
  obtain ⟨s1, h1, l1⟩ := h.str b o s hs
  exact ⟨s1, h1, by omega⟩, h.num, h.row, h.fz⟩
theorem Sq.Rel.below {R : Nat → Prop} {n lo : Nat} {w w' : World} (h : Sq.Rel R n w w') (hR : ∀ k, R k → lo ≤ k) : Below lo w w' := ⟨h.os, h.tape, h.output, Nat.le_of_eq h.size.symm, fun k hk => h.out k (fun q => by have := hR k q; omega)⟩
theorem Sq.set {R : Nat → Prop} {w : World} {b o : Nat} {x : Int} (hb : R b) (hc : w.cell? ⟨b, o, none⟩ = some (.int .i64 x)) (x' : Int) : Sq.Rel R 0 w (w.setCell ⟨b, o, none⟩ (.int .i64 x')) := by
 have hother : ∀ b1 o1, (¬ (b1 = b ∧ o1 = o)) → (w.setCell ⟨b, o, none⟩ (.int .i64 x')).cell? ⟨b1, o1, none⟩ = w.cell? ⟨b1, o1, none⟩ := fun b1 o1 hn =>
  World.cell?_setCell_other _ _ _ _ (fun e => hn (by injection e with e1 e2 e3; exact ⟨e1.symm, e2.symm⟩))
 have hself : (w.setCell ⟨b, o, none⟩ (.int .i64 x')).cell? ⟨b, o, none⟩ = some (.int .i64 x') := by simp [go_sem, hc]
 refine ⟨rfl, rfl, rfl, by simp, fun k hk => Below.heap_setCell _ _ _ _ (fun e => hk (by rw [e]; exact hb)), fun b1 o1 s1 h1 => ?_, fun b1 o1 y h1 => ?_, fun b1 o1 a m d h1 => ?_, fun _ _ => by rw [World.frozen?_setCell]⟩
 ·
  by_cases e : b1 = b ∧ o1 = o
  ·
   obtain ⟨rfl, rfl⟩ := e
   rw [hc] at h1
   injection h1 with h1
   cases h1
  ·
   exact ⟨s1, (hother b1 o1 e).trans h1, by omega⟩
 ·
  by_cases e : b1 = b ∧ o1 = o
  ·
   obtain ⟨rfl, rfl⟩ := e
   exact ⟨x', hself⟩
  ·
   exact ⟨y, (hother b1 o1 e).trans h1⟩
 ·
  by_cases e : b1 = b ∧ o1 = o
  ·
   obtain ⟨rfl, rfl⟩ := e
   rw [hc] at h1
   injection h1 with h1
   cases h1
  ·
   exact (hother b1 o1 e).trans h1
theorem Sq.names {w w' : World} {R : Nat → Prop} {a : Option Addr} {m L n : Nat} (h : Sp.Names w R a m L) (g : Sq.Rel R n w w') : Sp.Names w' R a m (L + n) := fun j hj => by
 obtain ⟨b, o, s, e, hb, hf, hc, hs⟩ := h j hj
 obtain ⟨s', hc', hs'⟩ := g.str _ _ _ hc
 exact ⟨b, o, s', e, hb, fun q => (g.fz _ _).trans (hf q), hc', by omega⟩
def Sq.Nodes (w : World) (R : Nat → Prop) (a : Option Addr) (n L : Nat) : Prop := ∀ i, i < n → ∃ b o, ∃ x : Int, ∃ aa am ad, a = some ⟨b, o, none⟩ ∧ R b ∧ (∀ q, w.frozen? ⟨b, q, none⟩ = false) ∧ w.cell? ⟨b, o + i * 5 + 4, none⟩ = some (.int .i64 x) ∧ w.cell? ⟨b, o + i * 5 + 3, none⟩ = some (.slice aa am ad) ∧ am ≤ 32 ∧ am ≤ ad ∧ Sp.Names w R aa am L
theorem Sq.Nodes.on {w w' : World} {R : Nat → Prop} {a : Option Addr} {m L n : Nat} (h : Sq.Nodes w R a m L) (g : Sq.Rel R n w w') : Sq.Nodes w' R a m (L + n) := fun j hj => by
 obtain ⟨b, o, x, aa, am, ad, e, hb, hf, hc, hc3, h1, h2, hn⟩ := h j hj
 obtain ⟨x', hc'⟩ := g.num _ _ _ hc
 exact ⟨b, o, x', aa, am, ad, e, hb, fun q => (g.fz _ _).trans (hf q), hc', g.row _ _ _ _ _ hc3, h1, h2, Sq.names hn g⟩
set_option maxHeartbeats 2000000 in
theorem Sq.nodes (R : Nat → Prop) (a : Option Addr) (m d L : Nat) (w : World) (h : Sq.Nodes w R a m L) (hm : m ≤ 1000000) (hd : m ≤ d) (hL : L ≤ 100000000) :
  Calls Tryz.prog 16 #[.slice a m d] w fun e w' => e = .returned (.tuple #[]) ∧ Sq.Rel R (m * 32) w w' := by
 have H := Lib.hid h
 clear h
 go_enter Tryz.func16, Tryz.ntmps16
 go_wp2
 go_loopw [2] (fun ix wr => ∃ j : Nat, j ≤ m ∧ ix = .int .i64 (j : Int) ∧ Hid (Sq.Rel R (j * 32) w wr)) (fun ix _ => m - (intOf ix).toNat)
 case atStart => exact ⟨0, Nat.zero_le _, by go_num, Sq.Rel.refl _ _⟩
 case round =>
  obtain ⟨j, hj, rfl, HR⟩ := hrel
  by_cases hlt : j < m
  ·
   obtain ⟨b, o, x, aa, am, ad, rfl, hb, hf, hc, hc3, h1, h2, hn⟩ := (H.out.on HR.out) j hlt
   have d1 : decide ((j : Int) < (m : Int)) = true := decide_eq_true (by omega)
   have hjd : j < d := by omega
   have sp := Sp.attrs R aa am ad (L + j * 32) wr hn (by omega) h2 (by omega)
   have HB := Lib.hid hb
   have HC := Lib.hid hc
   have HF := Lib.hid hf
   clear H hn hb hc hf h2
   go_wp2_with (go_at_call 30; refine sp.mono ?_; rintro e w2 ⟨rfl, hR2⟩; clear sp; have hR2 := Sq.Rel.of hR2; obtain ⟨x2, c2⟩ := hR2.num _ _ _ HC.out; have f2 : ∀ q, w2.frozen? ⟨b, q, none⟩ = false := (fun q => (hR2.fz _ _).trans (HF.out q)); have HN : Hid (∀ y, Sq.Rel R ((j + 1) * 32) w (w2.setCell ⟨b, o + j * 5 + 4, none⟩ (.int .i64 y))) := (fun y => ((HR.out.trans hR2).trans (Sq.set HB.out c2 y)).wide (by omega)); clear hR2)
   go_roundw
   case rel => exact ⟨j + 1, by omega, by go_num, HN.out _⟩
   case measure => simp [intOf]; omega
  ·
   have e : j = m := by omega
   subst e
   have d1 : decide ((j : Int) < (j : Int)) = false := decide_eq_false (by omega)
   go_wp2
   go_end0
   exact ⟨rfl, HR.out⟩
theorem Sq.Nodes.of {w : World} {R : Nat → Prop} {ns : List Nd} {a : Option Addr} {d L : Nat} (h : Nd.Lies w (fun k => R k ∧ Rm.Ub w k) ns (.slice a ns.length d)) (hn : ∀ x ∈ ns, x.attrs.length ≤ 32 ∧ ∀ y ∈ x.attrs, y.1.size ≤ L) : Sq.Nodes w R a ns.length L := fun i hi => by
 obtain ⟨a', d', e, h1, h2, hx⟩ := h
 injection e with e1 e2 e3
 subst e1
 obtain ⟨b, o, av, ea, hb, c0, c1, c2, c3, c4, hl⟩ := hx i ns[i] (List.getElem?_eq_getElem hi)
 obtain ⟨n2, n3⟩ := hn _ (List.getElem_mem hi)
 obtain ⟨aa, ad, rfl, g1, g2, gx⟩ := hl
 refine ⟨b, o, _, aa, _, ad, ea, hb.1, hb.2, c4, c3, n2, g1, fun j hj => ?_⟩
 obtain ⟨b', o', ea', hb', k1, k2⟩ := gx j ns[i].attrs[j] (List.getElem?_eq_getElem hj)
 exact ⟨b', o', _, ea', hb'.1, hb'.2, k1, n3 _ (List.getElem_mem hj)⟩
def Lp.Says (f : FuncId) (ns : List Nd) (S : ByteArray) (g : Int) : Prop := ∀ (a : Option Addr) (d : Nat) (w : World), Pq.Tab w → Nd.Lies w (· < w.heap.size) ns (.slice a ns.length d) →
 Calls Tryz.prog f #[.slice a ns.length d] w fun e w' => e = .returned (.tuple #[.string S, .int .i64 g]) ∧ Below w.heap.size w w'
theorem Lp.skel (ns : List Nd) (hs : ns.length * 8 ≤ 140737488355328) (hz : (Sk.skel ns).length + 32 ≤ 140737488355328) : ∃ (S : ByteArray) (g : Int), Lp.Says 9 ns S g ∧ Lp.Says 10 ns S g := by
 by_cases hm : Sk.May ns
 ·
  refine ⟨⟨(Sk.skel ns).toArray⟩, 0, fun a d w ht h => ?_, fun a d w _ h => ?_⟩
  ·
   refine (Pq.skeleton ns a d w h hs hz ht).mono ?_
   rintro e w' ⟨hb, q | q⟩
   ·
    exact absurd hm q.1
   ·
    exact ⟨q.2, hb⟩
  ·
   refine (Nm.skeleton ns a d w h hs (by omega)).mono ?_
   rintro e w' ⟨hb, q | q⟩
   ·
    exact absurd hm q.1
   ·
    exact ⟨q.2, hb⟩
 ·
  refine ⟨⟨#[]⟩, 800, fun a d w ht h => ?_, fun a d w _ h => ?_⟩
  ·
   refine (Pq.skeleton ns a d w h hs hz ht).mono ?_
   rintro e w' ⟨hb, q | q⟩
   ·
    exact ⟨q.2, hb⟩
   ·
    exact absurd q.1 hm
  ·
   refine (Nm.skeleton ns a d w h hs (by omega)).mono ?_
   rintro e w' ⟨hb, q | q⟩
   ·
    exact ⟨q.2, hb⟩
   ·
    exact absurd q.1 hm
def Lp.Tells (f : FuncId) (ns : List Nd) (ss : List ByteArray) (g : Int) : Prop := ∀ (a : Option Addr) (d : Nat) (w : World), Nd.Lies w (· < w.heap.size) ns (.slice a ns.length d) →
 Calls Tryz.prog f #[.slice a ns.length d] w fun e w' => ∃ a' d', e = .returned (.tuple #[.slice a' ss.length d', .int .i64 g]) ∧ St.Lies w' (fun k => w.heap.size ≤ k ∧ k < w'.heap.size) ss (.slice a' ss.length d') ∧ Below w.heap.size w w'
theorem Lp.nil (w : World) (R : Nat → Prop) : St.Lies w R [] (.slice none 0 0) := ⟨none, 0, rfl, Nat.le_refl _, Nat.zero_le _, fun j x h => by simp at h⟩
theorem Lp.texts (ns : List Nd) (hs : (ns.length + 1) * 16 ≤ 140737488355328) (hx : ∀ x ∈ ns, x.text.size ≤ 281474976710656) : ∃ (ss : List ByteArray) (g : Int), Lp.Tells 11 ns ss g ∧ Lp.Tells 12 ns ss g := by
 by_cases hm : Sk.May ns
 ·
  refine ⟨Sk.texts ns, 0, fun a d w h => ?_, fun a d w h => ?_⟩
  ·
   refine (Pq.texts ns a d w h hs hx).mono ?_
   rintro e w' ⟨hb, q | ⟨_, v, rfl, hl⟩⟩
   ·
    exact absurd hm q.1
   ·
    obtain ⟨a', d', rfl, r⟩ := id hl
    exact ⟨a', d', rfl, hl, hb⟩
  ·
   refine (Nm.texts ns a d w h hs).mono ?_
   rintro e w' ⟨hb, q | ⟨_, v, rfl, hl⟩⟩
   ·
    exact absurd hm q.1
   ·
    obtain ⟨a', d', rfl, r⟩ := id hl
    exact ⟨a', d', rfl, hl, hb⟩
 ·
  refine ⟨[], 800, fun a d w h => ?_, fun a d w h => ?_⟩
  ·
   refine (Pq.texts ns a d w h hs hx).mono ?_
   rintro e w' ⟨hb, ⟨_, rfl⟩ | q⟩
   ·
    exact ⟨none, 0, rfl, Lp.nil _ _, hb⟩
   ·
    exact absurd q.1 hm
  ·
   refine (Nm.texts ns a d w h hs).mono ?_
   rintro e w' ⟨hb, ⟨_, rfl⟩ | q⟩
   ·
    exact ⟨none, 0, rfl, Lp.nil _ _, hb⟩
   ·
    exact absurd q.1 hm
set_option maxRecDepth 100000 in
set_option maxHeartbeats 8000000 in
theorem Law.pages (s : ByteArray) (ns : List Nd) (a : Option Addr) (d : Nat) (m : Int) (w : World) (hm : w.cell? ⟨1, 0, none⟩ = some (.int .i64 m)) (htab : Pq.Tab w) (hs : s.size ≤ maxLen) (h : Nd.Lies w (· < w.heap.size) ns (.slice a ns.length d)) (hlen : (ns.length + 1) * 16 ≤ 140737488355328) (hz : (Sk.skel ns).length + 32 ≤ 140737488355328) (hx : ∀ x ∈ ns, x.text.size ≤ 281474976710656) :
  Calls Tryz.prog 3 #[.string s, .slice a ns.length d] w fun e w' => e = .returned (.bool true) ∧ Below w.heap.size w w' := by
 obtain ⟨ms, k, hI⟩ := Kp.ex s
 obtain ⟨S, g, p3, p4⟩ := Lp.skel ns (by omega) hz
 obtain ⟨ss, i, p5, p6⟩ := Lp.texts ns hlen hx
 have hml := hI.len
 obtain ⟨X, y, p9, p10⟩ := Lp.skel ms (by omega) (Kb.page hI)
 have HNICE : Hid (∀ x ∈ ms, x.attrs.length ≤ 32 ∧ ∀ y ∈ x.attrs, y.1.size ≤ 32) := fun x hx => ⟨(Kb.nice hI x hx).1, (Kb.nice hI x hx).2.1⟩
 have p1 := Pq.parse m s ms k hI w hs hm
 have p2 := fun u => Nm.parse s ms k hI u hs
 have H := Lib.hid h
 have HM := Lib.hid hm
 have HTB := Lib.hid htab
 have tk : (k != k) = false := by simp
 have tg : (g != g) = false := by simp
 have ti : (i != i) = false := by simp
 have ty : (y == y) = true := by simp
 have tS : (S.toList != S.toList) = false := by simp
 have tX : (X.toList == X.toList) = true := by simp
 clear hI hm h hs hz hlen htab hx
 go_enter Tryz.func3, Tryz.ntmps3
 go_upto_region 2 with (go_at_call 7; refine p1.mono ?_; rintro e w1 ⟨a1, d1, rfl, l1, b1⟩; clear p1)
 have p2 := p2 w1
 have HA1 := Lib.hid l1
 have HB1 := Lib.hid b1
 clear l1 b1
 go_upto_region 3 with (go_at_call 8; refine p2.mono ?_; rintro e w2 ⟨a2, d2, rfl, l2, b2⟩; clear p2)
 have HA2 : Hid (Nd.Lies w2 (fun j => (w.heap.size ≤ j ∧ j < w1.heap.size) ∧ Rm.Ub w2 j) ms (.slice a1 ms.length d1)) := HA1.out.on fun j hj => ⟨⟨⟨hj.1, hj.2.1⟩, hj.2.2.on (b2.block j hj.2.1)⟩, b2.block j hj.2.1⟩
 have HC2 : Hid (Nd.Lies w2 (fun j => w1.heap.size ≤ j ∧ j < w2.heap.size) ms (.slice a2 ms.length d2)) := l2.on fun j hj => ⟨⟨hj.1, hj.2.1⟩, rfl⟩
 have HB2 := Lib.hid (HB1.out.trans (b2.mono HB1.out.size))
 have s1 := HB1.out.size
 have s2 := b2.size
 clear l2 b2 HA1 HB1
 have q3 := p3 a d w2 (HTB.out.on HB2.out) (H.out.on fun j hj => ⟨Nat.lt_of_lt_of_le hj HB2.out.size, HB2.out.block j hj⟩)
 clear p3
 go_upto_region 4 with (go_at_call 9; refine q3.mono ?_; rintro e w3 ⟨rfl, b3⟩; clear q3)
 have HB3 := Lib.hid (HB2.out.trans (b3.mono HB2.out.size))
 have HW3 := Lib.hid b3
 clear b3
 have q4 := p4 a d w3 (HTB.out.on HB3.out) (H.out.on fun j hj => ⟨Nat.lt_of_lt_of_le hj HB3.out.size, HB3.out.block j hj⟩)
 clear p4
 go_upto_region 5 with (go_at_call 10; refine q4.mono ?_; rintro e w4 ⟨rfl, b4⟩; clear q4)
 have HB4 := Lib.hid (HB3.out.trans (b4.mono HB3.out.size))
 have HW4 : Hid (Below w2.heap.size w2 w4) := HW3.out.trans (b4.mono HW3.out.size)
 clear b4 HB3 HW3
 have q5 := p5 a d w4 (H.out.on fun j hj => ⟨Nat.lt_of_lt_of_le hj HB4.out.size, HB4.out.block j hj⟩)
 clear p5
 go_upto_region 6 with (go_at_call 11; refine q5.mono ?_; rintro e w5 ⟨a5, d5, rfl, l5, b5⟩; clear q5)
 have HB5 := Lib.hid (HB4.out.trans (b5.mono HB4.out.size))
 have HW5 : Hid (Below w2.heap.size w2 w5) := HW4.out.trans (b5.mono HW4.out.size)
 have HT5 := Lib.hid l5
 clear b5 l5 HB4 HW4
 have q6 := p6 a d w5 (H.out.on fun j hj => ⟨Nat.lt_of_lt_of_le hj HB5.out.size, HB5.out.block j hj⟩)
 clear p6
 go_upto_region 7 with (go_at_call 12; refine q6.mono ?_; rintro e w6 ⟨a6, d6, rfl, l6, b6⟩; clear q6)
 have HB6 := Lib.hid (HB5.out.trans (b6.mono HB5.out.size))
 have HW6 : Hid (Below w2.heap.size w2 w6) := HW5.out.trans (b6.mono HW5.out.size)
 have HT6 := Lib.hid l6
 have HU6 : Hid (St.Lies w6 (fun k => w4.heap.size ≤ k ∧ k < w5.heap.size) ss (.slice a5 ss.length d5)) := HT5.out.on fun j hj => ⟨hj, b6.block j hj.2⟩
 clear b6 l6 HB5 HW5 HT5
 have HA6 : Hid (Nd.Lies w6 (fun j => (w.heap.size ≤ j ∧ j < w1.heap.size) ∧ Rm.Ub w6 j) ms (.slice a1 ms.length d1)) := HA2.out.on fun j hj => ⟨⟨hj.1, hj.2.on (HW6.out.block j (by omega))⟩, HW6.out.block j (by omega)⟩
 have HC6 : Hid (Nd.Lies w6 (fun j => w1.heap.size ≤ j ∧ j < w2.heap.size) ms (.slice a2 ms.length d2)) := HC2.out.on fun j hj => ⟨hj, HW6.out.block j hj.2⟩
 have s6 := HW6.out.size
 have sn := Sa.nodes ms _ _ _ _ w6 HA6.out HC6.out
 clear HA2 HC2 HB2 HW6
 go_upto_region 9 with (first | (go_at_call 13; refine sn.mono ?_; rintro e w' ⟨rfl, n7, hw⟩; have hw := hw.symm; subst hw; clear sn; have st := St.same ss ss a5 a6 d5 d6 _ _ (w6.drewN n7) (HU6.out.on (w' := w6.drewN n7) (R' := fun _ => True) fun j hj => ⟨trivial, rfl⟩) (HT6.out.on (w' := w6.drewN n7) (R' := fun _ => True) fun j hj => ⟨trivial, rfl⟩) rfl) | (go_at_call 14; refine (A8.num _ _).mono ?_; rintro e w' ⟨rfl, hw⟩; have hw := hw.symm; subst hw) | (go_at_call 15; refine st.mono ?_; rintro e w' ⟨rfl, n8, hw⟩; have hw := hw.symm; subst hw; clear st))
 obtain ⟨U, hU⟩ : ∃ U, w6.drewN (n7 + n8) = U := ⟨_, rfl⟩
 have hbU : Below w6.heap.size w6 U := by rw [← hU]; exact ⟨rfl, rfl, rfl, Nat.le_refl _, fun _ _ => rfl⟩
 rw [hU]
 have HBU := Lib.hid (HB6.out.trans (hbU.mono HB6.out.size))
 have HAU : Hid (Nd.Lies U (fun j => (w.heap.size ≤ j ∧ j < w1.heap.size) ∧ Rm.Ub U j) ms (.slice a1 ms.length d1)) := HA6.out.on fun j hj => ⟨⟨hj.1, hj.2.on (hbU.block j (by omega))⟩, hbU.block j (by omega)⟩
 have HCU : Hid (Nd.Lies U (fun j => w1.heap.size ≤ j ∧ j < w2.heap.size) ms (.slice a2 ms.length d2)) := HC6.out.on fun j hj => ⟨hj, hbU.block j (by omega)⟩
 have sU := hbU.size
 have q9 := p9 a1 d1 U (HTB.out.on HBU.out) (HAU.out.on fun j hj => ⟨by omega, rfl⟩)
 clear hU hbU HB6 HA6 HC6 HT6 HU6 p9
 go_upto_region 10 with (go_at_call 9; refine q9.mono ?_; rintro e w9 ⟨rfl, b9⟩; clear q9)
 have q10 := p10 a2 d2 w9 (HTB.out.on (HBU.out.trans (b9.mono HBU.out.size))) (HCU.out.on fun j hj => ⟨Nat.lt_of_lt_of_le (show j < U.heap.size by omega) b9.size, b9.block j (by omega)⟩)
 have HB9 := Lib.hid (HBU.out.trans (b9.mono HBU.out.size))
 have HA9 : Hid (Nd.Lies w9 (fun j => (w.heap.size ≤ j ∧ j < w1.heap.size) ∧ Rm.Ub w9 j) ms (.slice a1 ms.length d1)) := HAU.out.on fun j hj => ⟨⟨hj.1, hj.2.on (b9.block j (by omega))⟩, b9.block j (by omega)⟩
 have s9 := b9.size
 clear b9 HBU HAU HCU p10
 go_upto_region 11 with (go_at_call 10; refine q10.mono ?_; rintro e w10 ⟨rfl, b10⟩; clear q10)
 have HB10 := Lib.hid (HB9.out.trans (b10.mono HB9.out.size))
 have HA10 : Hid (Nd.Lies w10 (fun j => (w.heap.size ≤ j ∧ j < w1.heap.size) ∧ Rm.Ub w10 j) ms (.slice a1 ms.length d1)) := HA9.out.on fun j hj => ⟨⟨hj.1, hj.2.on (b10.block j (by omega))⟩, b10.block j (by omega)⟩
 have hld : ms.length ≤ d1 := by
  obtain ⟨a', d', e', h1, h2, _⟩ := HA10.out
  injection e' with _ _ e5
  omega
 have sq := Sq.nodes (fun j => w.heap.size ≤ j ∧ j < w1.heap.size) a1 ms.length d1 32 w10 (Sq.Nodes.of HA10.out HNICE.out) (by omega) hld (by decide)
 clear b10 HB9 HA9 HA10
 go_upto_region 12 with (go_at_call 16; refine sq.mono ?_; rintro e w11 ⟨rfl, hR⟩; clear sq)
 have HB11 : Hid (Below w.heap.size w w11) := HB10.out.trans (hR.below fun j q => q.1)
 have aw := A8.awake m w11 (by rw [HB11.out.cell (World.block_lt_of_cell? _ _ HM.out)]; exact HM.out) (HTB.out.on HB11.out)
 clear hR HB10
 go_wp2_with (first | (go_at_call 14; refine (A8.num _ _).mono ?_; rintro e w' ⟨rfl, hw⟩; have hw := hw.symm; subst hw) | (go_at_call 17; refine aw.mono ?_; rintro e w12 ⟨rfl, b12⟩; clear aw; have HB12 := Lib.hid (HB11.out.trans (b12.mono HB11.out.size)); clear b12))
 go_ret
 exact ⟨rfl, HB12.out⟩
open Go.ChangeShapes Go.WideShapes Go.ChangeAt Go.RowKit
theorem Rx.pos {H : Type} (d : DataW H) : 1 ≤ Rows.uptoBulk d := by
 cases d with
 | lit l => cases l <;> simp [Rows.uptoBulk]
 | _ => simp [Rows.uptoBulk]
theorem Rx.len {H : Type} : ∀ (l : List (DataW H)), l.length ≤ Rows.uptoBulkAll l
 | [] => by simp
 | x :: r => by
  have := Rx.len r
  have := Rx.pos x
  simp only [Rows.uptoBulkAll, List.length_cons]
  omega
theorem Rx.oneI : Tryz.prog.cellsOf 3 = 1 := by kernel_rfl
theorem Rx.oneS : Tryz.prog.cellsOf 9 = 1 := by kernel_rfl
theorem Rx.oneA : Tryz.prog.cellsOf 46 = 1 := by kernel_rfl
theorem Rx.two : Tryz.prog.cellsOf 50 = 2 := by kernel_rfl
theorem Rx.strBulk {H : Type} (s : ByteArray) : s.size ≤ Rows.uptoBulk (DataW.lit (.string s.data.toList) : DataW H) := by
 have : s.data.toList.length = s.size := by rw [Array.length_toList]; rfl
 simp only [Rows.uptoBulk]
 omega
theorem Rx.list {α : Type} (P : Nat → α → Prop) : ∀ n, (∀ i, i < n → ∃ x, P i x) → ∃ l : List α, l.length = n ∧ ∀ i x, l[i]? = some x → P i x
 | 0, _ => ⟨[], rfl, fun i x h => by simp at h⟩
 | n + 1, h => by
  obtain ⟨l, hl, hp⟩ := Rx.list P n (fun i hi => h i (by omega))
  obtain ⟨x, hx⟩ := h n (by omega)
  refine ⟨l ++ [x], by simp [hl], fun i y hi => ?_⟩
  by_cases hlt : i < l.length
  ·
   rw [List.getElem?_append_left hlt] at hi
   exact hp i y hi
  ·
   have : i = n := by
    have := (List.getElem?_eq_some_iff.1 hi).1
    simp at this
    omega
   subst this
   rw [List.getElem?_append_right (by omega), hl, Nat.sub_self] at hi
   simp at hi
   subst hi
   exact hx
theorem Ry.oneN : Tryz.prog.cellsOf 48 = 5 := by kernel_rfl
theorem Ry.sum {H : Type} (l : List (DataW H)) : Rows.uptoBulkAll l = (l.map fun d => Rows.uptoBulk d).sum := by
 induction l with
 | nil => rfl
 | cons x r ih =>
  rw [List.map_cons, List.sum_cons, ← ih]
  simp only [Rows.uptoBulkAll]
theorem Ry.slice {H : Type} {enc : TypeId × Value → H} {W : World} {base : Nat} {spare : Nat → Bool} {held : Bool} {fuel : Nat} {S E : TypeId} {k : Nat} (hS : Tryz.prog.underlying S = some (.slice E)) (hk : Tryz.prog.cellsOf E = k) (hk0 : 0 < k) {v : Value} {x : DataW H × List MemPlace} (h : DataW.trod enc Tryz.prog W base spare held fuel S [v] = some x) :
  ∃ (ak : Option Addr) (len cap : Nat) (bs : List Nat), v = .slice ak len cap ∧ len ≤ cap ∧ cap ≤ maxLen ∧ bs.length = len ∧ bs.sum + 1 ≤ Rows.uptoBulk x.1 + 1 ∧ len ≤ Rows.uptoBulk x.1 ∧ ∀ i q, bs[i]? = some q → ∃ (b o n' : Nat) (cs : List Value) (y : DataW H × List MemPlace), ak = some ⟨b, o, none⟩ ∧ b < W.heap.size ∧ (∀ r, r < k → W.cell? ⟨b, o + i * k + r, none⟩ = cs[r]?) ∧ DataW.trod enc Tryz.prog W base spare held n' E cs = some y ∧ Rows.uptoBulk y.1 = q := by
 rcases DataW.trod_slice hS h with ⟨e4, _⟩ | ⟨a, len, cap, elems, rest, n', rfl, e4, hx4, _, hlc, hcm, hel, hget, _, _⟩
 ·
  simp only [List.cons.injEq, and_true] at e4
  subst e4
  exact ⟨none, 0, 0, [], rfl, Nat.le_refl _, by decide, rfl, by simp, Nat.zero_le _, fun i q hi => by simp at hi⟩
 ·
  simp only [List.cons.injEq, and_true] at e4
  subst e4
  have h2 : Rows.uptoBulk x.1 = Rows.uptoBulkAll (elems.map (fun x => x.fst)) + Rows.uptoBulkAll (rest.map (fun x => x.fst)) + 1 := by rw [hx4]; simp [Rows.uptoBulk]
  have h1 := Rx.len (elems.map (fun x => x.fst))
  rw [List.length_map, hel] at h1
  refine ⟨some a, len, cap, elems.map (fun y => Rows.uptoBulk y.1), rfl, hlc, hcm, by rw [List.length_map, hel], ?_, by omega, fun i q hi => ?_⟩
  ·
   have h3 := Ry.sum (elems.map (fun x => x.fst))
   rw [List.map_map] at h3
   have h4 : (elems.map (fun y => Rows.uptoBulk y.1)).sum = Rows.uptoBulkAll (elems.map (fun x => x.fst)) := h3.symm
   omega
  ·
   have hlt : i < len := by
    have := (List.getElem?_eq_some_iff.1 hi).1
    rw [List.length_map, hel] at this
    exact this
   rw [List.getElem?_map, List.getElem?_eq_getElem (by omega)] at hi
   have hi : Rows.uptoBulk (elems[i]'(by omega)).1 = q := by simpa using hi
   have hspot : a.spot = none := by
    have hg := hget 0 (by omega)
    rw [hk, List.getElem?_eq_getElem (by omega)] at hg
    cases hcs : W.cells? base (a.add (0 * k)) k with
    | none => rw [hcs] at hg; cases hg
    | some cs' =>
     obtain ⟨_, hl6, hcell⟩ := World.cells?_some hcs
     have c0 := hcell 0 hk0
     rw [List.getElem?_eq_getElem (by omega)] at c0
     simpa [Addr.add] using World.cell?_spot c0
   have hg := hget i hlt
   rw [hk, List.getElem?_eq_getElem (by omega)] at hg
   cases hcs : W.cells? base (a.add (i * k)) k with
   | none => rw [hcs] at hg; cases hg
   | some cs' =>
    rw [hcs] at hg
    obtain ⟨_, hl6, hcell⟩ := World.cells?_some hcs
    obtain ⟨b, o, spot⟩ := a
    dsimp only at hspot
    subst hspot
    have hc : ∀ r, r < k → W.cell? ⟨b, o + i * k + r, none⟩ = cs'[r]? := fun r hr => by
     have := hcell r hr
     rw [Ro.add, Ro.add] at this
     exact this
    refine ⟨b, o, n', cs', _, rfl, ?_, hc, hg, hi⟩
    have := hc 0 hk0
    rw [List.getElem?_eq_getElem (by omega)] at this
    exact World.block_lt_of_cell? _ _ this
theorem Ry.le_sum : ∀ (l : List Nat) (q : Nat), q ∈ l → q ≤ l.sum
 | [], q, h => by cases h
 | a :: l, q, h => by
  rw [List.sum_cons]
  rcases List.mem_cons.1 h with e | e
  ·
   omega
  ·
   have := Ry.le_sum l q e
   omega
theorem Ry.sum_map {α : Type} (f : α → Nat) : ∀ (l : List α) (bs : List Nat), l.length = bs.length → (∀ (i : Nat) (x : α) (q : Nat), l[i]? = some x → bs[i]? = some q → f x ≤ q) → (l.map f).sum ≤ bs.sum
 | [], [], _, _ => Nat.le_refl _
 | [], _ :: _, h, _ => by simp at h
 | _ :: _, [], h, _ => by simp at h
 | x :: l, q :: bs, h, hp => by
  rw [List.map_cons, List.sum_cons, List.sum_cons]
  have h1 := hp 0 x q rfl rfl
  have h2 := Ry.sum_map f l bs (by simpa using h) (fun i y r hy hr => hp (i + 1) y r hy hr)
  omega
set_option maxRecDepth 100000 in
theorem Ry.attr1 {H : Type} {enc : TypeId × Value → H} {W : World} {base : Nat} {spare : Nat → Bool} {held : Bool} {fuel : Nat} {cs : List Value} {x : DataW H × List MemPlace} (h : DataW.trod enc Tryz.prog W base spare held fuel 50 cs = some x) :
  ∃ y : ByteArray × ByteArray, cs = [.string y.1, .string y.2] ∧ y.1.size + 1 ≤ Rows.uptoBulk x.1 := by
 obtain ⟨xs, n, rfl, rfl, hl, hlen, hf⟩ := DataW.trod_struct Tryz.underlying50 h
 rw [Rx.two] at hl
 match cs, hl with
 | [v0, v1], _ =>
 match xs, hlen with
 | [y0, y1], _ =>
  have g0 : DataW.trod enc Tryz.prog W base spare held n 9 [v0] = some y0 := by simpa [Rx.oneS] using hf 0 _ rfl
  have g1 : DataW.trod enc Tryz.prog W base spare held n 9 [v1] = some y1 := by simpa [Rx.oneS] using hf 1 _ rfl
  obtain ⟨s0, e0, e0', _⟩ := DataW.trod_string Tryz.underlying9 g0
  obtain ⟨s1, e1, _, _⟩ := DataW.trod_string Tryz.underlying9 g1
  simp only [List.cons.injEq, and_true] at e0 e1
  subst e0 e1
  refine ⟨(s0, s1), rfl, ?_⟩
  have := Rx.strBulk (H := H) s0
  have hall : Rows.uptoBulk (DataW.agg (List.map (fun x => x.fst) [y0, y1])) = Rows.uptoBulk y0.1 + (Rows.uptoBulk y1.1 + 0) + 1 := by simp [Rows.uptoBulk, Rows.uptoBulkAll]
  rw [hall, e0']
  dsimp only
  omega
theorem Ry.attrs {H : Type} {enc : TypeId × Value → H} {W : World} {base : Nat} {spare : Nat → Bool} {held : Bool} {fuel : Nat} {v : Value} {x : DataW H × List MemPlace} (h : DataW.trod enc Tryz.prog W base spare held fuel 46 [v] = some x) :
  ∃ al : List (ByteArray × ByteArray), Ak.Lies W (· < W.heap.size) al v ∧ (al.map fun a => a.1.size + 1).sum ≤ Rows.uptoBulk x.1 := by
 obtain ⟨ak, len, cap, bs, rfl, h1, h2, hbl, hsum, _, hx⟩ := Ry.slice Tryz.underlying46 Rx.two (by decide) h
 obtain ⟨al, hl, hp⟩ := Rx.list (fun i (y : ByteArray × ByteArray) => (∃ b o, ak = some ⟨b, o, none⟩ ∧ b < W.heap.size ∧ W.cell? ⟨b, o + i * 2, none⟩ = some (.string y.1) ∧ W.cell? ⟨b, o + i * 2 + 1, none⟩ = some (.string y.2)) ∧ ∀ q, bs[i]? = some q → y.1.size + 1 ≤ q) len (fun i hi => by
  obtain ⟨q, hq⟩ : ∃ q, bs[i]? = some q := ⟨_, List.getElem?_eq_getElem (by omega)⟩
  obtain ⟨b, o, n', cs, d, e, hb, hc, ht, hu⟩ := hx i q hq
  obtain ⟨y, rfl, hy⟩ := Ry.attr1 ht
  exact ⟨y, ⟨b, o, e, hb, hc 0 (by decide), hc 1 (by decide)⟩, fun q' hq' => by rw [hq] at hq'; injection hq' with hq'; omega⟩)
 subst hl
 refine ⟨al, ⟨ak, cap, rfl, h1, h2, fun j y hj => ?_⟩, ?_⟩
 ·
  obtain ⟨b, o, e, hb, c1, c2⟩ := (hp j y hj).1
  exact ⟨b, o, e, hb, c1, c2⟩
 ·
  have := Ry.sum_map (fun a : ByteArray × ByteArray => a.1.size + 1) al bs hbl.symm (fun i y q hy hq => (hp i y hy).2 q hq)
  omega
set_option maxRecDepth 100000 in
theorem Ry.node {H : Type} {enc : TypeId × Value → H} {W : World} {base : Nat} {spare : Nat → Bool} {held : Bool} {fuel : Nat} {cs : List Value} {x : DataW H × List MemPlace} (h : DataW.trod enc Tryz.prog W base spare held fuel 48 cs = some x) :
  ∃ (t : Nd) (av : Value), cs = [.int .i64 t.kind, .string t.name, .string t.text, av, .int .i64 t.parent] ∧ Ak.Lies W (· < W.heap.size) t.attrs av ∧ Kb.w t ≤ 30 + Rows.uptoBulk x.1 ∧ t.text.size ≤ Rows.uptoBulk x.1 := by
 obtain ⟨xs, n, rfl, rfl, hl, hlen, hf⟩ := DataW.trod_struct Tryz.underlying48 h
 rw [Ry.oneN] at hl
 match cs, hl with
 | [v0, v1, v2, v3, v4], _ =>
 match xs, hlen with
 | [y0, y1, y2, y3, y4], _ =>
  have g0 : DataW.trod enc Tryz.prog W base spare held n 3 [v0] = some y0 := by simpa [Rx.oneI] using hf 0 _ rfl
  have g1 : DataW.trod enc Tryz.prog W base spare held n 9 [v1] = some y1 := by simpa [Rx.oneS] using hf 1 _ rfl
  have g2 : DataW.trod enc Tryz.prog W base spare held n 9 [v2] = some y2 := by simpa [Rx.oneS] using hf 2 _ rfl
  have g3 : DataW.trod enc Tryz.prog W base spare held n 46 [v3] = some y3 := by simpa [Rx.oneA] using hf 3 _ rfl
  have g4 : DataW.trod enc Tryz.prog W base spare held n 3 [v4] = some y4 := by simpa [Rx.oneI] using hf 4 _ rfl
  obtain ⟨k, e0, _, _⟩ := DataW.trod_int Tryz.underlying3 g0
  obtain ⟨s1, e1, e1', _⟩ := DataW.trod_string Tryz.underlying9 g1
  obtain ⟨s2, e2, e2', _⟩ := DataW.trod_string Tryz.underlying9 g2
  obtain ⟨al, hal, hsum⟩ := Ry.attrs g3
  obtain ⟨p, e4, _, _⟩ := DataW.trod_int Tryz.underlying3 g4
  simp only [List.cons.injEq, and_true] at e0 e1 e2 e4
  subst e0 e1 e2 e4
  have hall : Rows.uptoBulk (DataW.agg (List.map (fun x => x.fst) [y0, y1, y2, y3, y4])) = Rows.uptoBulk y0.1 + (Rows.uptoBulk y1.1 + (Rows.uptoBulk y2.1 + (Rows.uptoBulk y3.1 + (Rows.uptoBulk y4.1 + 0)))) + 1 := by simp [Rows.uptoBulk, Rows.uptoBulkAll]
  have hs1 := Rx.strBulk (H := H) s1
  have hs2 := Rx.strBulk (H := H) s2
  have e1b : Rows.uptoBulk y1.1 = Rows.uptoBulk (DataW.lit (.string s1.data.toList) : DataW H) := by rw [e1']
  have e2b : Rows.uptoBulk y2.1 = Rows.uptoBulk (DataW.lit (.string s2.data.toList) : DataW H) := by rw [e2']
  refine ⟨⟨k, s1, s2, al, p⟩, v3, rfl, hal, ?_, ?_⟩
  ·
   rw [hall]
   unfold Kb.w Kb.ats
   dsimp only
   split
   ·
    omega
   ·
    split <;> omega
  ·
   rw [hall]
   dsimp only
   omega
theorem Ry.nodes {H : Type} {enc : TypeId × Value → H} {W : World} {base : Nat} {spare : Nat → Bool} {held : Bool} {fuel : Nat} {v : Value} {x : DataW H × List MemPlace} (h : DataW.trod enc Tryz.prog W base spare held fuel 22 [v] = some x) (hx : Rows.uptoBulk x.1 ≤ 1048576) :
  ∃ ns : List Nd, Nd.Lies W (· < W.heap.size) ns v ∧ ns.length ≤ 1048576 ∧ (Sk.skel ns).length + 32 ≤ 140737488355328 ∧ ∀ x ∈ ns, x.text.size ≤ 281474976710656 := by
 obtain ⟨ak, len, cap, bs, rfl, h1, h2, hbl, hsum, h3, hX⟩ := Ry.slice Tryz.underlying22 Ry.oneN (by decide) h
 obtain ⟨ns, hl, hp⟩ := Rx.list (fun i (t : Nd) => (∃ b o av, ak = some ⟨b, o, none⟩ ∧ b < W.heap.size ∧ W.cell? ⟨b, o + i * 5, none⟩ = some (.int .i64 t.kind) ∧ W.cell? ⟨b, o + i * 5 + 1, none⟩ = some (.string t.name) ∧ W.cell? ⟨b, o + i * 5 + 2, none⟩ = some (.string t.text) ∧ W.cell? ⟨b, o + i * 5 + 3, none⟩ = some av ∧ W.cell? ⟨b, o + i * 5 + 4, none⟩ = some (.int .i64 t.parent) ∧ Ak.Lies W (· < W.heap.size) t.attrs av) ∧ ∀ q, bs[i]? = some q → Kb.w t ≤ 30 + q ∧ t.text.size ≤ q) len (fun i hi => by
  obtain ⟨q, hq⟩ : ∃ q, bs[i]? = some q := ⟨_, List.getElem?_eq_getElem (by omega)⟩
  obtain ⟨b, o, n', cs, d, e, hb, hc, ht, hu⟩ := hX i q hq
  obtain ⟨t, av, rfl, ha, hw, hw2⟩ := Ry.node ht
  exact ⟨t, ⟨b, o, av, e, hb, hc 0 (by decide), hc 1 (by decide), hc 2 (by decide), hc 3 (by decide), hc 4 (by decide), ha⟩, fun q' hq' => by rw [hq] at hq'; injection hq' with hq'; exact ⟨by omega, by omega⟩⟩)
 subst hl
 refine ⟨ns, ⟨ak, cap, rfl, h1, h2, fun j t hj => (hp j t hj).1⟩, by omega, ?_, fun t ht => ?_⟩
 rotate_left
 ·
  obtain ⟨j, hj⟩ := List.getElem?_of_mem ht
  obtain ⟨q, hq⟩ : ∃ q, bs[j]? = some q := ⟨_, List.getElem?_eq_getElem (by have := (List.getElem?_eq_some_iff.1 hj).1; omega)⟩
  have h8 := ((hp j t hj).2 q hq).2
  have h9 : q ≤ bs.sum := Ry.le_sum _ _ (List.mem_of_getElem? hq)
  omega
 refine Nat.le_trans (Nat.add_le_add_right (Kb.skel ns (by omega)) 32) ?_
 have := Ry.sum_map Kb.w ns (bs.map (30 + ·)) (by rw [List.length_map, hbl]) (fun i t q ht hq => by
  rw [List.getElem?_map] at hq
  obtain ⟨q', hq', rfl⟩ := Option.map_eq_some_iff.1 hq
  exact ((hp i t ht).2 q' hq').1)
 have h7 : ∀ l : List Nat, (l.map (30 + ·)).sum = 30 * l.length + l.sum := fun l => by
  induction l with
  | nil => rfl
  | cons a l ih => rw [List.map_cons, List.sum_cons, ih, List.length_cons, List.sum_cons]; omega
 rw [h7, hbl] at this
 omega
end Go.Proofs.YtblpkjlodncpeaaGreatDoor

/-
  THE WALK of stolelaw7.Trees: whatever the tokens (not too many, not too long), the call returns true.
-/
import Derived.Test.YthfobjkdcncoiaaUAw
import Derived.Test.YthfobjkdcncoiaaURef
import Derived.Test.YthfobjkdcncoiaaUPlain2
import Derived.Test.YthfobjkdcncoiaaUSpn
namespace Go.Proofs.Ythfobjkdcncoiaa
open Go.RowKit
def Tr.Says (f : FuncId) (ts : List Tk) (ns : List Nd) (k : Int) : Prop := ∀ (a : Option Addr) (d : Nat) (w : World), Tk.Lies w (· < w.heap.size) ts (.slice a ts.length d) →
  Calls Try.prog f #[.slice a ts.length d] w fun e w' => ∃ a' d', e = .returned (.tuple #[.slice a' ns.length d', .int .i64 k]) ∧ Nd.Lies w' (fun k => w.heap.size ≤ k ∧ k < w'.heap.size ∧ Rm.Ub w' k) ns (.slice a' ns.length d') ∧ ns.length ≤ d' ∧ Below w.heap.size w w'
theorem Tr.nil (w : World) (R : Nat → Prop) : Nd.Lies w R [] (.slice none 0 0) := ⟨none, 0, rfl, Nat.le_refl _, Nat.zero_le _, fun j x h => by simp at h⟩
/-- the program and the reference say the same -/
theorem Tr.both (ts : List Tk) (L : Nat) (hz : Bt.bulk ts ≤ 140737488355328) (hn : ∀ t ∈ ts, ∀ y ∈ t.attrs, y.1.size ≤ L) : ∃ (ns : List Nd) (k : Int), ns.length ≤ 4096 ∧ (∀ x ∈ ns, x.attrs.length ≤ 32 ∧ ∀ y ∈ x.attrs, y.1.size ≤ L) ∧ Tr.Says 9 ts ns k ∧ Tr.Says 10 ts ns k := by
  by_cases hm : ∀ t ∈ ts, t.May
  · cases hr : (Bt.run Bt.start ts).2 with
    | true =>
      refine ⟨(Bt.run Bt.start ts).1.out, 0, Bt.run_len ts Bt.start (by decide) hr, Bt.nice ts hm hn, fun a d w h => ?_, fun a d w h => ?_⟩
      · refine (Pg.build ts a d w h hz).mono ?_
        rintro e w' ⟨hb, ⟨q, _⟩ | ⟨_, q, _⟩ | ⟨_, _, v, rfl, hl⟩⟩
        · exact absurd hm q
        · rw [hr] at q; cases q
        · obtain ⟨a', d', rfl, h1, r⟩ := id hl
          exact ⟨a', d', rfl, hl, h1, hb⟩
      · refine (Um.build ts a d w h (Nat.le_trans hz (by decide))).mono ?_
        rintro e w' ⟨hb, ⟨q, _⟩ | ⟨_, q, _⟩ | ⟨_, _, v, rfl, hl⟩⟩
        · exact absurd hm q
        · rw [hr] at q; cases q
        · obtain ⟨a', d', rfl, h1, r⟩ := id hl
          exact ⟨a', d', rfl, hl, h1, hb⟩
    | false =>
      refine ⟨[], 701, by decide, fun x hx => by simp at hx, fun a d w h => ?_, fun a d w h => ?_⟩
      · refine (Pg.build ts a d w h hz).mono ?_
        rintro e w' ⟨hb, ⟨q, _⟩ | ⟨_, _, rfl⟩ | ⟨_, q, _⟩⟩
        · exact absurd hm q
        · exact ⟨none, 0, rfl, Tr.nil _ _, Nat.le_refl _, hb⟩
        · rw [hr] at q; cases q
      · refine (Um.build ts a d w h (Nat.le_trans hz (by decide))).mono ?_
        rintro e w' ⟨hb, ⟨q, _⟩ | ⟨_, _, rfl⟩ | ⟨_, q, _⟩⟩
        · exact absurd hm q
        · exact ⟨none, 0, rfl, Tr.nil _ _, Nat.le_refl _, hb⟩
        · rw [hr] at q; cases q
  · refine ⟨[], 700, by decide, fun x hx => by simp at hx, fun a d w h => ?_, fun a d w h => ?_⟩
    · refine (Pg.build ts a d w h hz).mono ?_
      rintro e w' ⟨hb, ⟨_, rfl⟩ | ⟨q, _⟩ | ⟨q, _⟩⟩
      · exact ⟨none, 0, rfl, Tr.nil _ _, Nat.le_refl _, hb⟩
      · exact absurd q hm
      · exact absurd q hm
    · refine (Um.build ts a d w h (Nat.le_trans hz (by decide))).mono ?_
      rintro e w' ⟨hb, ⟨_, rfl⟩ | ⟨q, _⟩ | ⟨q, _⟩⟩
      · exact ⟨none, 0, rfl, Tr.nil _ _, Nat.le_refl _, hb⟩
      · exact absurd q hm
      · exact absurd q hm
theorem Tr.form {w : World} {R : Nat → Prop} {ts : List Tk} {v : Value} (h : Tk.Lies w R ts v) : ∃ a d, v = .slice a ts.length d := by
  obtain ⟨a, d, e, h1, h2, hx⟩ := h
  exact ⟨a, d, e⟩
set_option maxRecDepth 100000 in
set_option maxHeartbeats 4000000 in
theorem Law.trees (ts : List Tk) (a : Option Addr) (d : Nat) (w : World) (h : Tk.Lies w (· < w.heap.size) ts (.slice a ts.length d)) (hlen : ts.length ≤ 1048576) (hal : ∀ t ∈ ts, t.attrs.length ≤ 1048576) (hz : Bt.bulk ts ≤ 140737488355328) (hn : ∀ t ∈ ts, ∀ y ∈ t.attrs, y.1.size ≤ 1048576) :
    Calls Try.prog 3 #[.slice a ts.length d] w fun e w' => e = .returned (.bool true) ∧ Below w.heap.size w w' := by
  obtain ⟨ns, k, hns, hni, hp, hr⟩ := Tr.both ts 1048576 hz hn
  have cp := Um.copyTokens ts a d w h hlen hal
  have aw := fun u => Ta.awake u
  have hk : (k != k) = false := by simp
  have H := Lib.hid h
  clear h hal hz hn
  go_enter Try.func3, Try.ntmps3
  go_wp2_with (first | (go_at_call 8; refine cp.mono ?_; rintro e w1 ⟨v1, rfl, l1, b1⟩; clear cp; obtain ⟨ax, dx, rfl⟩ := Tr.form l1; have p1 := hp ax dx w1 (l1.on fun k hk => ⟨hk.2.1, rfl⟩)) | (go_at_call 9; refine p1.mono ?_; rintro e w2 ⟨a2, d2, rfl, l2, z2, b2⟩; clear p1; have q2 : Below w.heap.size w w2 := b1.trans (b2.mono b1.size); have p2 := hr a d w2 (H.out.on fun k hk => ⟨Nat.lt_of_lt_of_le hk q2.size, q2.block k hk⟩); have X2 : Tk.Lies w2 (fun k => w.heap.size ≤ k ∧ k < w1.heap.size) ts (.slice ax ts.length dx) := l1.on (fun k hk => ⟨⟨hk.1, hk.2.1⟩, b2.block k hk.2.1⟩); have s2 := b2.size; have s1 := b1.size; clear l1 b1 b2) | (go_at_call 10; refine p2.mono ?_; rintro e w3 ⟨a3, d3, rfl, l3, z3, b3⟩; clear p2; have q3 : Below w.heap.size w w3 := q2.trans (b3.mono q2.size); have s3 := b3.size; have X3 : Tk.Lies w3 (fun k => w.heap.size ≤ k ∧ k < w1.heap.size) ts (.slice ax ts.length dx) := X2.on (fun k hk => ⟨hk, b3.block k (by omega)⟩); have A3 : Nd.Lies w3 (fun k => (w1.heap.size ≤ k ∧ k < w2.heap.size) ∧ Rm.Ub w3 k) ns (.slice a2 ns.length d2) := l2.on (fun k hk => ⟨⟨⟨hk.1, hk.2.1⟩, hk.2.2.on (b3.block k hk.2.1)⟩, b3.block k hk.2.1⟩); have sn := Sa.nodes ns _ _ _ _ w3 A3 l3; clear X2 l2 b3 q2) | (go_at_call 11; refine sn.mono ?_; rintro e w' ⟨rfl, n1, hw⟩; have hw := hw.symm; subst hw; clear sn; have st := Sa.tokens ts _ _ _ _ (w3.drewN n1) (Tk.Lies.on X3 (w' := w3.drewN n1) (R' := fun k => w.heap.size ≤ k ∧ k < w1.heap.size) (fun k hk => ⟨hk, rfl⟩)) (H.out.on (R' := fun k => k < w.heap.size) (w' := w3.drewN n1) (fun k hk => ⟨hk, q3.block k hk⟩))) | (go_at_call 12; refine (Ta.num _ _).mono ?_; rintro e w' ⟨rfl, hw⟩; have hw := hw.symm; subst hw) | (go_at_call 13; refine st.mono ?_; rintro e w' ⟨rfl, n2, hw⟩; have hw := hw.symm; subst hw; clear st; have sq := Sq.nodes (fun k => w1.heap.size ≤ k ∧ k < w2.heap.size) a2 ns.length d2 1048576 (w3.drewN (n1 + n2)) (Sq.Nodes.of (w := w3.drewN (n1 + n2)) A3 hni) (by omega) z2 (by decide)) | (go_at_call 14; refine sq.mono ?_; rintro e w4 ⟨rfl, hR4⟩; clear sq A3; have q4 : Below w.heap.size w w4 := (Sa.drews q3 (n1 + n2)).trans (hR4.below (fun k q => Nat.le_trans s1 q.1)); have e4 : w4.heap.size = w3.heap.size := hR4.size; have X4 : Tk.Lies w4 (fun k => w.heap.size ≤ k ∧ k < w1.heap.size) ts (.slice ax ts.length dx) := X3.on (fun k hk => ⟨hk, hR4.out k (fun q => by omega)⟩); have B4 : Nd.Lies w4 (fun k => w2.heap.size ≤ k ∧ k < w4.heap.size) ns (.slice a3 ns.length d3) := l3.on (fun k hk => ⟨⟨hk.1, by omega⟩, hR4.out k (fun q => by omega)⟩); have p4 := hp ax dx w4 (X4.on (fun k hk => ⟨by omega, rfl⟩)); clear hR4 X3 l3 q3 hp) | (go_at_call 9; refine p4.mono ?_; rintro e w5 ⟨a5, d5, rfl, l5, z5, b5⟩; clear p4; have q5 : Below w.heap.size w w5 := q4.trans (b5.mono q4.size); have s5 := b5.size; have X5 : Tk.Lies w5 (fun k => w.heap.size ≤ k ∧ k < w1.heap.size) ts (.slice ax ts.length dx) := X4.on (fun k hk => ⟨hk, b5.block k (by omega)⟩); have B5 : Nd.Lies w5 (fun k => w2.heap.size ≤ k ∧ k < w4.heap.size) ns (.slice a3 ns.length d3) := B4.on (fun k hk => ⟨hk, b5.block k hk.2⟩); have sn5 := Sa.nodes ns _ _ _ _ w5 l5 B5; clear X4 B4 B5 l5 b5 q4) | (go_at_call 11; refine sn5.mono ?_; rintro e w' ⟨rfl, n5, hw⟩; have hw := hw.symm; subst hw; clear sn5; have st5 := Sa.tokens ts _ _ _ _ (w5.drewN n5) (Tk.Lies.on X5 (w' := w5.drewN n5) (R' := fun k => w.heap.size ≤ k ∧ k < w1.heap.size) (fun k hk => ⟨hk, rfl⟩)) (H.out.on (R' := fun k => k < w.heap.size) (w' := w5.drewN n5) (fun k hk => ⟨hk, q5.block k hk⟩))) | (go_at_call 13; refine st5.mono ?_; rintro e w' ⟨rfl, n6, hw⟩; have hw := hw.symm; subst hw; clear st5) | (go_at_call 15; refine (aw _).mono ?_; rintro e w7 ⟨rfl, b7⟩; have q7 := (Sa.drews q5 (n5 + n6)).trans (b7.mono (Sa.drews q5 (n5 + n6)).size); clear b7 aw))
  go_ret
  exact ⟨rfl, q7⟩
end Go.Proofs.Ythfobjkdcncoiaa

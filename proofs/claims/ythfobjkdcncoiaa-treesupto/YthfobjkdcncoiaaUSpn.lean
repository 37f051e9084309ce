/-
  THE WALK of stolelaw0.SpoilNodes: texts turn into texts, numbers into numbers; nothing else turns.
-/
import Derived.Test.YthfobjkdcncoiaaUSp
import Derived.Test.YthfobjkdcncoiaaUNode
namespace Go.Proofs.Ythfobjkdcncoiaa
open Go.RowKit
structure Sq.Rel (R : Nat → Prop) (n : Nat) (w w' : World) : Prop where
  os : w'.os = w.os
  tape : w'.tape = w.tape
  output : w'.output = w.output
  size : w'.heap.size = w.heap.size
  out : ∀ k, ¬ R k → w'.heap[k]? = w.heap[k]?
  str : ∀ b o (s : ByteArray), w.cell? ⟨b, o, none⟩ = some (.string s) → ∃ s' : ByteArray, w'.cell? ⟨b, o, none⟩ = some (.string s') ∧ s'.size ≤ s.size + n
  num : ∀ b o (x : Int), w.cell? ⟨b, o, none⟩ = some (.int .i64 x) → ∃ x' : Int, w'.cell? ⟨b, o, none⟩ = some (.int .i64 x')
  row : ∀ b o a m d, w.cell? ⟨b, o, none⟩ = some (.slice a m d) → w'.cell? ⟨b, o, none⟩ = some (.slice a m d)
  fz : ∀ b o, w'.frozen? ⟨b, o, none⟩ = w.frozen? ⟨b, o, none⟩
theorem Sq.Rel.refl (R : Nat → Prop) (w : World) : Sq.Rel R 0 w w := ⟨rfl, rfl, rfl, rfl, fun _ _ => rfl, fun _ _ s h => ⟨s, h, Nat.le_refl _⟩, fun _ _ x h => ⟨x, h⟩, fun _ _ _ _ _ h => h, fun _ _ => rfl⟩
theorem Sq.Rel.of {R : Nat → Prop} {n : Nat} {w w' : World} (h : Sp.Rel R n w w') : Sq.Rel R n w w' :=
  ⟨h.os, h.tape, h.output, h.size, h.out, h.str, fun b o x hx => ⟨x, h.oth b o _ hx (fun s q => by cases q)⟩, fun b o a m d hx => h.oth b o _ hx (fun s q => by cases q), h.fz⟩
theorem Sq.Rel.trans {R : Nat → Prop} {n m : Nat} {w w1 w2 : World} (h : Sq.Rel R n w w1) (g : Sq.Rel R m w1 w2) : Sq.Rel R (n + m) w w2 :=
  ⟨g.os.trans h.os, g.tape.trans h.tape, g.output.trans h.output, g.size.trans h.size, fun k hk => (g.out k hk).trans (h.out k hk), fun b o s hs => by
    obtain ⟨s1, h1, l1⟩ := h.str b o s hs
    obtain ⟨s2, h2, l2⟩ := g.str b o s1 h1
    exact ⟨s2, h2, by omega⟩, fun b o x hx => by
    obtain ⟨x1, h1⟩ := h.num b o x hx
    exact g.num b o x1 h1, fun b o a m d hx => g.row b o a m d (h.row b o a m d hx), fun b o => (g.fz b o).trans (h.fz b o)⟩
theorem Sq.Rel.wide {R : Nat → Prop} {n m : Nat} {w w1 : World} (h : Sq.Rel R n w w1) (hm : n ≤ m) : Sq.Rel R m w w1 :=
  ⟨h.os, h.tape, h.output, h.size, h.out, fun b o s hs => by
    obtain ⟨s1, h1, l1⟩ := h.str b o s hs
    exact ⟨s1, h1, by omega⟩, h.num, h.row, h.fz⟩
theorem Sq.Rel.below {R : Nat → Prop} {n lo : Nat} {w w' : World} (h : Sq.Rel R n w w') (hR : ∀ k, R k → lo ≤ k) : Below lo w w' := ⟨h.os, h.tape, h.output, Nat.le_of_eq h.size.symm, fun k hk => h.out k (fun q => by have := hR k q; omega)⟩
theorem Sq.set {R : Nat → Prop} {w : World} {b o : Nat} {x : Int} (hb : R b) (hc : w.cell? ⟨b, o, none⟩ = some (.int .i64 x)) (x' : Int) : Sq.Rel R 0 w (w.setCell ⟨b, o, none⟩ (.int .i64 x')) := by
  have hother : ∀ b1 o1, (¬ (b1 = b ∧ o1 = o)) → (w.setCell ⟨b, o, none⟩ (.int .i64 x')).cell? ⟨b1, o1, none⟩ = w.cell? ⟨b1, o1, none⟩ := fun b1 o1 hn =>
    World.cell?_setCell_other _ _ _ _ (fun e => hn (by injection e with e1 e2 e3; exact ⟨e1.symm, e2.symm⟩))
  have hself : (w.setCell ⟨b, o, none⟩ (.int .i64 x')).cell? ⟨b, o, none⟩ = some (.int .i64 x') := by simp [go_sem, hc]
  refine ⟨rfl, rfl, rfl, by simp, fun k hk => Below.heap_setCell _ _ _ _ (fun e => hk (by rw [e]; exact hb)), fun b1 o1 s1 h1 => ?_, fun b1 o1 y h1 => ?_, fun b1 o1 a m d h1 => ?_, fun _ _ => by rw [World.frozen?_setCell]⟩
  · by_cases e : b1 = b ∧ o1 = o
    · obtain ⟨rfl, rfl⟩ := e
      rw [hc] at h1
      injection h1 with h1
      cases h1
    · exact ⟨s1, (hother b1 o1 e).trans h1, by omega⟩
  · by_cases e : b1 = b ∧ o1 = o
    · obtain ⟨rfl, rfl⟩ := e
      exact ⟨x', hself⟩
    · exact ⟨y, (hother b1 o1 e).trans h1⟩
  · by_cases e : b1 = b ∧ o1 = o
    · obtain ⟨rfl, rfl⟩ := e
      rw [hc] at h1
      injection h1 with h1
      cases h1
    · exact (hother b1 o1 e).trans h1
theorem Sq.names {w w' : World} {R : Nat → Prop} {a : Option Addr} {m L n : Nat} (h : Sp.Names w R a m L) (g : Sq.Rel R n w w') : Sp.Names w' R a m (L + n) := fun j hj => by
  obtain ⟨b, o, s, e, hb, hf, hc, hs⟩ := h j hj
  obtain ⟨s', hc', hs'⟩ := g.str _ _ _ hc
  exact ⟨b, o, s', e, hb, fun q => (g.fz _ _).trans (hf q), hc', by omega⟩
/-- a row of nodes whose parents and whose attributes' names may be written -/
def Sq.Nodes (w : World) (R : Nat → Prop) (a : Option Addr) (n L : Nat) : Prop := ∀ i, i < n → ∃ b o, ∃ x : Int, ∃ aa am ad, a = some ⟨b, o, none⟩ ∧ R b ∧ (∀ q, w.frozen? ⟨b, q, none⟩ = false) ∧ w.cell? ⟨b, o + i * 5 + 4, none⟩ = some (.int .i64 x) ∧ w.cell? ⟨b, o + i * 5 + 3, none⟩ = some (.slice aa am ad) ∧ am ≤ 32 ∧ am ≤ ad ∧ Sp.Names w R aa am L
theorem Sq.Nodes.on {w w' : World} {R : Nat → Prop} {a : Option Addr} {m L n : Nat} (h : Sq.Nodes w R a m L) (g : Sq.Rel R n w w') : Sq.Nodes w' R a m (L + n) := fun j hj => by
  obtain ⟨b, o, x, aa, am, ad, e, hb, hf, hc, hc3, h1, h2, hn⟩ := h j hj
  obtain ⟨x', hc'⟩ := g.num _ _ _ hc
  exact ⟨b, o, x', aa, am, ad, e, hb, fun q => (g.fz _ _).trans (hf q), hc', g.row _ _ _ _ _ hc3, h1, h2, Sq.names hn g⟩
set_option maxHeartbeats 2000000 in
theorem Sq.nodes (R : Nat → Prop) (a : Option Addr) (m d L : Nat) (w : World) (h : Sq.Nodes w R a m L) (hm : m ≤ 1000000) (hd : m ≤ d) (hL : L ≤ 100000000) :
    Calls Try.prog 14 #[.slice a m d] w fun e w' => e = .returned (.tuple #[]) ∧ Sq.Rel R (m * 32) w w' := by
  have H := Lib.hid h
  clear h
  go_enter Try.func14, Try.ntmps14
  go_wp2
  go_loopw [2] (fun ix wr => ∃ j : Nat, j ≤ m ∧ ix = .int .i64 (j : Int) ∧ Hid (Sq.Rel R (j * 32) w wr)) (fun ix _ => m - (intOf ix).toNat)
  case atStart => exact ⟨0, Nat.zero_le _, by go_num, Sq.Rel.refl _ _⟩
  case round =>
    obtain ⟨j, hj, rfl, HR⟩ := hrel
    by_cases hlt : j < m
    · obtain ⟨b, o, x, aa, am, ad, rfl, hb, hf, hc, hc3, h1, h2, hn⟩ := (H.out.on HR.out) j hlt
      have d1 : decide ((j : Int) < (m : Int)) = true := decide_eq_true (by omega)
      have hjd : j < d := by omega
      have sp := Sp.attrs R aa am ad (L + j * 32) wr hn (by omega) h2 (by omega)
      have HB := Lib.hid hb
      have HC := Lib.hid hc
      have HF := Lib.hid hf
      clear H hn hb hc hf h2
      go_wp2_with (go_at_call 25; refine sp.mono ?_; rintro e w2 ⟨rfl, hR2⟩; clear sp; have hR2 := Sq.Rel.of hR2; obtain ⟨x2, c2⟩ := hR2.num _ _ _ HC.out; have f2 : ∀ q, w2.frozen? ⟨b, q, none⟩ = false := (fun q => (hR2.fz _ _).trans (HF.out q)); have HN : Hid (∀ y, Sq.Rel R ((j + 1) * 32) w (w2.setCell ⟨b, o + j * 5 + 4, none⟩ (.int .i64 y))) := (fun y => ((HR.out.trans hR2).trans (Sq.set HB.out c2 y)).wide (by omega)); clear hR2)
      go_roundw
      case rel => exact ⟨j + 1, by omega, by go_num, HN.out _⟩
      case measure => simp [intOf]; omega
    · have e : j = m := by omega
      subst e
      have d1 : decide ((j : Int) < (j : Int)) = false := decide_eq_false (by omega)
      go_wp2
      go_end0
      exact ⟨rfl, HR.out⟩
/-- nodes that lie in blocks of their own may be written -/
theorem Sq.Nodes.of {w : World} {R : Nat → Prop} {ns : List Nd} {a : Option Addr} {d L : Nat} (h : Nd.Lies w (fun k => R k ∧ Rm.Ub w k) ns (.slice a ns.length d)) (hn : ∀ x ∈ ns, x.attrs.length ≤ 32 ∧ ∀ y ∈ x.attrs, y.1.size ≤ L) : Sq.Nodes w R a ns.length L := fun i hi => by
  obtain ⟨a', d', e, h1, h2, hx⟩ := h
  injection e with e1 e2 e3
  subst e1
  obtain ⟨b, o, av, ea, hb, c0, c1, c2, c3, c4, hl⟩ := hx i ns[i] (List.getElem?_eq_getElem hi)
  obtain ⟨n2, n3⟩ := hn _ (List.getElem_mem hi)
  obtain ⟨aa, ad, rfl, g1, g2, gx⟩ := hl
  refine ⟨b, o, _, aa, _, ad, ea, hb.1, hb.2, c4, c3, n2, g1, fun j hj => ?_⟩
  obtain ⟨b', o', ea', hb', k1, k2⟩ := gx j ns[i].attrs[j] (List.getElem?_eq_getElem hj)
  exact ⟨b', o', _, ea', hb'.1, hb'.2, k1, n3 _ (List.getElem_mem hj)⟩
end Go.Proofs.Ythfobjkdcncoiaa

/-
  THE WALK of stolelaw0.SpoilAttrs: a text in its cell becomes another text; nothing else turns.
-/
import Derived.Test.YthfobjkdcncoiaaTMem
import Derived.Test.YthfobjkdcncoiaaTKit
namespace Go.Proofs.Ythfobjkdcncoiaa
open Go.RowKit
/-- texts of blocks of R have turned into texts of at most n bytes more; nothing else has turned -/
structure Sp.Rel (R : Nat → Prop) (n : Nat) (w w' : World) : Prop where
  os : w'.os = w.os
  tape : w'.tape = w.tape
  output : w'.output = w.output
  size : w'.heap.size = w.heap.size
  out : ∀ k, ¬ R k → w'.heap[k]? = w.heap[k]?
  str : ∀ b o (s : ByteArray), w.cell? ⟨b, o, none⟩ = some (.string s) → ∃ s' : ByteArray, w'.cell? ⟨b, o, none⟩ = some (.string s') ∧ s'.size ≤ s.size + n
  oth : ∀ b o v, w.cell? ⟨b, o, none⟩ = some v → (∀ s, v ≠ .string s) → w'.cell? ⟨b, o, none⟩ = some v
  fz : ∀ b o, w'.frozen? ⟨b, o, none⟩ = w.frozen? ⟨b, o, none⟩
theorem Sp.Rel.refl (R : Nat → Prop) (w : World) : Sp.Rel R 0 w w := ⟨rfl, rfl, rfl, rfl, fun _ _ => rfl, fun _ _ s h => ⟨s, h, Nat.le_refl _⟩, fun _ _ _ h _ => h, fun _ _ => rfl⟩
theorem Sp.Rel.trans {R : Nat → Prop} {n m : Nat} {w w1 w2 : World} (h : Sp.Rel R n w w1) (g : Sp.Rel R m w1 w2) : Sp.Rel R (n + m) w w2 :=
  ⟨g.os.trans h.os, g.tape.trans h.tape, g.output.trans h.output, g.size.trans h.size, fun k hk => (g.out k hk).trans (h.out k hk), fun b o s hs => by
    obtain ⟨s1, h1, l1⟩ := h.str b o s hs
    obtain ⟨s2, h2, l2⟩ := g.str b o s1 h1
    exact ⟨s2, h2, by omega⟩, fun b o v hv hn => g.oth b o v (h.oth b o v hv hn) hn, fun b o => (g.fz b o).trans (h.fz b o)⟩
theorem Sp.Rel.wide {R : Nat → Prop} {n m : Nat} {w w1 : World} (h : Sp.Rel R n w w1) (hm : n ≤ m) : Sp.Rel R m w w1 :=
  ⟨h.os, h.tape, h.output, h.size, h.out, fun b o s hs => by
    obtain ⟨s1, h1, l1⟩ := h.str b o s hs
    exact ⟨s1, h1, by omega⟩, h.oth, h.fz⟩
theorem Sp.Rel.drew {R : Nat → Prop} {n : Nat} {w w1 : World} (h : Sp.Rel R n w w1) : Sp.Rel R n w w1.drew := ⟨h.os, h.tape, h.output, h.size, h.out, h.str, h.oth, h.fz⟩
theorem Sp.set {R : Nat → Prop} {w : World} {b o : Nat} {s s' : ByteArray} (hb : R b) (hc : w.cell? ⟨b, o, none⟩ = some (.string s)) (hs : s'.size ≤ s.size + 1) : Sp.Rel R 1 w (w.setCell ⟨b, o, none⟩ (.string s')) := by
  have hother : ∀ b1 o1, (¬ (b1 = b ∧ o1 = o)) → (w.setCell ⟨b, o, none⟩ (.string s')).cell? ⟨b1, o1, none⟩ = w.cell? ⟨b1, o1, none⟩ := fun b1 o1 hn => by
    exact World.cell?_setCell_other _ _ _ _ (fun e => hn (by injection e with e1 e2 e3; exact ⟨e1.symm, e2.symm⟩))
  have hself : (w.setCell ⟨b, o, none⟩ (.string s')).cell? ⟨b, o, none⟩ = some (.string s') := by simp [go_sem, hc]
  refine ⟨rfl, rfl, rfl, by simp, fun k hk => Below.heap_setCell _ _ _ _ (fun e => hk (by rw [e]; exact hb)), fun b1 o1 s1 h1 => ?_, fun b1 o1 v h1 hn => ?_, fun _ _ => by rw [World.frozen?_setCell]⟩
  · by_cases e : b1 = b ∧ o1 = o
    · obtain ⟨rfl, rfl⟩ := e
      rw [hc] at h1
      injection h1 with h1
      injection h1 with h1
      exact ⟨s', hself, by rw [← h1]; exact hs⟩
    · exact ⟨s1, (hother b1 o1 e).trans h1, by omega⟩
  · by_cases e : b1 = b ∧ o1 = o
    · obtain ⟨rfl, rfl⟩ := e
      rw [hc] at h1
      injection h1 with h1
      exact absurd h1.symm (hn s)
    · exact (hother b1 o1 e).trans h1
/-- a row's names: texts of at most L bytes that may be written -/
def Sp.Names (w : World) (R : Nat → Prop) (a : Option Addr) (m L : Nat) : Prop := ∀ j, j < m → ∃ b o, ∃ s : ByteArray, a = some ⟨b, o, none⟩ ∧ R b ∧ (∀ q, w.frozen? ⟨b, q, none⟩ = false) ∧ w.cell? ⟨b, o + j * 2, none⟩ = some (.string s) ∧ s.size ≤ L
theorem Sp.Names.on {w w' : World} {R : Nat → Prop} {a : Option Addr} {m L n : Nat} (h : Sp.Names w R a m L) (g : Sp.Rel R n w w') : Sp.Names w' R a m (L + n) := fun j hj => by
  obtain ⟨b, o, s, e, hb, hf, hc, hs⟩ := h j hj
  obtain ⟨s', hc', hs'⟩ := g.str _ _ _ hc
  exact ⟨b, o, s', e, hb, fun q => (g.fz _ _).trans (hf q), hc', by omega⟩
set_option maxHeartbeats 2000000 in
theorem Sp.attrs (R : Nat → Prop) (a : Option Addr) (m d L : Nat) (w : World) (h : Sp.Names w R a m L) (hm : m ≤ 1000000) (hd : m ≤ d) (hL : L ≤ 1000000000) :
    Calls Try.prog 25 #[.slice a m d] w fun e w' => e = .returned (.tuple #[]) ∧ Sp.Rel R m w w' := by
  have H := Lib.hid h
  clear h
  go_enter Try.func25, Try.ntmps25
  go_wp2
  go_loopw [2] (fun ix wr => ∃ j : Nat, j ≤ m ∧ ix = .int .i64 (j : Int) ∧ Hid (Sp.Rel R j w wr)) (fun ix _ => m - (intOf ix).toNat)
  case atStart => exact ⟨0, Nat.zero_le _, by go_num, Sp.Rel.refl _ _⟩
  case round =>
    obtain ⟨j, hj, rfl, HR⟩ := hrel
    by_cases hlt : j < m
    · obtain ⟨b, o, s, rfl, hb, hf, hc, hs⟩ := (H.out.on HR.out) j hlt
      have d1 : decide ((j : Int) < (m : Int)) = true := decide_eq_true (by omega)
      have hjd : j < d := by omega
      have hsz : (s ++ (⟨#[33]⟩ : ByteArray)).size = s.size + 1 := by rw [ByteArray.size_append]; rfl
      obtain ⟨s', hs'⟩ : ∃ s' : ByteArray, s ++ ⟨#[33]⟩ = s' := ⟨_, rfl⟩
      rw [hs'] at hsz
      have HN := Lib.hid (HR.out.trans (Sp.set (s' := s') hb hc (by omega)))
      have hz : s.size ≤ 1001000000 := by omega
      clear H hs
      go_wp2
      go_roundw
      case rel => exact ⟨j + 1, by omega, by go_num, HN.out⟩
      case measure => simp [intOf]; omega
    · have e : j = m := by omega
      subst e
      have d1 : decide ((j : Int) < (j : Int)) = false := decide_eq_false (by omega)
      go_wp2
      go_end0
      exact ⟨rfl, HR.out⟩
theorem Sp.Rel.below {R : Nat → Prop} {n lo : Nat} {w w' : World} (h : Sp.Rel R n w w') (hR : ∀ k, R k → lo ≤ k) : Below lo w w' := ⟨h.os, h.tape, h.output, Nat.le_of_eq h.size.symm, fun k hk => h.out k (fun q => by have := hR k q; omega)⟩
end Go.Proofs.Ythfobjkdcncoiaa

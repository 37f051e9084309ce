/-
  THE WALK of stolelaw0.SpoilTexts: a text in its cell becomes another text; nothing else turns.
-/
import Derived.Test.YtnophkbbeipaaaaGTxt
namespace Go.Proofs.Ytnophkbbeipaaaa
open Go.RowKit
/-- texts of blocks of R have turned into texts of at most n bytes more, numbers into numbers; nothing else has turned -/
structure Sw.Rel (R : Nat → Prop) (n : Nat) (w w' : World) : Prop where
  os : w'.os = w.os
  tape : w'.tape = w.tape
  output : w'.output = w.output
  size : w'.heap.size = w.heap.size
  out : ∀ k, ¬ R k → w'.heap[k]? = w.heap[k]?
  str : ∀ b o (s : ByteArray), w.cell? ⟨b, o, none⟩ = some (.string s) → ∃ s' : ByteArray, w'.cell? ⟨b, o, none⟩ = some (.string s') ∧ s'.size ≤ s.size + n
  num : ∀ b o (x : Int), w.cell? ⟨b, o, none⟩ = some (.int .i64 x) → ∃ y : Int, w'.cell? ⟨b, o, none⟩ = some (.int .i64 y)
  row : ∀ b o a m d, w.cell? ⟨b, o, none⟩ = some (.slice a m d) → w'.cell? ⟨b, o, none⟩ = some (.slice a m d)
  fz : ∀ b o, w'.frozen? ⟨b, o, none⟩ = w.frozen? ⟨b, o, none⟩
theorem Sw.Rel.refl (R : Nat → Prop) (w : World) : Sw.Rel R 0 w w := ⟨rfl, rfl, rfl, rfl, fun _ _ => rfl, fun _ _ s h => ⟨s, h, Nat.le_refl _⟩, fun _ _ x h => ⟨x, h⟩, fun _ _ _ _ _ h => h, fun _ _ => rfl⟩
theorem Sw.Rel.trans {R : Nat → Prop} {n m : Nat} {w w1 w2 : World} (h : Sw.Rel R n w w1) (g : Sw.Rel R m w1 w2) : Sw.Rel R (n + m) w w2 :=
  ⟨g.os.trans h.os, g.tape.trans h.tape, g.output.trans h.output, g.size.trans h.size, fun k hk => (g.out k hk).trans (h.out k hk), fun b o s hs => by
    obtain ⟨s1, h1, l1⟩ := h.str b o s hs
    obtain ⟨s2, h2, l2⟩ := g.str b o s1 h1
    exact ⟨s2, h2, by omega⟩, fun b o x hx => by
    obtain ⟨y, hy⟩ := h.num b o x hx
    exact g.num b o y hy, fun b o a m d hv => g.row b o a m d (h.row b o a m d hv), fun b o => (g.fz b o).trans (h.fz b o)⟩
theorem Sw.Rel.wide {R : Nat → Prop} {n m : Nat} {w w1 : World} (h : Sw.Rel R n w w1) (hm : n ≤ m) : Sw.Rel R m w w1 :=
  ⟨h.os, h.tape, h.output, h.size, h.out, fun b o s hs => by
    obtain ⟨s1, h1, l1⟩ := h.str b o s hs
    exact ⟨s1, h1, by omega⟩, h.num, h.row, h.fz⟩
theorem Sw.Rel.drewN {R : Nat → Prop} {n : Nat} {w w1 : World} (h : Sw.Rel R n w w1) (q : Nat) : Sw.Rel R n w (w1.drewN q) := ⟨h.os, h.tape, h.output, h.size, h.out, h.str, h.num, h.row, h.fz⟩
theorem Sw.other {w : World} {b o : Nat} {v : Value} {b1 o1 : Nat} (hn : ¬ (b1 = b ∧ o1 = o)) : (w.setCell ⟨b, o, none⟩ v).cell? ⟨b1, o1, none⟩ = w.cell? ⟨b1, o1, none⟩ :=
  World.cell?_setCell_other _ _ _ _ (fun e => hn (by injection e with e1 e2 e3; exact ⟨e1.symm, e2.symm⟩))
theorem Sw.set {R : Nat → Prop} {w : World} {b o : Nat} {s s' : ByteArray} (hb : R b) (hc : w.cell? ⟨b, o, none⟩ = some (.string s)) (hs : s'.size ≤ s.size + 1) : Sw.Rel R 1 w (w.setCell ⟨b, o, none⟩ (.string s')) := by
  have hself : (w.setCell ⟨b, o, none⟩ (.string s')).cell? ⟨b, o, none⟩ = some (.string s') := by simp [go_sem, hc]
  refine ⟨rfl, rfl, rfl, by simp, fun k hk => Below.heap_setCell _ _ _ _ (fun e => hk (by rw [e]; exact hb)), fun b1 o1 s1 h1 => ?_, fun b1 o1 x h1 => ?_, fun b1 o1 a m d h1 => ?_, fun _ _ => by rw [World.frozen?_setCell]⟩
  all_goals by_cases e : b1 = b ∧ o1 = o
  · obtain ⟨rfl, rfl⟩ := e
    rw [hc] at h1
    injection h1 with h1
    injection h1 with h1
    exact ⟨s', hself, by rw [← h1]; exact hs⟩
  · exact ⟨s1, (Sw.other e).trans h1, by omega⟩
  · obtain ⟨rfl, rfl⟩ := e
    rw [hc] at h1
    cases h1
  · exact ⟨x, (Sw.other e).trans h1⟩
  · obtain ⟨rfl, rfl⟩ := e
    rw [hc] at h1
    cases h1
  · exact (Sw.other e).trans h1
theorem Sw.setN {R : Nat → Prop} {w : World} {b o : Nat} {x y : Int} (hb : R b) (hc : w.cell? ⟨b, o, none⟩ = some (.int .i64 x)) : Sw.Rel R 0 w (w.setCell ⟨b, o, none⟩ (.int .i64 y)) := by
  have hself : (w.setCell ⟨b, o, none⟩ (.int .i64 y)).cell? ⟨b, o, none⟩ = some (.int .i64 y) := by simp [go_sem, hc]
  refine ⟨rfl, rfl, rfl, by simp, fun k hk => Below.heap_setCell _ _ _ _ (fun e => hk (by rw [e]; exact hb)), fun b1 o1 s1 h1 => ?_, fun b1 o1 x1 h1 => ?_, fun b1 o1 a m d h1 => ?_, fun _ _ => by rw [World.frozen?_setCell]⟩
  all_goals by_cases e : b1 = b ∧ o1 = o
  · obtain ⟨rfl, rfl⟩ := e
    rw [hc] at h1
    cases h1
  · exact ⟨s1, (Sw.other e).trans h1, Nat.le_refl _⟩
  · obtain ⟨rfl, rfl⟩ := e
    exact ⟨y, hself⟩
  · exact ⟨x1, (Sw.other e).trans h1⟩
  · obtain ⟨rfl, rfl⟩ := e
    rw [hc] at h1
    cases h1
  · exact (Sw.other e).trans h1
/-- a row of texts of at most L bytes that may be written -/
def Sw.Txts (w : World) (R : Nat → Prop) (a : Option Addr) (m L : Nat) : Prop := ∀ j, j < m → ∃ b o, ∃ s : ByteArray, a = some ⟨b, o, none⟩ ∧ R b ∧ (∀ q, w.frozen? ⟨b, q, none⟩ = false) ∧ w.cell? ⟨b, o + j, none⟩ = some (.string s) ∧ s.size ≤ L
theorem Sw.Txts.on {w w' : World} {R : Nat → Prop} {a : Option Addr} {m L n : Nat} (h : Sw.Txts w R a m L) (g : Sw.Rel R n w w') : Sw.Txts w' R a m (L + n) := fun j hj => by
  obtain ⟨b, o, s, e, hb, hf, hc, hs⟩ := h j hj
  obtain ⟨s', hc', hs'⟩ := g.str _ _ _ hc
  exact ⟨b, o, s', e, hb, fun q => (g.fz _ _).trans (hf q), hc', by omega⟩
set_option maxHeartbeats 2000000 in
theorem Sw.texts (R : Nat → Prop) (a : Option Addr) (m d L : Nat) (w : World) (h : Sw.Txts w R a m L) (hm : m ≤ 1000000) (hd : m ≤ d) (hL : L ≤ 4611686018427387904) :
    Calls Try.prog 20 #[.slice a m d] w fun e w' => e = .returned (.tuple #[]) ∧ Sw.Rel R m w w' := by
  have H := Lib.hid h
  clear h
  go_enter Try.func20, Try.ntmps20
  go_wp2
  go_loopw [2] (fun ix wr => ∃ j : Nat, j ≤ m ∧ ix = .int .i64 (j : Int) ∧ Hid (Sw.Rel R j w wr)) (fun ix _ => m - (intOf ix).toNat)
  case atStart => exact ⟨0, Nat.zero_le _, by go_num, Sw.Rel.refl _ _⟩
  case round =>
    obtain ⟨j, hj, rfl, HR⟩ := hrel
    by_cases hlt : j < m
    · obtain ⟨b, o, s, rfl, hb, hf, hc, hs⟩ := (H.out.on HR.out) j hlt
      have d1 : decide ((j : Int) < (m : Int)) = true := decide_eq_true (by omega)
      have hjd : j < d := by omega
      have hsz : ((⟨#[126]⟩ : ByteArray) ++ s).size = s.size + 1 := by rw [ByteArray.size_append]; show 1 + s.size = _; omega
      obtain ⟨s', hs'⟩ : ∃ s' : ByteArray, (⟨#[126]⟩ : ByteArray) ++ s = s' := ⟨_, rfl⟩
      rw [hs'] at hsz
      have HN := Lib.hid (HR.out.trans (Sw.set (s' := s') hb hc (by omega)))
      have hz : s.size ≤ 4611686018428387904 := by omega
      clear H hs
      go_wp2
      go_roundw
      case rel => exact ⟨j + 1, by omega, by go_num, HN.out⟩
      case measure => simp [intOf]; omega
    · have e : j = m := by omega
      subst e
      have d1 : decide ((j : Int) < (j : Int)) = false := decide_eq_false (by omega)
      go_wp2
      go_end0
      exact ⟨rfl, HR.out⟩
end Go.Proofs.Ytnophkbbeipaaaa

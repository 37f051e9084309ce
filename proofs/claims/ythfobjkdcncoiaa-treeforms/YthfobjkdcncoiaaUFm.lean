/-
  PLAIN AND SMALL, for stolelaw7.TreeForms: many void elements; a token that is none.
-/
import Derived.Test.YthfobjkdcncoiaaUTs
import Derived.Test.YthfobjkdcncoiaaUPlain2
namespace Go.Proofs.Ythfobjkdcncoiaa
open Go.RowKit
def Fm.br : Tk := ⟨1, ⟨#[98, 114]⟩, Ts.e, [], false⟩
theorem Fm.token (m : Bt) : m.token Fm.br = m.node ⟨1, ⟨#[98, 114]⟩, Ts.e, [], 0⟩ := by
  unfold Bt.token
  rw [if_neg (by decide), if_neg (by decide), if_pos (show Fm.br.kind = 1 from rfl), if_neg (fun q => q.1 (by decide +kernel))]
  rfl
theorem Fm.run : ∀ (n : Nat) (m : Bt), m.out.length + n ≤ 4096 → (Bt.run m (List.replicate n Fm.br)).2 = true ∧ (Bt.run m (List.replicate n Fm.br)).1.out.length = m.out.length + n
  | 0, m, _ => ⟨rfl, rfl⟩
  | n + 1, m, h => by
    have hl : (m.token Fm.br).out.length = m.out.length + 1 := by rw [Fm.token]; show (m.out ++ [_]).length = _; rw [List.length_append]; rfl
    rw [List.replicate_succ]
    unfold Bt.run
    rw [if_neg (by omega)]
    have := Fm.run n (m.token Fm.br) (by omega)
    exact ⟨this.1, by omega⟩
theorem Fm.full : ∀ (n : Nat) (m : Bt), m.out.length ≤ 4096 → 4096 < m.out.length + n → (Bt.run m (List.replicate n Fm.br)).2 = false
  | 0, m, h, h2 => by omega
  | n + 1, m, h, h2 => by
    have hl : (m.token Fm.br).out.length = m.out.length + 1 := by rw [Fm.token]; show (m.out ++ [_]).length = _; rw [List.length_append]; rfl
    rw [List.replicate_succ]
    unfold Bt.run
    by_cases q : 4096 < (m.token Fm.br).out.length
    · rw [if_pos q]
    · rw [if_neg q]
      exact Fm.full n (m.token Fm.br) (by omega) (by omega)
theorem Fm.may (k : Nat) : ∀ t ∈ List.replicate k Fm.br, t.May := fun t ht => by
  rw [List.eq_of_mem_replicate ht]
  exact Tk.may_tag (.inl rfl) (by decide)
theorem Fm.bulk (k : Nat) : Bt.bulk (List.replicate k Fm.br) = 0 := by
  unfold Bt.bulk
  rw [List.map_replicate]
  show (List.replicate k 0).sum = 0
  induction k with
  | zero => rfl
  | succ k ih => rw [List.replicate_succ, List.sum_cons, ih]
/-- one token that may not be -/
theorem Fm.noTok (W : World) (g : Nat) (hg : W.heap.size = g) (T : Tk) (aa : Option Addr) (an ad : Nat) (hl : Ak.Lies W (· < W.heap.size) T.attrs (.slice aa an ad)) (hz : T.text.size ≤ 100) (hm : ¬ T.May) :
    Calls Try.prog 9 #[.slice (some ⟨g, 0, none⟩) 1 1] (W.alloc (.cells #[.int .i64 T.kind, .string T.name, .string T.text, .slice aa an ad, .bool T.self] 41)) fun e w' => e = .returned (.tuple #[.slice none 0 0, .int .i64 700]) ∧ Below W.heap.size W w' := by
  subst hg
  refine (Pg.form [T] (some ⟨W.heap.size, 0, none⟩) 1 _ (Tk.Lies.lit [T] [.slice aa an ad] _ (heap_alloc_new W _) rfl (by show W.heap.size < _; simp) (by show (1 : Nat) ≤ maxLen; decide) ⟨hl.on fun k hk => ⟨by show k < (W.alloc _).heap.size; simp; omega, Below.heap_alloc _ _ _ hk⟩, trivial⟩) (by show T.text.size + 0 ≤ _; omega) (fun q => hm (q T (List.mem_singleton.2 rfl)))).mono ?_
  rintro e w' ⟨rfl, hb⟩
  exact ⟨rfl, ((Below.refl _ _).alloc (Nat.le_refl _) _).trans (hb.mono (by simp))⟩
theorem Fm.pair {W : World} {A : Nat} {n0 v0 n1 v1 : ByteArray} (R : Nat → Prop) (hR : R A) (c0 : W.cell? ⟨A, 0, none⟩ = some (.string n0)) (c1 : W.cell? ⟨A, 1, none⟩ = some (.string v0)) (c2 : W.cell? ⟨A, 2, none⟩ = some (.string n1)) (c3 : W.cell? ⟨A, 3, none⟩ = some (.string v1)) : Ak.Lies W R [(n0, v0), (n1, v1)] (.slice (some ⟨A, 0, none⟩) 2 2) := by
  refine ⟨some ⟨A, 0, none⟩, 2, rfl, Nat.le_refl _, by decide, fun j y hj => ?_⟩
  have hj2 : j = 0 ∨ j = 1 := by
    have h2 : j < 2 := (List.getElem?_eq_some_iff.1 hj).1
    omega
  rcases hj2 with rfl | rfl
  · have : y = (n0, v0) := by simpa using hj.symm
    subst this
    exact ⟨A, 0, rfl, hR, c0, c1⟩
  · have : y = (n1, v1) := by simpa using hj.symm
    subst this
    exact ⟨A, 0, rfl, hR, c2, c3⟩
def Fm.ab : List (ByteArray × ByteArray) := [(⟨#[97]⟩, Ts.e), (⟨#[98]⟩, Ts.e)]
/-- the token that may be -/
theorem Fm.okTok (W : World) (A : Nat) (hl : Ak.Lies W (· < W.heap.size) Fm.ab (.slice (some ⟨A, 0, none⟩) 2 2)) :
    Calls Try.prog 9 #[.slice (some ⟨W.heap.size, 0, none⟩) 1 1] (W.alloc (.cells #[.int .i64 1, .string ⟨#[112]⟩, .string ⟨#[]⟩, .slice (some ⟨A, 0, none⟩) 2 2, .bool false] 41)) fun e w' => ∃ a' d', e = .returned (.tuple #[.slice a' 2 d', .int .i64 0]) ∧ Below W.heap.size W w' := by
  have hr : (Bt.run Bt.start [⟨1, ⟨#[112]⟩, Ts.e, Fm.ab, false⟩]).2 = true ∧ (Bt.run Bt.start [⟨1, ⟨#[112]⟩, Ts.e, Fm.ab, false⟩]).1.out.length = 2 := by decide +kernel
  refine (Pg.ok [⟨1, ⟨#[112]⟩, Ts.e, Fm.ab, false⟩] (some ⟨W.heap.size, 0, none⟩) 1 _ (Tk.Lies.lit [⟨1, ⟨#[112]⟩, Ts.e, Fm.ab, false⟩] [.slice (some ⟨A, 0, none⟩) 2 2] _ (heap_alloc_new W _) rfl (by show W.heap.size < _; simp) (by show (1 : Nat) ≤ maxLen; decide) ⟨hl.on fun k hk => ⟨by show k < (W.alloc _).heap.size; simp; omega, Below.heap_alloc _ _ _ hk⟩, trivial⟩) (by decide) (fun t ht => ?_) hr.1).mono ?_
  · rw [List.mem_singleton.1 ht]
    refine .inr ⟨.inl rfl, by decide, rfl, by decide, fun i x hi hx => ?_⟩
    have hi2 : i = 0 ∨ i = 1 := by have h2 : i < 2 := hi; omega
    rcases hi2 with rfl | rfl
    · have : x = (⟨#[97]⟩, Ts.e) := by simpa [Fm.ab] using hx.symm
      subst this
      exact ⟨by decide, fun j y hj => absurd hj (Nat.not_lt_zero _)⟩
    · have : x = (⟨#[98]⟩, Ts.e) := by simpa [Fm.ab] using hx.symm
      subst this
      refine ⟨by decide, fun j y hj hy => ?_⟩
      have : j = 0 := by omega
      subst this
      have : y = (⟨#[97]⟩, Ts.e) := by simpa [Fm.ab] using hy.symm
      subst this
      decide
  · rintro e w' ⟨a', d', rfl, hl', hb⟩
    rw [hr.2]
    exact ⟨a', d', rfl, ((Below.refl _ _).alloc (Nat.le_refl _) _).trans (hb.mono (by simp))⟩
end Go.Proofs.Ythfobjkdcncoiaa

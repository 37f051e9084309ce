/-
  PLAIN, AND IN MEMORY: nodes that a page was read to, one of them turned.
-/
import Derived.Test.YtblpkjlodncpeaaGreatDoorALAwtoKBulk
namespace Go.Proofs.YtblpkjlodncpeaaGreatDoor
open Go.RowKit
def Lf.page : ByteArray := ⟨#[60, 112, 32, 97, 61, 98, 62, 120, 60, 33, 113, 62, 60, 47, 112, 62]⟩
def Lf.toks : List Tk := [⟨1, ⟨#[112]⟩, Ts.e, [(⟨#[97]⟩, ⟨#[98]⟩)], false⟩, ⟨0, Ts.e, ⟨#[120]⟩, [], false⟩, ⟨3, Ts.e, ⟨#[113]⟩, [], false⟩, ⟨2, ⟨#[112]⟩, Ts.e, [], false⟩]
def Lf.nodes : List Nd := [⟨0, Ts.e, Ts.e, [], -1⟩, ⟨1, ⟨#[112]⟩, Ts.e, [(⟨#[97]⟩, ⟨#[98]⟩)], 0⟩, ⟨2, Ts.e, ⟨#[120]⟩, [], 1⟩, ⟨3, Ts.e, ⟨#[113]⟩, [], 1⟩]
theorem Lf.tokens : Rd.tokens Lf.page = Lf.toks := by decide +kernel
theorem Lf.run : (Bt.run Bt.start Lf.toks).2 = true ∧ (Bt.run Bt.start Lf.toks).1.out = Lf.nodes := by decide +kernel
theorem Lf.may : ∀ t ∈ Lf.toks, t.May := by
  intro t ht
  simp only [Lf.toks, List.mem_cons, List.not_mem_nil, or_false] at ht
  rcases ht with rfl | rfl | rfl | rfl
  · exact .inr ⟨.inl rfl, by decide, rfl, by decide, Ka.one (by decide)⟩
  · exact .inl ⟨.inl rfl, rfl, rfl, rfl⟩
  · exact .inl ⟨.inr rfl, rfl, rfl, rfl⟩
  · exact .inr ⟨.inr ⟨rfl, rfl, rfl⟩, by decide, rfl, Nat.zero_le _, fun _ _ h => absurd h (Nat.not_lt_zero _)⟩
theorem Lf.is : Kp.Is Lf.page Lf.nodes 0 := by
  refine .inr ⟨by decide, .inr (.inr ⟨?_, ?_, ?_, rfl⟩)⟩
  · rw [Lf.tokens]; exact Lf.may
  · rw [Lf.tokens]; exact Lf.run.1
  · rw [Lf.tokens]; exact Lf.run.2.symm
/-- a node of the row turned in one field -/
theorem Lf.set {w : World} {R : Nat → Prop} {ns : List Nd} {b o d : Nat} (h : Nd.Lies w R ns (.slice (some ⟨b, o, none⟩) ns.length d)) {i r : Nat} {x x' : Nd} {v old : Value} (hi : ns[i]? = some x) (hold : ∀ av, (Nd.five x av)[r]? = some old) (hnew : ∀ av, Nd.five x' av = (Nd.five x av).set r v) (hat : x'.attrs = x.attrs)
    (hno : ∀ y ∈ ns, ∀ z ∈ y.attrs, old ≠ .string z.1 ∧ old ≠ .string z.2) : Nd.Lies (w.setCell ⟨b, o + i * 5 + r, none⟩ v) R (ns.set i x') (.slice (some ⟨b, o, none⟩) ns.length d) := by
  obtain ⟨a', d', e, h1, h2, hx⟩ := h
  injection e with e1 e2 e3
  subst e1
  subst e3
  obtain ⟨b0, o0, av0, e0, hb0, c00, c01, c02, c03, c04, hl0⟩ := hx i x hi
  injection e0 with e0
  injection e0 with e01 e02
  subst e01
  subst e02
  have hr5 : r < 5 := (List.getElem?_eq_some_iff.1 (hold av0)).1
  have five : ∀ (y : Nd) (av : Value) (j : Nat), w.cell? ⟨b, o + j * 5, none⟩ = some (.int .i64 y.kind) → w.cell? ⟨b, o + j * 5 + 1, none⟩ = some (.string y.name) → w.cell? ⟨b, o + j * 5 + 2, none⟩ = some (.string y.text) → w.cell? ⟨b, o + j * 5 + 3, none⟩ = some av → w.cell? ⟨b, o + j * 5 + 4, none⟩ = some (.int .i64 y.parent) → ∀ s, s < 5 → w.cell? ⟨b, o + j * 5 + s, none⟩ = (Nd.five y av)[s]? := fun y av j q0 q1 q2 q3 q4 s hs => by
    have : s = 0 ∨ s = 1 ∨ s = 2 ∨ s = 3 ∨ s = 4 := by omega
    rcases this with rfl | rfl | rfl | rfl | rfl
    · exact q0
    · exact q1
    · exact q2
    · exact q3
    · exact q4
  have hcell : w.cell? ⟨b, o + i * 5 + r, none⟩ = some old := by rw [five x av0 i c00 c01 c02 c03 c04 r hr5]; exact hold av0
  have hatt : ∀ (al : List (ByteArray × ByteArray)) (av : Value), (∀ z ∈ al, old ≠ .string z.1 ∧ old ≠ .string z.2) → Ak.Lies w R al av → Ak.Lies (w.setCell ⟨b, o + i * 5 + r, none⟩ v) R al av := fun al av hz hl => by
    obtain ⟨a1, d1, e1, g1, g2, gx⟩ := hl
    refine ⟨a1, d1, e1, g1, g2, fun j z hj => ?_⟩
    obtain ⟨b1, o1, ea, hb1, q1, q2⟩ := gx j z hj
    have hzz := hz z (List.mem_of_getElem? hj)
    have ne : ∀ c s, w.cell? ⟨b1, c, none⟩ = some (.string s) → old ≠ .string s → (w.setCell ⟨b, o + i * 5 + r, none⟩ v).cell? ⟨b1, c, none⟩ = some (.string s) := fun c s hc hne => by
      rw [World.cell?_setCell_other _ _ _ _ (fun q => by rw [q, hc] at hcell; injection hcell with hcell; exact hne hcell.symm)]
      exact hc
    exact ⟨b1, o1, ea, hb1, ne _ _ q1 hzz.1, ne _ _ q2 hzz.2⟩
  refine ⟨some ⟨b, o, none⟩, d, by rw [List.length_set], by rw [List.length_set]; exact h1, h2, fun j y hj => ?_⟩
  by_cases q : i = j
  · subst q
    rw [List.getElem?_set_self (List.getElem?_eq_some_iff.1 hi).1] at hj
    injection hj with hj
    subst hj
    have get : ∀ s u, s < 5 → (Nd.five x' av0)[s]? = some u → (w.setCell ⟨b, o + i * 5 + r, none⟩ v).cell? ⟨b, o + i * 5 + s, none⟩ = some u := fun s u hs hu => by
      rw [hnew av0] at hu
      by_cases e : r = s
      · subst e
        rw [List.getElem?_set_self (by show r < 5; exact hr5)] at hu
        injection hu with hu
        subst hu
        exact World.cell?_setCell_same _ _ _ hcell
      · rw [List.getElem?_set_ne e] at hu
        rw [World.cell?_setCell_other _ _ _ _ (fun q => by injection q with _ q2; omega), five x av0 i c00 c01 c02 c03 c04 s hs]
        exact hu
    exact ⟨b, o, av0, rfl, hb0, get 0 _ (by decide) rfl, get 1 _ (by decide) rfl, get 2 _ (by decide) rfl, get 3 _ (by decide) rfl, get 4 _ (by decide) rfl, by rw [hat]; exact hatt _ _ (hno x (List.mem_of_getElem? hi)) hl0⟩
  · rw [List.getElem?_set_ne q] at hj
    obtain ⟨b1, o1, av1, e1, hb1, p0, p1, p2, p3, p4, hl1⟩ := hx j y hj
    injection e1 with e1
    injection e1 with e11 e12
    subst e11
    subst e12
    have get : ∀ s u, s < 5 → w.cell? ⟨b, o + j * 5 + s, none⟩ = some u → (w.setCell ⟨b, o + i * 5 + r, none⟩ v).cell? ⟨b, o + j * 5 + s, none⟩ = some u := fun s u hs hu => by
      rw [World.cell?_setCell_other _ _ _ _ (fun q => by injection q with _ q2; omega)]
      exact hu
    exact ⟨b, o, av1, rfl, hb1, get 0 _ (by decide) p0, get 1 _ (by decide) p1, get 2 _ (by decide) p2, get 3 _ (by decide) p3, get 4 _ (by decide) p4, hatt _ _ (hno y (List.mem_of_getElem? hj)) hl1⟩
theorem Lf.and6 (n : Int) : bits .and .i64 n 63 = n % 64 := by
  have hm : (BitVec.ofInt 64 63).toNat = 2 ^ 6 - 1 := by decide
  have key : (BitVec.ofInt 64 n &&& BitVec.ofInt 64 63).toNat = (n % ((2 ^ 64 : Nat) : Int)).toNat % 2 ^ 6 := by
    rw [BitVec.toNat_and, BitVec.toNat_ofInt, hm, Nat.and_two_pow_sub_one_eq_mod]
  show IntKind.i64.wrap ((BitVec.ofInt 64 n &&& BitVec.ofInt 64 63).toNat : Nat) = n % 64
  rw [key, IntKind.wrap_i64]
  omega
theorem Lf.noInt (n : Int) : ∀ y ∈ Lf.nodes, ∀ z ∈ y.attrs, Value.int .i64 n ≠ .string z.1 ∧ Value.int .i64 n ≠ .string z.2 := fun _ _ _ _ => ⟨(fun e => by cases e), (fun e => by cases e)⟩
theorem Lf.noStr : ∀ y ∈ Lf.nodes, ∀ z ∈ y.attrs, Value.string ⟨#[]⟩ ≠ .string z.1 ∧ Value.string ⟨#[]⟩ ≠ .string z.2 := by
  intro y hy z hz
  simp only [Lf.nodes, List.mem_cons, List.not_mem_nil, or_false] at hy
  rcases hy with rfl | rfl | rfl | rfl
  · simp at hz
  · simp only [List.mem_singleton] at hz
    subst hz
    exact ⟨fun e => absurd (Value.string.inj e) (by decide), fun e => absurd (Value.string.inj e) (by decide)⟩
  · simp at hz
  · simp at hz
end Go.Proofs.YtblpkjlodncpeaaGreatDoor

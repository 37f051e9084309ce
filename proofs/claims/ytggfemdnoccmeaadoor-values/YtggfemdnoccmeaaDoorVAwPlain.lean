/-
  THE VALUES of the law's awake: what each call comes to.
-/
import Derived.Test.YtggfemdnoccmeaaDoorVLeaf
namespace Go.Proofs.YtggfemdnoccmeaaDoor
open Go.RowKit

/-- the record of awake -/
def Vt.rec2 : Vt := .mk 6 0 0 ⟨#[]⟩ 2 (fun i => if i = 0 then Vt.leaf 2 5 0 ⟨#[]⟩ else Vt.leaf 4 0 0 ⟨#[120]⟩) 2 (fun j => if j = 0 then ⟨#[97]⟩ else ⟨#[98]⟩)
theorem Vw.empty : (⟨#[]⟩ : ByteArray).toList = [] := by rw [Lib.toList_data]
theorem Vw.one (c : UInt8) : (⟨#[c]⟩ : ByteArray).toList = [c] := by rw [Lib.toList_data]
theorem Vw.size (c : UInt8) : (⟨#[c]⟩ : ByteArray).size = 1 := rfl
theorem Vw.may : Vt.rec2.may = true := by
  simp [Vt.rec2, Vt.may, Vt.stand, Vt.run, Vt.leaf, Vt.formed, Vt.keysOk, Vt.key, Vt.prev, Op.bytesLess, Vw.size]
theorem Vw.truth : Vt.rec2.truth = true := by
  have := Vw.may
  unfold Vt.rec2 at this
  simp [Vt.rec2, Vt.truth, this]
theorem Vw.told : Vt.rec2.told.2 = 402 := by
  have := Vw.may
  unfold Vt.rec2 at this
  simp [Vt.rec2, Vt.told, this]
theorem Vw.real_may (b : Nat) : (Vt.leaf 3 0 b ⟨#[]⟩).may = true := by
  rw [Vt.leaf_may]
  simp [Vt.formed]
theorem Vw.int_may (x : Int) : (Vt.leaf 2 x 0 ⟨#[]⟩).may = (decide (-9007199254740991 ≤ x) && decide (x ≤ 9007199254740991)) := by
  rw [Vt.leaf_may]
  simp [Vt.formed]
theorem Vw.text_may (s : ByteArray) : (Vt.leaf 4 0 0 s).may = decide (s.size ≤ 65536) := by
  rw [Vt.leaf_may]
  simp [Vt.formed]
theorem Vw.real_told (b : Nat) : (Vt.leaf 3 0 b ⟨#[]⟩).told = (⟨(Re.text b).toArray⟩, 0) := by
  have := Vw.real_may b
  unfold Vt.leaf at this
  simp [Vt.leaf, Vt.told, this]
theorem Vw.t2 : Re.text 9223372036854775808 = [45, 48] := by
  have k : Re.kind 9223372036854775808 = 2 := by decide +kernel
  unfold Re.text
  rw [k]
  decide +kernel
theorem Vw.real_truth (b : Nat) : (Vt.leaf 3 0 b ⟨#[]⟩).truth = (!((Re.kind b : Int) == 2) && !((Re.kind b : Int) == 0)) := by
  have := Vw.real_may b
  unfold Vt.leaf at this
  simp [Vt.leaf, Vt.truth, this]
theorem Vw.real_less (a b : Nat) : (Vt.leaf 3 0 a ⟨#[]⟩).less (Vt.leaf 3 0 b ⟨#[]⟩) = (Re.num a && Re.num b && decide (Re.rank a < Re.rank b), 0) := by
  have h1 := Vw.real_may a
  have h2 := Vw.real_may b
  unfold Vt.leaf at h1 h2
  simp [Vt.leaf, Vt.less, h1, h2]
theorem Vw.real_same (a b : Nat) : (Vt.leaf 3 0 a ⟨#[]⟩).same (Vt.leaf 3 0 b ⟨#[]⟩) = (Re.num a && decide (Re.rank a = Re.rank b)) := by
  have h1 := Vw.real_may a
  have h2 := Vw.real_may b
  unfold Vt.leaf at h1 h2
  simp [Vt.leaf, Vt.same, Vt.alike, h1, h2]
theorem Vw.mixed_less (x : Int) (hx : -9007199254740991 ≤ x ∧ x ≤ 9007199254740991) (s : ByteArray) (hs : s.size ≤ 65536) : ((Vt.leaf 2 x 0 ⟨#[]⟩).less (Vt.leaf 4 0 0 s)).2 = 402 := by
  have h1 := Vw.int_may x
  have h2 := Vw.text_may s
  rw [decide_eq_true hx.1, decide_eq_true hx.2] at h1
  rw [decide_eq_true hs] at h2
  unfold Vt.leaf at h1 h2
  simp at h1 h2
  simp [Vt.leaf, Vt.less, h1, h2]
theorem Vw.get1 (p : Nat → ByteArray) (hp : p 0 = ⟨#[98]⟩) : Vt.rec2.get 1 p = (Vt.leaf 4 0 0 ⟨#[120]⟩, 0) := by
  have h1 := Vw.may
  unfold Vt.get
  rw [if_neg (by rw [h1]; simp)]
  simp [Vt.rec2, Vt.getTo, Vt.under, Vt.pos, hp]
theorem Vw.get2 (p : Nat → ByteArray) (hp : p 0 = ⟨#[99]⟩) : (Vt.rec2.get 1 p).2 = 401 := by
  have h1 := Vw.may
  unfold Vt.get
  rw [if_neg (by rw [h1]; simp)]
  simp [Vt.rec2, Vt.getTo, Vt.under, Vt.pos, hp]
theorem Vw.get3 (p : Nat → ByteArray) (hp : p 0 = ⟨#[97]⟩) : (Vt.rec2.get 2 p).2 = 402 := by
  have h1 := Vw.may
  unfold Vt.get
  rw [if_neg (by rw [h1]; simp)]
  simp [Vt.rec2, Vt.getTo, Vt.under, Vt.pos, hp, Vt.leaf]
theorem Vw.eq (s : ByteArray) : (Vt.leaf 4 0 0 s).eq (Vt.leaf 4 0 0 s) = true := by
  simp [Vt.leaf, Vt.eq, Vt.sameKeys, Vt.allTo]
theorem Vw.big : (Vt.leaf 2 9007199254740992 0 ⟨#[]⟩).may = false := by
  rw [Vw.int_may]
  decide
theorem Vw.less1 : (Vt.leaf 3 0 13830554455654793216 ⟨#[]⟩).less (Vt.leaf 3 0 0 ⟨#[]⟩) = (true, 0) := by
  rw [Vw.real_less]
  decide +kernel
theorem Vw.same1 : (Vt.leaf 3 0 0 ⟨#[]⟩).same (Vt.leaf 3 0 9223372036854775808 ⟨#[]⟩) = true := by
  rw [Vw.real_same]
  decide +kernel
theorem Vw.same2 : (Vt.leaf 3 0 9221120237041090560 ⟨#[]⟩).same (Vt.leaf 3 0 9221120237041090560 ⟨#[]⟩) = false := by
  rw [Vw.real_same]
  decide +kernel
theorem Vw.truth2 : (Vt.leaf 3 0 9223372036854775808 ⟨#[]⟩).truth = false := by
  rw [Vw.real_truth]
  decide +kernel
end Go.Proofs.YtggfemdnoccmeaaDoor

/-
  PLAIN: the ends of lines: what strings.ReplaceAll gives twice is what 'Rd.lines' gives.
-/
import Derived.Test.YtjbkgokiikbaeaaGreatDoorTPlain
import Derived.Lib.Replace
import Derived.Lib.CountLaws
namespace Go.Proofs.YtjbkgokiikbaeaaGreatDoor
open Go.Lib
theorem Li.prefix (old new : List UInt8) (b : UInt8) (l : List UInt8) (ho : old ≠ []) (hn : old ≠ new) (h : old.isPrefixOf (b :: l) = true) : replaceAll (b :: l) old new = new ++ replaceAll ((b :: l).drop old.length) old new := by
  have hi : index (b :: l) old = ((0 : Nat) : Int) := by unfold index; rw [if_pos h]; rfl
  have hb : (old == new) = false := beq_eq_false_iff_ne.2 hn
  unfold replaceAll replace
  rw [hb]
  simp only [Bool.false_eq_true, if_false]
  have e : ∀ s, replaceNum s old (-1) = count s old := fun s => by unfold replaceNum; rw [if_pos (.inl (by decide))]
  rw [e, e, count_hit ho hi, Nat.add_comm, replaceK_hit _ _ _ _ _ hi]
  simp
theorem Li.skip (old new : List UInt8) (b : UInt8) (l : List UInt8) (ho : old ≠ []) (hn : old ≠ new) (h : old.isPrefixOf (b :: l) = false) : replaceAll (b :: l) old new = b :: replaceAll l old new := by
  have hb : (old == new) = false := beq_eq_false_iff_ne.2 hn
  unfold replaceAll replace
  rw [hb]
  simp only [Bool.false_eq_true, if_false]
  have e : ∀ s, replaceNum s old (-1) = count s old := fun s => by unfold replaceNum; rw [if_pos (.inl (by decide))]
  rw [e, e]
  by_cases hm : index l old = -1
  · have hi : index (b :: l) old = -1 := by unfold index; rw [h, hm]; rfl
    rw [count_miss hi, count_miss hm]
    rfl
  · obtain ⟨i, hi⟩ : ∃ i : Nat, index l old = i := by
      have := index_ge l old
      exact ⟨(index l old).toNat, by omega⟩
    have hi' : index (b :: l) old = ((i + 1 : Nat) : Int) := by
      unfold index
      rw [h, hi]
      have : ((i : Int) == -1) = false := beq_eq_false_iff_ne.2 (by omega)
      rw [this]
      rfl
    rw [count_hit ho hi, count_hit ho hi', Nat.add_comm, Nat.add_comm 1, replaceK_hit _ _ _ _ _ hi, replaceK_hit _ _ _ _ _ hi']
    rw [show i + 1 + old.length = (i + old.length) + 1 by omega, List.drop_succ_cons]
    rfl
theorem Li.nil (old new : List UInt8) (ho : old ≠ []) (hn : old ≠ new) : replaceAll [] old new = [] := by
  have hb : (old == new) = false := beq_eq_false_iff_ne.2 hn
  unfold replaceAll replace
  rw [hb]
  simp only [Bool.false_eq_true, if_false]
  unfold replaceNum
  rw [if_pos (.inl (by decide))]
  have hi : index [] old = -1 := by
    unfold index
    cases old with
    | nil => exact absurd rfl ho
    | cons a t => rfl
  rw [count_miss hi]
  rfl
def Li.one (c : UInt8) : UInt8 := if c = 13 then 10 else c
theorem Li.cr (s : List UInt8) : replaceAll s [13] [10] = s.map Li.one := by
  induction s with
  | nil => exact Li.nil _ _ (by decide) (by decide)
  | cons b l ih =>
    by_cases h : b = 13
    · subst h
      rw [Li.prefix _ _ _ _ (by decide) (by decide) (by simp [List.isPrefixOf])]
      show [10] ++ replaceAll l [13] [10] = _
      rw [ih]
      rfl
    · have hp : ([13] : List UInt8).isPrefixOf (b :: l) = false := by
        simp only [List.isPrefixOf, Bool.and_true]
        exact beq_eq_false_iff_ne.2 (fun e => h e.symm)
      rw [Li.skip _ _ _ _ (by decide) (by decide) hp, ih]
      simp [Li.one, h]
theorem Li.lines_len : ∀ (s : List UInt8), (Rd.lines s).length ≤ s.length := by
  intro s
  fun_induction Rd.lines s with
  | case1 => exact Nat.le_refl _
  | case2 l ih => simp; omega
  | case3 c l _ ih => simp; omega
theorem Li.lines (s : List UInt8) : replaceAll (replaceAll s [13, 10] [10]) [13] [10] = Rd.lines s := by
  rw [Li.cr]
  fun_induction Rd.lines s with
  | case1 => rw [Li.nil _ _ (by decide) (by decide)]; rfl
  | case2 l ih =>
    rw [Li.prefix _ _ _ _ (by decide) (by decide) (by simp [List.isPrefixOf])]
    show ([10] ++ replaceAll l [13, 10] [10]).map Li.one = _
    rw [List.map_append, ih]
    rfl
  | case3 c l hne ih =>
    have hp : ([13, 10] : List UInt8).isPrefixOf (c :: l) = false := by
      cases l with
      | nil => simp [List.isPrefixOf]
      | cons d l =>
        simp only [List.isPrefixOf, Bool.and_true]
        by_cases h1 : c = 13
        · by_cases h2 : d = 10
          · exact absurd h2 (by intro h2; subst h1 h2; exact hne l rfl rfl)
          · simp [beq_eq_false_iff_ne.2 (fun e : (10 : UInt8) = d => h2 e.symm)]
        · simp [beq_eq_false_iff_ne.2 (fun e : (13 : UInt8) = c => h1 e.symm)]
    rw [Li.skip _ _ _ _ (by decide) (by decide) hp, List.map_cons, ih]
    rfl
theorem Li.crlf_len (s : List UInt8) : (replaceAll s [13, 10] [10]).length ≤ s.length := by
  have h := Li.lines s
  rw [Li.cr] at h
  have h2 := congrArg List.length h
  rw [List.length_map] at h2
  rw [h2]
  exact Li.lines_len s
end Go.Proofs.YtjbkgokiikbaeaaGreatDoor

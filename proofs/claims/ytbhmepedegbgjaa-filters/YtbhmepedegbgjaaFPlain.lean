/-
  PLAIN: what css.Filter gives.
-/
import Derived.Test.YtbhmepedegbgjaaRefLet
import Derived.Test.YtbhmepedegbgjaaQPlain
import Derived.Test.YtbhmepedegbgjaaSign
namespace Go.Proofs.Ytbhmepedegbgjaa
open Go.RowKit
def Cf.ok (c : UInt8) : Bool := Pl.letter c || Pl.digit c || [32, 35, 37, 46, 44, 45].contains c
/-- the word that stands for a text that is none -/
def Cf.Z : ByteArray := ⟨#[90, 103, 111, 116, 109, 112, 108, 90]⟩
def Cf.all (s : ByteArray) : Bool := s.data.toList.all Cf.ok
def Cf.filt (s : ByteArray) : ByteArray := if Cf.all s = true then s else ⟨#[90, 103, 111, 116, 109, 112, 108, 90]⟩
theorem Cf.filt_ok {s : ByteArray} (h : Cf.all s = true) : Cf.filt s = s := if_pos h
theorem Cf.filt_bad {s : ByteArray} (h : Cf.all s = false) : Cf.filt s = ⟨#[90, 103, 111, 116, 109, 112, 108, 90]⟩ := if_neg (by rw [h]; exact Bool.false_ne_true)
theorem Cf.all_append (s t : ByteArray) : Cf.all (s ++ t) = (Cf.all s && Cf.all t) := by
  unfold Cf.all
  rw [ByteArray.data_append, Array.toList_append, List.all_append]
theorem Cf.all_Z : Cf.all ⟨#[90, 103, 111, 116, 109, 112, 108, 90]⟩ = true := by decide
theorem Cf.filt_Z : Cf.filt ⟨#[90, 103, 111, 116, 109, 112, 108, 90]⟩ = ⟨#[90, 103, 111, 116, 109, 112, 108, 90]⟩ := Cf.filt_ok Cf.all_Z
theorem Cf.ne_Z {s : ByteArray} (h : Cf.all s = false) : ¬ [90, 103, 111, 116, 109, 112, 108, 90] = s.toList := fun q => by
  rw [ByteArray.toList_eq] at q
  have e : Cf.all s = true := by
    unfold Cf.all
    rw [← q]
    decide
  rw [e] at h
  cases h
/-- byte by byte -/
theorem Cf.take {s : ByteArray} {i : Nat} (h : i < s.size) (ha : (s.data.toList.take i).all Cf.ok = true) (hc : Cf.ok s[i] = true) : (s.data.toList.take (i + 1)).all Cf.ok = true := by
  have hl : i < s.data.toList.length := by rw [Wk.len_data]; exact h
  have hg : s.data.toList[i] = s[i] := by simp [ByteArray.getElem_eq_getElem_data]
  rw [List.take_succ_eq_append_getElem hl, hg, List.all_append, ha, List.all_cons, hc]
  rfl
theorem Cf.end {s : ByteArray} (ha : (s.data.toList.take s.size).all Cf.ok = true) : Cf.all s = true := by
  rw [List.take_of_length_le (by rw [Wk.len_data]; exact Nat.le_refl _)] at ha
  exact ha
theorem Cf.bad {s : ByteArray} {i : Nat} (h : i < s.size) (hc : Cf.ok s[i] = false) : Cf.all s = false := by
  have hl : i < s.data.toList.length := by rw [Wk.len_data]; exact h
  have hg : s.data.toList[i] = s[i] := by simp [ByteArray.getElem_eq_getElem_data]
  refine Bool.eq_false_iff.2 fun q => ?_
  have := List.all_eq_true.1 q _ (List.getElem_mem hl)
  rw [hg, hc] at this
  cases this
end Go.Proofs.Ytbhmepedegbgjaa

/-
  THE WALKS of stoleref1.Size and stoleref1.Low: each returns what the plain function of the bytes gives, and turns nothing.
-/
import Derived.Test.YtbhmepedegbgjaaSign
namespace Go.Proofs.Ytbhmepedegbgjaa
open Go.RowKit

/-- the length of the sign at a place; of a byte 0: 1 -/
def Pl.siz (l : List UInt8) : Nat := if Pl.nb l 0 = 0 then 1 else Pl.sgn l
theorem Sz.nb_at (s : ByteArray) (i q : Nat) (h : i + q < s.size) : Pl.nb (s.data.toList.drop i) q = (s[i + q]).toNat := by
  have h' : i + q < s.data.toList.length := by rw [Wk.len_data]; exact h
  simp only [Pl.nb, List.getD_eq_getElem?_getD, List.getElem?_drop, List.getElem?_eq_getElem h', Option.getD_some]
  rfl
theorem Sz.ret {a b : Int} (h : a = b) : Ending.returned (.int .i64 a) = .returned (.int .i64 b) := by rw [h]

theorem Sz.cont_end {P : Nat → Prop} {n : Nat} (h : ∀ q, 1 ≤ q → q < n → P q) (hn : P n) : ∀ q, 1 ≤ q → q < n + 1 → P q := fun q h1 h2 => by
  by_cases e : q = n
  · subst e; exact hn
  · exact h q h1 (by omega)

/-- what the two tests behind Size ask, together -/
theorem Sz.both (l : List UInt8) : (Pl.siz l = 0 ∨ Pl.nb l 0 = 0) ↔ Pl.sgn l = 0 := by
  unfold Pl.siz
  constructor
  · rintro (h | h)
    · split at h
      · omega
      · exact h
    · unfold Pl.sgn Pl.sgnN; rw [if_pos h]
  · intro h
    by_cases h0 : Pl.nb l 0 = 0
    · exact .inr h0
    · left; rw [if_neg h0]; exact h
theorem Sz.same (l : List UInt8) (h : Pl.sgn l ≠ 0) : Pl.siz l = Pl.sgn l := by
  unfold Pl.siz
  by_cases h0 : Pl.nb l 0 = 0
  · exact absurd ((Sz.both l).1 (.inr h0)) h
  · rw [if_neg h0]

theorem Sz.low (c : UInt8) (w : World) :
    Calls Try.prog 16 #[.int .u8 c.toNat] w fun e w' => e = .returned (.int .u8 (Pl.lowB c).toNat) ∧ w' = w := by
  have hc := c.toNat_lt
  have hl := Pl.lowB_toNat c
  generalize (Pl.lowB c).toNat = m at *
  generalize c.toNat = k at *
  by_cases h1 : 65 ≤ k
  · by_cases h2 : k ≤ 90
    · rw [if_pos ⟨h1, h2⟩] at hl
      subst hl
      go_enter Try.func16, Try.ntmps16
      go_wp2
      go_ret
      exact ⟨by simp, rfl⟩
    · rw [if_neg (by omega)] at hl
      subst hl
      go_enter Try.func16, Try.ntmps16
      go_wp2
      go_ret
      exact ⟨rfl, rfl⟩
  · rw [if_neg (by omega)] at hl
    subst hl
    go_enter Try.func16, Try.ntmps16
    go_wp2
    go_ret
    exact ⟨rfl, rfl⟩

end Go.Proofs.Ytbhmepedegbgjaa

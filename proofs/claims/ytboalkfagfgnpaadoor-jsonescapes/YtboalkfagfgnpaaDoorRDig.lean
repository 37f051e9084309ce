/-
  THE WALKS of refs.digit, refs.signOf and refs.numbered: each call returns what the plain function of the bytes gives, and turns nothing.
-/
import Derived.Test.YtboalkfagfgnpaaDoorMSigntoRefLet
import Derived.Test.YtboalkfagfgnpaaDoorProg
import Derived.WalkKit
import Derived.BigCall
import Derived.Laws.Runes
namespace Go.Proofs.YtboalkfagfgnpaaDoor
open Go.RowKit

theorem Pl.dig_eq (c : UInt8) (k : Nat) (hk : c.toNat = k) : Pl.dig c = if 48 ≤ k ∧ k ≤ 57 then k - 48 else if 97 ≤ k ∧ k ≤ 102 then k - 87 else if 65 ≤ k ∧ k ≤ 70 then k - 55 else 16 := by
  subst hk; rfl

/-- the model's text of a rune is the plain one -/
theorem Rd.encode (x : Nat) (h0 : x ≠ 0) : Utf8.encode (x : Int) = ⟨(Pl.runeL x).toArray⟩ := by
  by_cases hv : Utf8.valid (x : Int) = true
  · have hb : ¬ (x = 0 ∨ (55296 ≤ x ∧ x ≤ 57343) ∨ 1114111 < x) := by
      simp only [Utf8.valid, Bool.or_eq_true, Bool.and_eq_true, decide_eq_true_eq] at hv
      omega
    unfold Utf8.encode Pl.runeL
    rw [if_neg hb]
    simp only [hv, if_true, Int.toNat_natCast]
    repeat' split
    all_goals rfl
  · have hb : x = 0 ∨ (55296 ≤ x ∧ x ≤ 57343) ∨ 1114111 < x := by
      simp only [Utf8.valid, Bool.or_eq_true, Bool.and_eq_true, decide_eq_true_eq] at hv
      omega
    unfold Utf8.encode Pl.runeL
    rw [if_pos hb]
    have hv' : Utf8.valid (x : Int) = false := by simpa using hv
    simp only [hv', Bool.false_eq_true, if_false]
    rfl

theorem Rd.drop_cons (s : ByteArray) (k : Nat) (h : k < s.size) : s.data.toList.drop k = s[k] :: s.data.toList.drop (k + 1) := by
  have h' : k < s.data.toList.length := by rw [Array.length_toList]; exact h
  rw [List.drop_eq_getElem_cons h']
  rfl
theorem Rd.get_at (s : ByteArray) (k : Nat) (h : k < s.size) : s.data.toList[k]? = some s[k] := by
  have h' : k < s.data.toList.length := by rw [Array.length_toList]; exact h
  rw [List.getElem?_eq_getElem h']
  rfl
theorem Rd.get_end (s : ByteArray) (k : Nat) (h : s.size ≤ k) : s.data.toList[k]? = none := by
  rw [List.getElem?_eq_none]
  rw [Array.length_toList]; exact h
theorem Rd.scan_end (base m : Nat) (s : ByteArray) (k x : Nat) (h : s.size ≤ k) : Pl.scan base m (s.data.toList.drop k) x k = (x, k) := by
  rw [List.drop_of_length_le (by rw [Array.length_toList]; exact h)]
  cases m <;> rfl
theorem Rd.scan_zero (base m : Nat) (l : List UInt8) (k x : Nat) (h : m = 0) : Pl.scan base m l x k = (x, k) := by
  subst h; rfl
theorem Rd.scan_stop (base m : Nat) (s : ByteArray) (k x d : Nat) (h : k < s.size) (hd : Pl.dig s[k] = d) (hb : base ≤ d) : Pl.scan base m (s.data.toList.drop k) x k = (x, k) := by
  rw [Rd.drop_cons s k h]
  cases m with
  | zero => rfl
  | succ m => rw [Pl.scan, if_neg (by omega)]
theorem Rd.scan_go (base m m' : Nat) (s : ByteArray) (k x d : Nat) (h : k < s.size) (hd : Pl.dig s[k] = d) (hb : d < base) (hm : m = m' + 1) : Pl.scan base m (s.data.toList.drop k) x k = Pl.scan base m' (s.data.toList.drop (k + 1)) (x * base + d) (k + 1) := by
  subst hm
  rw [Rd.drop_cons s k h, Pl.scan, if_pos (by omega), hd]
theorem Rd.num_none (l : List UInt8) (start base most x k : Nat) (h : Pl.scan base most (l.drop start) 0 start = (x, k)) (hn : k = start ∨ l[k]? ≠ some 59) : Pl.numL l start base most = ([], 0) := by
  unfold Pl.numL
  rw [h]
  exact if_pos hn
theorem Rd.num_some (l : List UInt8) (start base most x k : Nat) (h : Pl.scan base most (l.drop start) 0 start = (x, k)) (h0 : k ≠ start) (hn : l[k]? = some 59) : Pl.numL l start base most = (Pl.runeL x, k + 1) := by
  unfold Pl.numL
  rw [h]
  exact if_neg (by rintro (e | e); exact h0 e; exact e hn)
theorem Rd.ret_pair {p q : List UInt8 × Nat} (h : p = q) : Ending.returned (.tuple #[.string ⟨p.1.toArray⟩, .int .i64 (p.2 : Nat)]) = .returned (.tuple #[.string ⟨q.1.toArray⟩, .int .i64 (q.2 : Nat)]) := by rw [h]
theorem Rd.pow (b x j d : Nat) (h : x < b ^ j) (hd : d < b) : x * b + d < b ^ (j + 1) := by
  have : (x + 1) * b ≤ b ^ j * b := Nat.mul_le_mul_right b h
  rw [Nat.pow_succ]
  rw [Nat.add_mul] at this
  omega
theorem Rd.pow_le (b x j m : Nat) (h : x < b ^ j) (hb : 0 < b) (hm : j ≤ m) : x < b ^ m := Nat.lt_of_lt_of_le h (Nat.pow_le_pow_right hb hm)
theorem Rd.ne59 (c : UInt8) (n : Nat) (hc : c.toNat = n) (h : n ≠ 59) : some c ≠ some 59 := by
  intro e
  simp only [Option.some.injEq] at e
  subst e
  exact h hc.symm
theorem Rd.is59 (c : UInt8) (n : Nat) (hc : c.toNat = n) (h : n = 59) : some c = some 59 := by
  have : c = 59 := UInt8.toNat_inj.1 (by rw [hc, h]; rfl)
  rw [this]

end Go.Proofs.YtboalkfagfgnpaaDoor

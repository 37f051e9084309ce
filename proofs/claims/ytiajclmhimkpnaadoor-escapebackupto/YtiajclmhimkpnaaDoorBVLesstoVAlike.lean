/-
  THE WALKS of the program's value.isNumber, rank, Less.
-/
import Derived.Test.YtiajclmhimkpnaaDoorBRePlaintoVEq
namespace Go.Proofs.YtiajclmhimkpnaaDoor
open Go.RowKit

/-- a real's place among the others -/
def Re.rank (b : Nat) : Int := if 9223372036854775808 ≤ b then -((b - 9223372036854775808 : Nat) : Int) else (b : Int)
def Re.num (b : Nat) : Bool := !(decide (Re.kind b = 0))

theorem Vl.top {b : Nat} (h : 9223372036854775808 ≤ b) (hb : b < 18446744073709551616) : b &&& 9223372036854775808 = 9223372036854775808 := by
  rw [show (9223372036854775808 : Nat) = 2 ^ 63 by decide]
  apply Nat.eq_of_testBit_eq
  intro i
  rw [Nat.testBit_and, Nat.testBit_two_pow]
  by_cases e : 63 = i
  · subst e
    simp
    have : b / 2 ^ 63 = 1 := by omega
    rw [Nat.testBit, Nat.shiftRight_eq_div_pow, this]
    rfl
  · simp [e]
theorem Vl.low {b : Nat} (h : ¬ 9223372036854775808 ≤ b) : b &&& 9223372036854775808 = 0 := by
  rw [show (9223372036854775808 : Nat) = 2 ^ 63 by decide]
  apply Nat.eq_of_testBit_eq
  intro i
  rw [Nat.testBit_and, Nat.testBit_two_pow]
  by_cases e : 63 = i
  · subst e
    simp
    exact Nat.testBit_lt_two_pow (by omega)
  · simp [e]

def Vt.less : Vt → Vt → Bool × Int
  | .nil, _ => (false, 400)
  | .mk .., .nil => (false, 400)
  | .mk k x b s n it m ks, .mk k' x' b' s' n' it' m' ks' =>
    if (Vt.mk k x b s n it m ks).may = false ∨ (Vt.mk k' x' b' s' n' it' m' ks').may = false then (false, 400)
    else if k ≠ k' then (false, 402)
    else if k = 2 then (decide (x < x'), 0)
    else if k = 3 then (Re.num b && Re.num b' && decide (Re.rank b < Re.rank b'), 0)
    else if k = 4 then (Op.bytesLess s.toList s'.toList, 0)
    else (false, 402)

end Go.Proofs.YtiajclmhimkpnaaDoor
/-
  THE WALKS of the program's value.alike and Same, of slices.EqualFunc with it.
-/
namespace Go.Proofs.YtiajclmhimkpnaaDoor
open Go.RowKit

theorem Vt.cell_alloc {w : World} {b o : Nat} {v : Value} (h : w.cell? ⟨b, o, none⟩ = some v) (x : Obj) : (w.alloc x).cell? ⟨b, o, none⟩ = some v := Vt.cell_on (Below.heap_alloc _ _ _ (Vt.cell_lt h)) h
/-- are two values the same, as the program compares them? -/
def Vt.alike : Vt → Vt → Bool
  | .nil, _ => false
  | .mk .., .nil => false
  | .mk k x b s n it m ks, .mk k' x' b' s' n' it' m' ks' =>
    if k ≠ k' then false
    else if k = 3 then Re.num b && decide (Re.rank b = Re.rank b')
    else decide (x = x') && (s.toList == s'.toList) && Vt.sameKeys m m' ks ks' && (decide (n = n') && Vt.allTo (fun i => (it i).alike (it' i)) n)

theorem Vt.Lies.keys {w : World} {R : Nat → Prop} {k x : Int} {b : Nat} {s : ByteArray} {n : Nat} {it : Nat → Vt} {m : Nat} {ks : Nat → ByteArray} {ai ak : Option Addr} {c d : Nat}
    (h : (Vt.mk k x b s n it m ks).Lies w R (.agg #[.int .i64 k, .int .i64 x, .int .u64 (b : Int), .string s, .slice ai n c, .slice ak m d])) :
    Vt.Keys w R m ks ak d ∧ (n ≤ c ∧ c ≤ maxLen) ∧ ∀ i, i < n → ∃ bi oi v0 v1 v2 v3 v4 v5, ai = some ⟨bi, oi, none⟩ ∧ R bi ∧ w.cell? ⟨bi, oi + i * 6, none⟩ = some v0 ∧ w.cell? ⟨bi, oi + i * 6 + 1, none⟩ = some v1 ∧ w.cell? ⟨bi, oi + i * 6 + 2, none⟩ = some v2 ∧ w.cell? ⟨bi, oi + i * 6 + 3, none⟩ = some v3 ∧ w.cell? ⟨bi, oi + i * 6 + 4, none⟩ = some v4 ∧ w.cell? ⟨bi, oi + i * 6 + 5, none⟩ = some v5 ∧ (it i).Lies w R (.agg #[v0, v1, v2, v3, v4, v5]) := by
  obtain ⟨ai', c', ak', d', e, hb, hn, hc, hk, hi⟩ := h
  simp only [Value.agg.injEq, Array.mk.injEq, List.cons.injEq, Value.slice.injEq, true_and, and_true] at e
  obtain ⟨⟨rfl, rfl⟩, rfl, rfl⟩ := e
  exact ⟨hk, ⟨hn, hc⟩, hi⟩

def Vt.same (t u : Vt) : Bool := t.may && u.may && t.alike u

end Go.Proofs.YtiajclmhimkpnaaDoor

/-
  THE WALKS of slices.Equal of texts and of the law's own SameTexts.
-/
import Derived.Test.YtboalkfagfgnpabDoorMShelf3toVTrue
namespace Go.Proofs.YtboalkfagfgnpabDoor
open Go.RowKit

def Vt.allTo (f : Nat → Bool) : Nat → Bool
  | 0 => true
  | n + 1 => Vt.allTo f n && f n
theorem Vt.allTo_of {f : Nat → Bool} {m j : Nat} (h : Vt.allTo f m = true) (hj : j < m) : f j = true := by
  induction m with
  | zero => omega
  | succ m ih =>
    simp only [Vt.allTo, Bool.and_eq_true] at h
    by_cases e : j = m
    · rw [e]; exact h.2
    · exact ih h.1 (by omega)
theorem Vt.allTo_no {f : Nat → Bool} {m j : Nat} (h : f j = false) (hj : j < m) : Vt.allTo f m = false := by
  cases e : Vt.allTo f m with
  | false => rfl
  | true => rw [Vt.allTo_of e hj] at h; cases h
theorem Vt.allTo_iff {f : Nat → Bool} {m : Nat} : Vt.allTo f m = true ↔ ∀ j, j < m → f j = true := by
  refine ⟨fun h j => Vt.allTo_of h, fun h => ?_⟩
  induction m with
  | zero => rfl
  | succ m ih =>
    simp only [Vt.allTo, Bool.and_eq_true]
    exact ⟨ih fun j hj => h j (by omega), h m (by omega)⟩
/-- the same texts, one by one -/
def Vt.sameKeys (m m' : Nat) (ks ks' : Nat → ByteArray) : Bool := decide (m = m') && Vt.allTo (fun j => (ks j).toList == (ks' j).toList) m

theorem Vm.drewN {B : Nat} {a w : World} (h : Below B a w) (n : Nat) : Below B a (w.drewN n) := ⟨h.os, h.tape, h.output, h.size, h.block⟩

set_option maxRecDepth 100000 in
theorem Ve.texts (m m' : Nat) (ks ks' : Nat → ByteArray) (ak ak' : Option Addr) (d d' : Nat) (R R' : Nat → Prop) (w : World) (h : Vt.Keys w R m ks ak d) (h' : Vt.Keys w R' m' ks' ak' d') :
    Calls Tryd.prog 19 #[.slice ak m d, .slice ak' m' d'] w fun e w' => e = .returned (.bool (Vt.sameKeys m m' ks ks')) ∧ Below w.heap.size w w' := by
  by_cases hmm : m = m'
  · subst hmm
    have hm : m ≤ 9223372036854775807 := by have := h.le; have := h.max; unfold maxLen at this; omega
    have HS : Hid (Vt.sameKeys m m ks ks' = Vt.allTo (fun j => (ks j).toList == (ks' j).toList) m) := by unfold Hid Vt.sameKeys; rw [decide_eq_true rfl]; rfl
    generalize Vt.sameKeys m m ks ks' = Z at *
    go_enter Tryd.func19, Tryd.ntmps19
    go_wp2
    go_loopw [5] (fun i wr => ∃ j : Nat, j ≤ m ∧ i = .int .i64 j ∧ Hid (Vt.allTo (fun j => (ks j).toList == (ks' j).toList) j = true) ∧ Below w.heap.size w wr) (fun i _ => m - (intOf i).toNat)
    case atStart => exact ⟨0, Nat.zero_le _, by go_num, rfl, Below.refl _ _⟩
    case round =>
      obtain ⟨j, hj, rfl, HK, hbr⟩ := hrel
      by_cases hjm : j < m
      · obtain ⟨b, o, rfl, _, hc⟩ := h.cell j hjm
        obtain ⟨b', o', rfl, _, hc'⟩ := h'.cell j hjm
        have hle : j < d := Nat.lt_of_lt_of_le hjm h.le
        have hle' : j < d' := Nat.lt_of_lt_of_le hjm h'.le
        replace hc := Vt.cell_on (hbr.block b (Vt.cell_lt hc)) hc
        replace hc' := Vt.cell_on (hbr.block b' (Vt.cell_lt hc')) hc'
        cases hq : ((ks j).toList == (ks' j).toList) with
        | false =>
          have HZ : Hid (Z = false) := HS.out.trans (Vt.allTo_no hq hjm)
          clear HS
          generalize ks j = X at *
          generalize ks' j = Y at *
          go_wp2_with fail
          go_quiet (fail)
          go_wp2
          go_ret
          rw [HZ.out]
          exact ⟨rfl, Vm.drewN hbr _⟩
        | true =>
          have HN : Hid (Vt.allTo (fun j => (ks j).toList == (ks' j).toList) (j + 1) = true) := by unfold Hid Vt.allTo; rw [HK.out, hq]; rfl
          generalize hX : ks j = X at *
          generalize hY : ks' j = Y at *
          clear hX hY
          go_wp2_with fail
          go_quiet (fail)
          go_wp2
          refine ⟨⟨j + 1, hjm, by go_num, HN, Vm.drewN hbr _⟩, ?_⟩
          simp [intOf]
          omega
      · have e : j = m := by omega
        subst e
        go_wp2
        go_ret
        rw [HS.out, HK.out]
        exact ⟨rfl, hbr⟩
  · have d1 : ((m : Int) == (m' : Int)) = false := beq_eq_false_iff_ne.2 (by omega)
    have HS : Hid (Vt.sameKeys m m' ks ks' = false) := by unfold Hid Vt.sameKeys; rw [decide_eq_false hmm]; rfl
    go_enter Tryd.func19, Tryd.ntmps19
    go_wp2
    go_ret
    rw [HS.out]
    exact ⟨rfl, Below.refl _ _⟩
end Go.Proofs.YtboalkfagfgnpabDoor
/-
  THE WALKS of the program's value.isNumber, rank, Less.
-/
namespace Go.Proofs.YtboalkfagfgnpabDoor
open Go.RowKit

/-- a real's place among the others -/
def Re.rank (b : Nat) : Int := if 9223372036854775808 ≤ b then -((b - 9223372036854775808 : Nat) : Int) else (b : Int)
def Re.num (b : Nat) : Bool := !(decide (Re.kind b = 0))

theorem Vl.top {b : Nat} (h : 9223372036854775808 ≤ b) (hb : b < 18446744073709551616) : b &&& 9223372036854775808 = 9223372036854775808 := by
  rw [show (9223372036854775808 : Nat) = 2 ^ 63 by decide]
  apply Nat.eq_of_testBit_eq
  intro i
  rw [Nat.testBit_and, Nat.testBit_two_pow]
  by_cases e : 63 = i
  · subst e
    simp
    have : b / 2 ^ 63 = 1 := by omega
    rw [Nat.testBit, Nat.shiftRight_eq_div_pow, this]
    rfl
  · simp [e]
theorem Vl.low {b : Nat} (h : ¬ 9223372036854775808 ≤ b) : b &&& 9223372036854775808 = 0 := by
  rw [show (9223372036854775808 : Nat) = 2 ^ 63 by decide]
  apply Nat.eq_of_testBit_eq
  intro i
  rw [Nat.testBit_and, Nat.testBit_two_pow]
  by_cases e : 63 = i
  · subst e
    simp
    exact Nat.testBit_lt_two_pow (by omega)
  · simp [e]

def Vt.less : Vt → Vt → Bool × Int
  | .nil, _ => (false, 400)
  | .mk .., .nil => (false, 400)
  | .mk k x b s n it m ks, .mk k' x' b' s' n' it' m' ks' =>
    if (Vt.mk k x b s n it m ks).may = false ∨ (Vt.mk k' x' b' s' n' it' m' ks').may = false then (false, 400)
    else if k ≠ k' then (false, 402)
    else if k = 2 then (decide (x < x'), 0)
    else if k = 3 then (Re.num b && Re.num b' && decide (Re.rank b < Re.rank b'), 0)
    else if k = 4 then (Op.bytesLess s.toList s'.toList, 0)
    else (false, 402)

end Go.Proofs.YtboalkfagfgnpabDoor
/-
  THE WALKS of the program's value.alike and Same, of slices.EqualFunc with it.
-/
namespace Go.Proofs.YtboalkfagfgnpabDoor
open Go.RowKit

theorem Vt.cell_alloc {w : World} {b o : Nat} {v : Value} (h : w.cell? ⟨b, o, none⟩ = some v) (x : Obj) : (w.alloc x).cell? ⟨b, o, none⟩ = some v := Vt.cell_on (Below.heap_alloc _ _ _ (Vt.cell_lt h)) h
/-- are two values the same, as the program compares them? -/
def Vt.alike : Vt → Vt → Bool
  | .nil, _ => false
  | .mk .., .nil => false
  | .mk k x b s n it m ks, .mk k' x' b' s' n' it' m' ks' =>
    if k ≠ k' then false
    else if k = 3 then Re.num b && decide (Re.rank b = Re.rank b')
    else decide (x = x') && (s.toList == s'.toList) && Vt.sameKeys m m' ks ks' && (decide (n = n') && Vt.allTo (fun i => (it i).alike (it' i)) n)

theorem Vt.Lies.keys {w : World} {R : Nat → Prop} {k x : Int} {b : Nat} {s : ByteArray} {n : Nat} {it : Nat → Vt} {m : Nat} {ks : Nat → ByteArray} {ai ak : Option Addr} {c d : Nat}
    (h : (Vt.mk k x b s n it m ks).Lies w R (.agg #[.int .i64 k, .int .i64 x, .int .u64 (b : Int), .string s, .slice ai n c, .slice ak m d])) :
    Vt.Keys w R m ks ak d ∧ (n ≤ c ∧ c ≤ maxLen) ∧ ∀ i, i < n → ∃ bi oi v0 v1 v2 v3 v4 v5, ai = some ⟨bi, oi, none⟩ ∧ R bi ∧ w.cell? ⟨bi, oi + i * 6, none⟩ = some v0 ∧ w.cell? ⟨bi, oi + i * 6 + 1, none⟩ = some v1 ∧ w.cell? ⟨bi, oi + i * 6 + 2, none⟩ = some v2 ∧ w.cell? ⟨bi, oi + i * 6 + 3, none⟩ = some v3 ∧ w.cell? ⟨bi, oi + i * 6 + 4, none⟩ = some v4 ∧ w.cell? ⟨bi, oi + i * 6 + 5, none⟩ = some v5 ∧ (it i).Lies w R (.agg #[v0, v1, v2, v3, v4, v5]) := by
  obtain ⟨ai', c', ak', d', e, hb, hn, hc, hk, hi⟩ := h
  simp only [Value.agg.injEq, Array.mk.injEq, List.cons.injEq, Value.slice.injEq, true_and, and_true] at e
  obtain ⟨⟨rfl, rfl⟩, rfl, rfl⟩ := e
  exact ⟨hk, ⟨hn, hc⟩, hi⟩

def Vt.same (t u : Vt) : Bool := t.may && u.may && t.alike u

end Go.Proofs.YtboalkfagfgnpabDoor

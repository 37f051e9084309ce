/-
  THE WALKS of the program's value.True, Text, isNumber, rank.
-/
import Derived.Test.YtboalkfagfgnpaaGreatDoorCVFormtoReText
namespace Go.Proofs.YtboalkfagfgnpaaGreatDoor
open Go.RowKit

theorem Vt.Lies.alloc {w : World} {t : Vt} {v : Value} (h : t.Lies w (· < w.heap.size) v) (o : Obj) : t.Lies (w.alloc o) (· < (w.alloc o).heap.size) v :=
  h.on fun g hg => ⟨by simp; omega, Below.heap_alloc _ _ _ hg⟩
theorem Vt.Lies.on' {w w' : World} {t : Vt} {v : Value} (h : t.Lies w (· < w.heap.size) v) (hb : Below w.heap.size w w') : t.Lies w' (· < w'.heap.size) v :=
  h.on fun g hg => ⟨Nat.lt_of_lt_of_le hg hb.size, hb.block g hg⟩
theorem Vm.behind {w w1 : World} {o : Obj} (h : Below (w.alloc o).heap.size (w.alloc o) w1) : Below w.heap.size w w1 :=
  ((Below.refl _ _).alloc (Nat.le_refl _) o).trans (h.mono (by simp))
theorem Vm.behind2 {w w1 : World} {o o' : Obj} (h : Below ((w.alloc o).alloc o').heap.size ((w.alloc o).alloc o') w1) : Below w.heap.size w w1 := Vm.behind (Vm.behind h)
theorem Vm.then {w w1 w2 : World} (h : Below w.heap.size w w1) (g : Below w1.heap.size w1 w2) : Below w.heap.size w w2 := h.trans (g.mono h.size)
structure Vm.Box (w : World) (g : Nat) (v0 v1 v2 v3 v4 v5 : Value) : Prop where
  all : w.heap[g]? = some (.cells #[v0, v1, v2, v3, v4, v5] 26)
theorem Vm.Box.cells {w : World} {g : Nat} {v0 v1 v2 v3 v4 v5 : Value} (h : Vm.Box w g v0 v1 v2 v3 v4 v5) : w.cell? ⟨g, 0, none⟩ = some v0 ∧ w.cell? ⟨g, 1, none⟩ = some v1 ∧ w.cell? ⟨g, 2, none⟩ = some v2 ∧ w.cell? ⟨g, 3, none⟩ = some v3 ∧ w.cell? ⟨g, 4, none⟩ = some v4 ∧ w.cell? ⟨g, 5, none⟩ = some v5 :=
  ⟨Vm.boxCell h.all 0 rfl, Vm.boxCell h.all 1 rfl, Vm.boxCell h.all 2 rfl, Vm.boxCell h.all 3 rfl, Vm.boxCell h.all 4 rfl, Vm.boxCell h.all 5 rfl⟩
theorem Vm.Box.on {w w' : World} {g : Nat} {v0 v1 v2 v3 v4 v5 : Value} (h : Vm.Box w g v0 v1 v2 v3 v4 v5) (hg : g < w.heap.size) (hb : Below w.heap.size w w') : Vm.Box w' g v0 v1 v2 v3 v4 v5 := ⟨(hb.block g hg).trans h.all⟩
theorem Vm.box {w w1 : World} {v0 v1 v2 v3 v4 v5 : Value} (h : Below (w.alloc (.cells #[v0, v1, v2, v3, v4, v5] 26)).heap.size (w.alloc (.cells #[v0, v1, v2, v3, v4, v5] 26)) w1) : Vm.Box w1 w.heap.size v0 v1 v2 v3 v4 v5 := ⟨Vm.boxed h⟩

theorem Vt.formed_of {k x : Int} {b : Nat} {s : ByteArray} {n : Nat} {it : Nat → Vt} {m : Nat} {ks : Nat → ByteArray} (h : (Vt.mk k x b s n it m ks).may = true) : Vt.formed k x b s n m ks = true := by
  unfold Vt.may Vt.stand at h
  split at h
  · cases h
  · next hc =>
    cases e : Vt.formed k x b s n m ks with
    | true => rfl
    | false => exact absurd (.inr (.inr e)) hc

def Vt.truth : Vt → Bool
  | .nil => false
  | .mk k x b s n it m ks => (Vt.mk k x b s n it m ks).may && (if k = 1 ∨ k = 2 then !(x == 0) else if k = 3 then !((Re.kind b : Int) == 2) && !((Re.kind b : Int) == 0) else if k = 4 then !(s.toList == []) else decide (0 < n))

/-- the text of a value, and its error's number -/
def Vt.told : Vt → ByteArray × Int
  | .nil => (⟨#[]⟩, 400)
  | .mk k x b s n it m ks => if (Vt.mk k x b s n it m ks).may then (if k = 0 then (⟨#[]⟩, 0) else if k = 1 then (if x = 1 then ⟨#[116, 114, 117, 101]⟩ else ⟨#[102, 97, 108, 115, 101]⟩, 0) else if k = 2 then (⟨(Lib.itoa x).toArray⟩, 0) else if k = 3 then (⟨(Re.text b).toArray⟩, 0) else if k = 4 then (s, 0) else (⟨#[]⟩, 402)) else (⟨#[]⟩, 400)

theorem Vm.bool (a : Bool) (w : World) : Calls Tryz.prog 36 #[.bool a] w fun e w' => e = .returned (.string (if a then ⟨#[116, 114, 117, 101]⟩ else ⟨#[102, 97, 108, 115, 101]⟩)) ∧ w' = w := by
  cases a
  all_goals go_enter Tryz.func36, Tryz.ntmps36
  all_goals go_wp2
  all_goals go_ret
  all_goals exact ⟨rfl, rfl⟩

end Go.Proofs.YtboalkfagfgnpaaGreatDoor
/-
  THE WALKS of slices.Equal of texts and of the law's own SameTexts.
-/
namespace Go.Proofs.YtboalkfagfgnpaaGreatDoor
open Go.RowKit

def Vt.allTo (f : Nat → Bool) : Nat → Bool
  | 0 => true
  | n + 1 => Vt.allTo f n && f n
theorem Vt.allTo_of {f : Nat → Bool} {m j : Nat} (h : Vt.allTo f m = true) (hj : j < m) : f j = true := by
  induction m with
  | zero => omega
  | succ m ih =>
    simp only [Vt.allTo, Bool.and_eq_true] at h
    by_cases e : j = m
    · rw [e]; exact h.2
    · exact ih h.1 (by omega)
theorem Vt.allTo_no {f : Nat → Bool} {m j : Nat} (h : f j = false) (hj : j < m) : Vt.allTo f m = false := by
  cases e : Vt.allTo f m with
  | false => rfl
  | true => rw [Vt.allTo_of e hj] at h; cases h
theorem Vt.allTo_iff {f : Nat → Bool} {m : Nat} : Vt.allTo f m = true ↔ ∀ j, j < m → f j = true := by
  refine ⟨fun h j => Vt.allTo_of h, fun h => ?_⟩
  induction m with
  | zero => rfl
  | succ m ih =>
    simp only [Vt.allTo, Bool.and_eq_true]
    exact ⟨ih fun j hj => h j (by omega), h m (by omega)⟩
/-- the same texts, one by one -/
def Vt.sameKeys (m m' : Nat) (ks ks' : Nat → ByteArray) : Bool := decide (m = m') && Vt.allTo (fun j => (ks j).toList == (ks' j).toList) m

theorem Vm.drewN {B : Nat} {a w : World} (h : Below B a w) (n : Nat) : Below B a (w.drewN n) := ⟨h.os, h.tape, h.output, h.size, h.block⟩

set_option maxRecDepth 100000 in
theorem Ve.texts (m m' : Nat) (ks ks' : Nat → ByteArray) (ak ak' : Option Addr) (d d' : Nat) (R R' : Nat → Prop) (w : World) (h : Vt.Keys w R m ks ak d) (h' : Vt.Keys w R' m' ks' ak' d') :
    Calls Tryz.prog 25 #[.slice ak m d, .slice ak' m' d'] w fun e w' => e = .returned (.bool (Vt.sameKeys m m' ks ks')) ∧ Below w.heap.size w w' := by
  by_cases hmm : m = m'
  · subst hmm
    have hm : m ≤ 9223372036854775807 := by have := h.le; have := h.max; unfold maxLen at this; omega
    have HS : Hid (Vt.sameKeys m m ks ks' = Vt.allTo (fun j => (ks j).toList == (ks' j).toList) m) := by unfold Hid Vt.sameKeys; rw [decide_eq_true rfl]; rfl
    generalize Vt.sameKeys m m ks ks' = Z at *
    go_enter Tryz.func25, Tryz.ntmps25
    go_wp2
    go_loopw [5] (fun i wr => ∃ j : Nat, j ≤ m ∧ i = .int .i64 j ∧ Hid (Vt.allTo (fun j => (ks j).toList == (ks' j).toList) j = true) ∧ Below w.heap.size w wr) (fun i _ => m - (intOf i).toNat)
    case atStart => exact ⟨0, Nat.zero_le _, by go_num, rfl, Below.refl _ _⟩
    case round =>
      obtain ⟨j, hj, rfl, HK, hbr⟩ := hrel
      by_cases hjm : j < m
      · obtain ⟨b, o, rfl, _, hc⟩ := h.cell j hjm
        obtain ⟨b', o', rfl, _, hc'⟩ := h'.cell j hjm
        have hle : j < d := Nat.lt_of_lt_of_le hjm h.le
        have hle' : j < d' := Nat.lt_of_lt_of_le hjm h'.le
        replace hc := Vt.cell_on (hbr.block b (Vt.cell_lt hc)) hc
        replace hc' := Vt.cell_on (hbr.block b' (Vt.cell_lt hc')) hc'
        cases hq : ((ks j).toList == (ks' j).toList) with
        | false =>
          have HZ : Hid (Z = false) := HS.out.trans (Vt.allTo_no hq hjm)
          clear HS
          generalize ks j = X at *
          generalize ks' j = Y at *
          go_wp2_with fail
          go_quiet (fail)
          go_wp2
          go_ret
          rw [HZ.out]
          exact ⟨rfl, Vm.drewN hbr _⟩
        | true =>
          have HN : Hid (Vt.allTo (fun j => (ks j).toList == (ks' j).toList) (j + 1) = true) := by unfold Hid Vt.allTo; rw [HK.out, hq]; rfl
          generalize hX : ks j = X at *
          generalize hY : ks' j = Y at *
          clear hX hY
          go_wp2_with fail
          go_quiet (fail)
          go_wp2
          refine ⟨⟨j + 1, hjm, by go_num, HN, Vm.drewN hbr _⟩, ?_⟩
          simp [intOf]
          omega
      · have e : j = m := by omega
        subst e
        go_wp2
        go_ret
        rw [HS.out, HK.out]
        exact ⟨rfl, hbr⟩
  · have d1 : ((m : Int) == (m' : Int)) = false := beq_eq_false_iff_ne.2 (by omega)
    have HS : Hid (Vt.sameKeys m m' ks ks' = false) := by unfold Hid Vt.sameKeys; rw [decide_eq_false hmm]; rfl
    go_enter Tryz.func25, Tryz.ntmps25
    go_wp2
    go_ret
    rw [HS.out]
    exact ⟨rfl, Below.refl _ _⟩
end Go.Proofs.YtboalkfagfgnpaaGreatDoor
/-
  THE WALKS of the program's value.isNumber, rank, Less.
-/
namespace Go.Proofs.YtboalkfagfgnpaaGreatDoor
open Go.RowKit

/-- a real's place among the others -/
def Re.rank (b : Nat) : Int := if 9223372036854775808 ≤ b then -((b - 9223372036854775808 : Nat) : Int) else (b : Int)
def Re.num (b : Nat) : Bool := !(decide (Re.kind b = 0))

theorem Vl.low {b : Nat} (h : ¬ 9223372036854775808 ≤ b) : b &&& 9223372036854775808 = 0 := by
  rw [show (9223372036854775808 : Nat) = 2 ^ 63 by decide]
  apply Nat.eq_of_testBit_eq
  intro i
  rw [Nat.testBit_and, Nat.testBit_two_pow]
  by_cases e : 63 = i
  · subst e
    simp
    exact Nat.testBit_lt_two_pow (by omega)
  · simp [e]

def Vt.less : Vt → Vt → Bool × Int
  | .nil, _ => (false, 400)
  | .mk .., .nil => (false, 400)
  | .mk k x b s n it m ks, .mk k' x' b' s' n' it' m' ks' =>
    if (Vt.mk k x b s n it m ks).may = false ∨ (Vt.mk k' x' b' s' n' it' m' ks').may = false then (false, 400)
    else if k ≠ k' then (false, 402)
    else if k = 2 then (decide (x < x'), 0)
    else if k = 3 then (Re.num b && Re.num b' && decide (Re.rank b < Re.rank b'), 0)
    else if k = 4 then (Op.bytesLess s.toList s'.toList, 0)
    else (false, 402)

end Go.Proofs.YtboalkfagfgnpaaGreatDoor
/-
  THE WALKS of the program's value.alike and Same, of slices.EqualFunc with it.
-/
namespace Go.Proofs.YtboalkfagfgnpaaGreatDoor
open Go.RowKit

/-- are two values the same, as the program compares them? -/
def Vt.alike : Vt → Vt → Bool
  | .nil, _ => false
  | .mk .., .nil => false
  | .mk k x b s n it m ks, .mk k' x' b' s' n' it' m' ks' =>
    if k ≠ k' then false
    else if k = 3 then Re.num b && decide (Re.rank b = Re.rank b')
    else decide (x = x') && (s.toList == s'.toList) && Vt.sameKeys m m' ks ks' && (decide (n = n') && Vt.allTo (fun i => (it i).alike (it' i)) n)

theorem Vt.Lies.keys {w : World} {R : Nat → Prop} {k x : Int} {b : Nat} {s : ByteArray} {n : Nat} {it : Nat → Vt} {m : Nat} {ks : Nat → ByteArray} {ai ak : Option Addr} {c d : Nat}
    (h : (Vt.mk k x b s n it m ks).Lies w R (.agg #[.int .i64 k, .int .i64 x, .int .u64 (b : Int), .string s, .slice ai n c, .slice ak m d])) :
    Vt.Keys w R m ks ak d ∧ (n ≤ c ∧ c ≤ maxLen) ∧ ∀ i, i < n → ∃ bi oi v0 v1 v2 v3 v4 v5, ai = some ⟨bi, oi, none⟩ ∧ R bi ∧ w.cell? ⟨bi, oi + i * 6, none⟩ = some v0 ∧ w.cell? ⟨bi, oi + i * 6 + 1, none⟩ = some v1 ∧ w.cell? ⟨bi, oi + i * 6 + 2, none⟩ = some v2 ∧ w.cell? ⟨bi, oi + i * 6 + 3, none⟩ = some v3 ∧ w.cell? ⟨bi, oi + i * 6 + 4, none⟩ = some v4 ∧ w.cell? ⟨bi, oi + i * 6 + 5, none⟩ = some v5 ∧ (it i).Lies w R (.agg #[v0, v1, v2, v3, v4, v5]) := by
  obtain ⟨ai', c', ak', d', e, hb, hn, hc, hk, hi⟩ := h
  simp only [Value.agg.injEq, Array.mk.injEq, List.cons.injEq, Value.slice.injEq, true_and, and_true] at e
  obtain ⟨⟨rfl, rfl⟩, rfl, rfl⟩ := e
  exact ⟨hk, ⟨hn, hc⟩, hi⟩

def Vt.same (t u : Vt) : Bool := t.may && u.may && t.alike u

end Go.Proofs.YtboalkfagfgnpaaGreatDoor

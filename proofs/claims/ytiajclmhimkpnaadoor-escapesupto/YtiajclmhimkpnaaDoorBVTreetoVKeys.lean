/-
  TREES OF VALUES: api.Value as a tree, what the program's isFormed, areKeys, mayStand come to of it, and where a tree lies in memory.
-/
import Derived.Test.YtiajclmhimkpnaaDoorChecked
import Derived.WalkKit
import Derived.OwnWalk
import Derived.Lib.Hide
import Derived.Below
import Derived.BigQuiet
import Derived.Laws.Cover1
namespace Go.Proofs.YtiajclmhimkpnaaDoor
open Go.RowKit

inductive Vt where
  | nil
  | mk (kind num : Int) (bits : Nat) (text : ByteArray) (n : Nat) (items : Nat → Vt) (m : Nat) (keys : Nat → ByteArray)

/-- the key ahead of key j -/
def Vt.prev (ks : Nat → ByteArray) : Nat → ByteArray
  | 0 => ⟨#[]⟩
  | j + 1 => ks j
/-- may key j follow? -/
def Vt.key (ks : Nat → ByteArray) (j : Nat) : Bool := !(Op.bytesLess (ks j).toList (Vt.prev ks j).toList || (ks j).toList == (Vt.prev ks j).toList) && decide ((ks j).size ≤ 32)
def Vt.keysOk (ks : Nat → ByteArray) : Nat → Bool
  | 0 => true
  | j + 1 => Vt.keysOk ks j && Vt.key ks j
theorem Vt.keysOk_of {ks : Nat → ByteArray} {m j : Nat} (h : Vt.keysOk ks m = true) (hj : j < m) : Vt.key ks j = true := by
  induction m with
  | zero => omega
  | succ m ih =>
    simp only [Vt.keysOk, Bool.and_eq_true] at h
    by_cases e : j = m
    · rw [e]; exact h.2
    · exact ih h.1 (by omega)
theorem Vt.keysOk_no {ks : Nat → ByteArray} {m j : Nat} (h : Vt.key ks j = false) (hj : j < m) : Vt.keysOk ks m = false := by
  cases e : Vt.keysOk ks m with
  | false => rfl
  | true => rw [Vt.keysOk_of e hj] at h; cases h

/-- may a value be, but for its items? -/
def Vt.formed (k x : Int) (b : Nat) (s : ByteArray) (n m : Nat) (ks : Nat → ByteArray) : Bool :=
  if k = 0 then decide (x = 0) && decide (b = 0) && s.toList.isEmpty && decide (n = 0) && decide (m = 0)
  else if k = 1 then (decide (x = 0) || decide (x = 1)) && decide (b = 0) && s.toList.isEmpty && decide (n = 0) && decide (m = 0)
  else if k = 2 then decide (-9007199254740991 ≤ x) && decide (x ≤ 9007199254740991) && decide (b = 0) && s.toList.isEmpty && decide (n = 0) && decide (m = 0)
  else if k = 3 then decide (x = 0) && s.toList.isEmpty && decide (n = 0) && decide (m = 0)
  else if k = 4 then decide (s.size ≤ 65536) && decide (x = 0) && decide (b = 0) && decide (n = 0) && decide (m = 0)
  else if k = 5 then decide (n ≤ 64) && decide (x = 0) && decide (b = 0) && s.toList.isEmpty && decide (m = 0)
  else if k = 6 then decide (n ≤ 64) && decide (m = n) && Vt.keysOk ks m && decide (x = 0) && decide (b = 0) && s.toList.isEmpty
  else false

/-- one behind the other, as long as each says yes -/
def Vt.run (f : Nat → Int → Bool × Int) : Nat → Int → Bool × Int
  | 0, L => (true, L)
  | n + 1, L => if (Vt.run f n L).1 then f n (Vt.run f n L).2 else Vt.run f n L
theorem Vt.run_no {f : Nat → Int → Bool × Int} {L : Int} {i : Nat} (h : (Vt.run f i L).1 = false) : ∀ n, i ≤ n → Vt.run f n L = Vt.run f i L := by
  intro n hn
  induction n with
  | zero => rw [Nat.le_zero.1 hn]
  | succ n ih =>
    by_cases e : i = n + 1
    · rw [e]
    · have := ih (by omega)
      simp only [Vt.run]
      rw [this, h]
      simp

/-- may a tree stand at this depth, with so many values left? and how many are left then -/
def Vt.stand : Vt → Int → Int → Bool × Int
  | .nil, _, left => (false, left)
  | .mk k x b s n it m ks, deep, left =>
    if left - 1 < 0 ∨ 8 < deep ∨ Vt.formed k x b s n m ks = false then (false, left - 1)
    else Vt.run (fun i L => (it i).stand (deep + 1) L) n (left - 1)
def Vt.may (t : Vt) : Bool := (t.stand 1 1024).1

/-- m texts, one cell each, at the place that a slice names -/
structure Vt.Keys (w : World) (R : Nat → Prop) (m : Nat) (ks : Nat → ByteArray) (ak : Option Addr) (d : Nat) : Prop where
  le : m ≤ d
  max : d ≤ maxLen
  cell : ∀ j, j < m → ∃ b o, ak = some ⟨b, o, none⟩ ∧ R b ∧ w.cell? ⟨b, o + j, none⟩ = some (.string (ks j))
theorem Vt.Keys.on {w w' : World} {R R' : Nat → Prop} {m : Nat} {ks : Nat → ByteArray} {ak : Option Addr} {d : Nat} (h : Vt.Keys w R m ks ak d) (hw : ∀ k, R k → R' k ∧ w'.heap[k]? = w.heap[k]?) : Vt.Keys w' R' m ks ak d :=
  ⟨h.le, h.max, fun j hj => by
    obtain ⟨b, o, e, r, c⟩ := h.cell j hj
    refine ⟨b, o, e, (hw b r).1, ?_⟩
    unfold World.cell? at c ⊢
    rw [(hw b r).2]
    exact c⟩

/-- the tree lies in memory, in blocks of R alone, and v is its root -/
def Vt.Lies (w : World) (R : Nat → Prop) : Vt → Value → Prop
  | .nil, _ => False
  | .mk k x b s n it m ks, v => ∃ ai c ak d, v = .agg #[.int .i64 k, .int .i64 x, .int .u64 (b : Int), .string s, .slice ai n c, .slice ak m d] ∧ b < 18446744073709551616 ∧ n ≤ c ∧ c ≤ maxLen ∧ Vt.Keys w R m ks ak d ∧
    ∀ i, i < n → ∃ bi oi v0 v1 v2 v3 v4 v5, ai = some ⟨bi, oi, none⟩ ∧ R bi ∧ w.cell? ⟨bi, oi + i * 6, none⟩ = some v0 ∧ w.cell? ⟨bi, oi + i * 6 + 1, none⟩ = some v1 ∧ w.cell? ⟨bi, oi + i * 6 + 2, none⟩ = some v2 ∧ w.cell? ⟨bi, oi + i * 6 + 3, none⟩ = some v3 ∧ w.cell? ⟨bi, oi + i * 6 + 4, none⟩ = some v4 ∧ w.cell? ⟨bi, oi + i * 6 + 5, none⟩ = some v5 ∧ (it i).Lies w R (.agg #[v0, v1, v2, v3, v4, v5])
theorem Vt.cell_on {w w' : World} {b o : Nat} {v : Value} (hw : w'.heap[b]? = w.heap[b]?) (h : w.cell? ⟨b, o, none⟩ = some v) : w'.cell? ⟨b, o, none⟩ = some v := by
  unfold World.cell? at h ⊢
  rw [hw]
  exact h
theorem Vt.cell_lt {w : World} {b o : Nat} {v : Value} (h : w.cell? ⟨b, o, none⟩ = some v) : b < w.heap.size := by
  cases Nat.lt_or_ge b w.heap.size with
  | inl h' => exact h'
  | inr h' =>
    unfold World.cell? at h
    rw [Array.getElem?_eq_none h'] at h
    cases h
theorem Vt.Lies.on {w w' : World} {R R' : Nat → Prop} (hw : ∀ k, R k → R' k ∧ w'.heap[k]? = w.heap[k]?) : ∀ {t : Vt} {v : Value}, t.Lies w R v → t.Lies w' R' v := by
  intro t
  induction t with
  | nil => intro v h; exact h.elim
  | mk k x b s n it m ks ih =>
    rintro v ⟨ai, c, ak, d, rfl, hb, hn, hc, hk, hi⟩
    refine ⟨ai, c, ak, d, rfl, hb, hn, hc, hk.on hw, fun i hin => ?_⟩
    obtain ⟨bi, oi, v0, v1, v2, v3, v4, v5, e, r, c0, c1, c2, c3, c4, c5, hl⟩ := hi i hin
    have hh := (hw bi r).2
    exact ⟨bi, oi, v0, v1, v2, v3, v4, v5, e, (hw bi r).1, Vt.cell_on hh c0, Vt.cell_on hh c1, Vt.cell_on hh c2, Vt.cell_on hh c3, Vt.cell_on hh c4, Vt.cell_on hh c5, ih i hl⟩
instance : Inhabited Vt := ⟨.nil⟩
theorem Vt.Lies.cells {w : World} {R : Nat → Prop} {t : Vt} {v0 v1 v2 v3 v4 v5 : Value} (h : t.Lies w R (.agg #[v0, v1, v2, v3, v4, v5])) :
    ∃ (k x : Int) (b : Nat) (s : ByteArray) (ai : Option Addr) (n c : Nat) (ak : Option Addr) (m d : Nat), v0 = .int .i64 k ∧ v1 = .int .i64 x ∧ v2 = .int .u64 (b : Int) ∧ v3 = .string s ∧ v4 = .slice ai n c ∧ v5 = .slice ak m d := by
  cases t with
  | nil => exact h.elim
  | mk k x b s n it m ks =>
    obtain ⟨ai, c, ak, d, e, _⟩ := h
    injection e with e
    injection e with e
    injection e with e0 e
    injection e with e1 e
    injection e with e2 e
    injection e with e3 e
    injection e with e4 e
    injection e with e5 e
    exact ⟨k, x, b, s, ai, n, c, ak, m, d, e0, e1, e2, e3, e4, e5⟩
theorem Vt.Lies.below {w w' : World} {B : Nat} {t : Vt} {v : Value} (h : t.Lies w (· < B) v) (hb : Below B w w') : t.Lies w' (· < B) v :=
  h.on fun k hk => ⟨hk, hb.block k hk⟩
theorem Vt.Lies.le {w : World} {B B' : Nat} {t : Vt} {v : Value} (h : t.Lies w (· < B) v) (hb : B ≤ B') : t.Lies w (· < B') v :=
  h.on fun _ hk => ⟨Nat.lt_of_lt_of_le hk hb, rfl⟩
end Go.Proofs.YtiajclmhimkpnaaDoor
/-
  THE WALKS of the program's value.areKeys.
-/
namespace Go.Proofs.YtiajclmhimkpnaaDoor
open Go.RowKit

set_option maxRecDepth 100000 in
theorem Vm.keys (m : Nat) (ks : Nat → ByteArray) (ak : Option Addr) (d : Nat) (R : Nat → Prop) (w : World) (h : Vt.Keys w R m ks ak d) :
    Calls Tryd.prog 58 #[.slice ak m d] w fun e w' => e = .returned (.bool (Vt.keysOk ks m)) ∧ w' = w := by
  have hm : m ≤ 9223372036854775807 := by have := h.le; have := h.max; unfold maxLen at this; omega
  go_enter Tryd.func58, Tryd.ntmps58
  go_wp2
  go_loop [3, 8] (fun p i => ∃ j : Nat, j ≤ m ∧ i = .int .i64 j ∧ p = .string (Vt.prev ks j) ∧ Hid (Vt.keysOk ks j = true)) (fun _ i => m - (intOf i).toNat)
  case atStart => exact ⟨0, Nat.zero_le _, by go_num, rfl, rfl⟩
  case round =>
    obtain ⟨j, hj, rfl, rfl, HK⟩ := hrel
    by_cases hjm : j < m
    · obtain ⟨b, o, rfl, _, hc⟩ := h.cell j hjm
      have hle : j < d := Nat.lt_of_lt_of_le hjm h.le
      have hmd := h.le
      have HN : Hid (Vt.key ks j = (!(Op.bytesLess (ks j).toList (Vt.prev ks j).toList || (ks j).toList == (Vt.prev ks j).toList) && decide ((ks j).size ≤ 32))) := rfl
      have HP : Hid (Vt.prev ks (j + 1) = ks j) := rfl
      have HA : Hid (Vt.key ks j = false → Vt.keysOk ks m = false) := fun hx => Vt.keysOk_no hx hjm
      have HB : Hid (Vt.key ks j = true → Vt.keysOk ks (j + 1) = true) := fun hx => by simp only [Vt.keysOk]; rw [HK.out, hx]; rfl
      generalize hX : ks j = X at *
      clear hX
      generalize Vt.prev ks j = Y at *
      cases hl : (Op.bytesLess X.toList Y.toList || X.toList == Y.toList) with
      | true =>
        have HX : Hid (Vt.key ks j = false) := by
          have := HN.out
          rw [hl] at this
          exact this
        clear HN
        go_wp2
        go_ret
        rw [HA.out HX.out]
        exact ⟨rfl, rfl⟩
      | false =>
        by_cases hs : X.size ≤ 32
        · have hs' : decide (32 < (X.size : Int)) = false := decide_eq_false (by omega)
          have HX : Hid (Vt.key ks j = true) := by
            have := HN.out
            rw [hl, decide_eq_true hs] at this
            exact this
          clear HN
          go_wp2
          refine ⟨⟨j + 1, by omega, by go_num, by rw [HP.out], HB.out HX.out⟩, ?_⟩
          simp [intOf]
          omega
        · have hs' : decide (32 < (X.size : Int)) = true := decide_eq_true (by omega)
          have HX : Hid (Vt.key ks j = false) := by
            have := HN.out
            rw [hl, decide_eq_false hs] at this
            exact this
          clear HN
          go_wp2
          go_ret
          rw [HA.out HX.out]
          exact ⟨rfl, rfl⟩
    · have e : j = m := by omega
      subst e
      go_wp2
      go_ret
      rw [HK.out]
      exact ⟨rfl, rfl⟩

end Go.Proofs.YtiajclmhimkpnaaDoor

/-
  PLAIN: commands of so many arguments, as stolelaw15.PipeRows makes them; words in a row of one's own.
-/
import Derived.Test.YtjmobhohfcieoaaIAw
import Derived.Test.YtjmobhohfcieoaaIFew
namespace Go.Proofs.Ytjmobhohfcieoaa
open Go.RowKit
deriving instance DecidableEq for Ar
deriving instance DecidableEq for Cm
def Ir.cat : List UInt8 := [99, 97, 116]
def Ir.ints (j : Nat) : List Wi := (List.range j).map fun (i : Nat) => ⟨3, [], [], (i : Int)⟩
def Ir.pre (i : Nat) : List Wi := if 0 < i then [⟨5, [], [], 0⟩] else []
def Ir.words (m : Nat) : Nat → List Wi
  | 0 => []
  | i + 1 => Ir.words m i ++ Ir.pre i ++ [⟨0, Ir.cat, [], 0⟩] ++ Ir.ints m
def Ir.args (m : Nat) : List Ar := (List.range m).map fun (j : Nat) => ⟨2, [], [], (j : Int), []⟩
def Ir.cmds (m k : Nat) : List Cm := List.replicate k ⟨Ir.cat, Ir.args m⟩
def Ir.check (k m : Nat) : Bool := decide (Pi.parse (Ir.words m k) = if 8 < k ∨ 8 < m then ([], 1501) else (Ir.cmds m k, 0))
set_option maxRecDepth 1000000 in
theorem Ir.checks : ((List.range 12).all fun k => (List.range 12).all fun m => Ir.check (k + 1) m) = true := by kernel_rfl
theorem Ir.parse (k m : Nat) (hk : 1 ≤ k) (hk2 : k ≤ 12) (hm : m < 12) : Pi.parse (Ir.words m k) = if 8 < k ∨ 8 < m then ([], 1501) else (Ir.cmds m k, 0) := by
  have h := List.all_eq_true.1 (List.all_eq_true.1 Ir.checks (k - 1) (List.mem_range.2 (by omega))) m (List.mem_range.2 hm)
  rw [show k - 1 + 1 = k by omega] at h
  exact of_decide_eq_true h
theorem Ir.ints_succ (j : Nat) : Ir.ints (j + 1) = Ir.ints j ++ [⟨3, [], [], (j : Int)⟩] := by
  unfold Ir.ints
  rw [List.range_succ, List.map_append]
  rfl
theorem Ir.ints_len (j : Nat) : (Ir.ints j).length = j := by unfold Ir.ints; simp
theorem Ir.len (m : Nat) : ∀ k, (Ir.words m k).length ≤ k * (m + 2) := by
  intro k
  induction k with
  | zero => simp [Ir.words]
  | succ k ih =>
    have : (Ir.pre k).length ≤ 1 := by unfold Ir.pre; split <;> simp
    simp only [Ir.words, List.length_append, Ir.ints_len, List.length_singleton]
    rw [Nat.add_mul]
    omega
theorem Ir.fits (m k : Nat) (hk : k ≤ 12) (hm : m < 12) : Wi.Fits (Ir.words m k) := by
  have hl := Ir.len m k
  have h2 : k * (m + 2) ≤ 12 * 13 := Nat.mul_le_mul hk (by omega)
  refine ⟨by omega, ?_⟩
  clear hl h2
  induction k with
  | zero => intro x hx; simp [Ir.words] at hx
  | succ k ih =>
    intro x hx
    simp only [Ir.words, List.mem_append, List.mem_singleton] at hx
    rcases hx with ((hx | hx) | hx) | hx
    · exact ih (by omega) x hx
    · unfold Ir.pre at hx
      split at hx
      · rw [List.mem_singleton.1 hx]; exact ⟨Nat.zero_le _, Nat.zero_le _, fun t ht => by cases ht⟩
      · cases hx
    · subst hx
      exact ⟨by decide, Nat.zero_le _, fun t ht => by cases ht⟩
    · unfold Ir.ints at hx
      obtain ⟨i, _, rfl⟩ := List.mem_map.1 hx
      exact ⟨Nat.zero_le _, Nat.zero_le _, fun t ht => by cases ht⟩
/-- a word's four cells -/
def Wi.four (k : Int) (t : ByteArray) (pv : Value) (n : Int) : List Value := [.int .i64 k, .string t, pv, .int .i64 n]
theorem Wi.info : (Try.prog.info? 45).map (fun i => (i.zero, i.size, i.bytes)) = some (some (.agg #[.int .i64 0, .string ⟨#[]⟩, .slice none 0 0, .int .i64 0]), 4, 56) := by kernel_rfl
theorem Wi.cells {w : World} {R : Nat → Prop} {x : Wi} {t : ByteArray} (ht : t = ⟨x.text.toArray⟩) (hp : x.path = []) : ∀ (i : Nat) d, (Wi.dt x)[i]? = some d → ∃ u, (Wi.four x.kind t (.slice none 0 0) x.num)[i]? = some u ∧ Dt.Lies w R d u := by
  subst ht
  intro i d hi
  match i, hi with
  | 0, hi => exact ⟨_, rfl, by have := Option.some.inj hi; subst this; exact Dt.i⟩
  | 1, hi => exact ⟨_, rfl, by have := Option.some.inj hi; subst this; exact Dt.s⟩
  | 2, hi => exact ⟨_, rfl, by have := Option.some.inj hi; subst this; rw [hp]; exact Dt.n⟩
  | 3, hi => exact ⟨_, rfl, by have := Option.some.inj hi; subst this; exact Dt.i⟩
theorem Wi.ones (k : Int) (t : ByteArray) (n : Int) : ∀ u ∈ Wi.four k t (.slice none 0 0) n, u.oneCell' = true := by
  intro u hu
  simp only [Wi.four, List.mem_cons, List.not_mem_nil, or_false] at hu
  rcases hu with rfl | rfl | rfl | rfl <;> rfl
abbrev Wi.Own (base : Nat) (l : List Wi) (w : World) (v : Value) (xs : List Value) : Prop := Gr.Own base (fun _ => False) 45 4 l.length (l.flatMap Wi.dt) w v xs
/-- a word more -/
theorem Wi.pushed {W w7 : World} {l : List Wi} {x : Wi} {t : ByteArray} {B : Nat} {a : Option Addr} {d : Nat} {xs : List Value} {v7 : Value} (ho : Wi.Own B l W (.slice a l.length d) xs) (hB : B ≤ W.heap.size) (ht : t = ⟨x.text.toArray⟩) (hp : x.path = [])
    (R7 : w7.ownsRow B 45 4 v7 (l.length + 1) (xs ++ Wi.four x.kind t (.slice none 0 0) x.num)) (hg : (W.alloc (.cells (Wi.four x.kind t (.slice none 0 0) x.num).toArray 45)).grownBy w7 (Value.slice a l.length d).ownBlock) (hf : v7.ownBlock = (Value.slice a l.length d).ownBlock ∨ v7.ownBlock = some (W.alloc (.cells (Wi.four x.kind t (.slice none 0 0) x.num).toArray 45)).heap.size) : ∃ l2 a' d' xs', v7 = .slice a' l2.length d' ∧ Hid (l2 = l ++ [x]) ∧ Hid (l2.length = l.length + 1) ∧ Hid (Wi.Own B l2 w7 (.slice a' l2.length d') xs') ∧ Below B W w7 := by
  have h7 := ho.push (Pr.boxed W _) (nd := Wi.dt x) rfl (Wi.cells ht hp) R7 hg hf
  obtain ⟨a', d', rfl⟩ := Gr.form R7
  have e : (l ++ [x]).flatMap Wi.dt = l.flatMap Wi.dt ++ Wi.dt x := by rw [List.flatMap_append]; simp
  have hl : (l ++ [x]).length = l.length + 1 := by simp
  refine ⟨l ++ [x], a', d', _, by rw [hl], rfl, hl, by unfold Hid Wi.Own; rw [e, hl]; exact h7, ?_⟩
  exact ((Below.refl B W).alloc hB _).grown hg (by simp; omega) (fun k e => (ho.own.lt k e).1)
theorem Ir.cmds_at {R : Nat → Prop} {w : World} {m k : Nat} {v : Value} (h : Dt.Lies w R (Cm.rows (Ir.cmds m k)) v) : ∃ a d, v = .slice a k d ∧ k ≤ d ∧ ∀ i, i < k → ∃ b o a3 d3, a = some ⟨b, o, none⟩ ∧ w.cell? ⟨b, o + i * 2, none⟩ = some (.string ⟨#[99, 97, 116]⟩) ∧ w.cell? ⟨b, o + i * 2 + 1, none⟩ = some (.slice a3 m d3) ∧ m ≤ d3 ∧ ∀ j, j < m → ∃ b' o' ap dp, a3 = some ⟨b', o', none⟩ ∧ w.cell? ⟨b', o' + j * 5, none⟩ = some (.int .i64 2) ∧ w.cell? ⟨b', o' + j * 5 + 1, none⟩ = some (.string ⟨#[]⟩) ∧ w.cell? ⟨b', o' + j * 5 + 2, none⟩ = some (.slice ap 0 dp) ∧ w.cell? ⟨b', o' + j * 5 + 3, none⟩ = some (.int .i64 (j : Int)) ∧ w.cell? ⟨b', o' + j * 5 + 4, none⟩ = some (.string ⟨#[]⟩) := by
  obtain ⟨a, d, rfl, h1, _, hx⟩ := Cm.get h
  have hl : (Ir.cmds m k).length = k := List.length_replicate ..
  have hla : (Ir.args m).length = m := by unfold Ir.args; simp
  refine ⟨a, d, by rw [hl], by omega, fun i hi => ?_⟩
  obtain ⟨b, o, av, ea, _, c0, c1, hv⟩ := hx i ⟨Ir.cat, Ir.args m⟩ (by unfold Ir.cmds; rw [List.getElem?_replicate, if_pos hi])
  obtain ⟨a3, d3, rfl, g1, _, gx⟩ := Ar.get hv
  refine ⟨b, o, a3, d3, ea, c0, by rw [hla] at c1; exact c1, by have : (Ir.args m).length ≤ d3 := g1; omega, fun j hj => ?_⟩
  obtain ⟨b', o', pv, eb, _, x0, x1, x2, x3, x4, hp⟩ := gx j ⟨2, [], [], (j : Int), []⟩ (by show (Ir.args m)[j]? = _; unfold Ir.args; rw [List.getElem?_map, List.getElem?_range hj]; rfl)
  obtain ⟨ap, dp, rfl, _, _, _⟩ := hp
  exact ⟨b', o', ap, dp, eb, x0, x1, x2, x3, x4⟩
theorem Ir.step (m i : Nat) : Ir.words m (i + 1) = Ir.words m i ++ Ir.pre i ++ [⟨0, Ir.cat, [], 0⟩] ++ Ir.ints m := rfl
theorem Ir.index12 (wh : Int) : ∃ q : Nat, q < 12 ∧ wrap64 ((IntKind.u64.wrap wh).tmod 12) = (q : Int) ∧ IntKind.i64.wrap ((IntKind.u64.wrap wh).tmod 12) = (q : Int) := by
  have h1 : 0 ≤ IntKind.u64.wrap wh := by
    rw [IntKind.wrap_u64]; omega
  have h2 : (IntKind.u64.wrap wh).tmod 12 = IntKind.u64.wrap wh % 12 := Int.tmod_eq_emod_of_nonneg h1
  refine ⟨(IntKind.u64.wrap wh % 12).toNat, by omega, ?_, ?_⟩
  · rw [h2]
    unfold wrap64
    omega
  · rw [h2, IntKind.wrap_i64]
    omega
end Go.Proofs.Ytjmobhohfcieoaa

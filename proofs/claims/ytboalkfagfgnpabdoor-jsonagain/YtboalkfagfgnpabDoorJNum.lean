/-
  PLAIN: a number, and what surrounds it.
-/
import Derived.Test.YtboalkfagfgnpabDoorMJAwtoFrame10
namespace Go.Proofs.YtboalkfagfgnpabDoor
open Go.RowKit
theorem Jk.may {k : Int} (h1 : -9007199254740991 ≤ k) (h2 : k ≤ 9007199254740991) : (Js.leaf 2 k 0 ⟨#[]⟩).may = true := by
  unfold Vt.may
  rw [Js.stand_leaf (by decide) (Js.formed2 h1 h2)]
theorem Jk.len {k : Int} (h1 : -9007199254740991 ≤ k) (h2 : k ≤ 9007199254740991) : (Lib.itoa k).length ≤ 21 := Rt.itoa_le k (by omega) (by omega)
theorem Jk.put (k : Int) : Js.put (Js.leaf 2 k 0 ⟨#[]⟩) = Lib.itoa k := rfl
theorem Jk.said {k : Int} (h1 : -9007199254740991 ≤ k) (h2 : k ≤ 9007199254740991) : Js.said (Js.leaf 2 k 0 ⟨#[]⟩) = Lib.itoa k ∧ Js.err (Js.leaf 2 k 0 ⟨#[]⟩) = 0 := by
  have hl := Jk.len h1 h2
  unfold Js.said Js.err
  rw [Jk.put, if_pos ⟨Jk.may h1 h2, by omega⟩, if_pos (Jk.may h1 h2), if_pos (by omega)]
  exact ⟨rfl, rfl⟩
theorem Jk.get {k : Int} (h1 : -9007199254740991 ≤ k) (h2 : k ≤ 9007199254740991) : Js.get (32 :: (Lib.itoa k ++ [10])) = some (Js.leaf 2 k 0 ⟨#[]⟩) := by
  have hl := Jk.len h1 h2
  have hv : Js.value 8 (32 :: (Lib.itoa k ++ [10])) = some (Js.leaf 2 k 0 ⟨#[]⟩, [10]) := by
    obtain ⟨c, t, e1, h⟩ := Js.itoa_head k
    have hn := Js.number_itoa k h1 h2 (r := [10]) rfl
    rw [Js.value]
    have hw : Js.ws (32 :: (Lib.itoa k ++ [10])) = Lib.itoa k ++ [10] := by
      have hb : Js.begins c = true := by
        unfold Js.begins
        rcases h with h | rfl
        · rw [h]; rfl
        · rfl
      rw [e1]
      show Js.ws (c :: (t ++ [10])) = _
      exact Js.ws_stay (Js.begins_facts c hb).1
    rw [hw]
    rw [e1] at hn ⊢
    exact (Js.at_number h).trans hn
  unfold Js.get
  rw [if_neg (by simp only [List.length_cons, List.length_append, List.length_nil]; omega), hv]
  show (if Js.ws [10] = [] ∧ (Js.leaf 2 k 0 ⟨#[]⟩).may = true then _ else _) = _
  rw [if_pos ⟨rfl, Jk.may h1 h2⟩]
/-- a leaf lies wherever it is -/
theorem Jl.leaf {k x : Int} {b : Nat} {s : ByteArray} {w : World} {R : Nat → Prop} {v : Value} (h : (Js.leaf k x b s).Lies w R v) (w' : World) (R' : Nat → Prop) : (Js.leaf k x b s).Lies w' R' v := by
  obtain ⟨ai, c, ak, d, e, h1, h2, h3, h4, _⟩ := h
  exact ⟨ai, c, ak, d, e, h1, h2, h3, ⟨h4.le, h4.max, fun j hj => absurd hj (by omega)⟩, fun i hi => absurd hi (by omega)⟩
/-- a tree that may be is the same as itself -/
theorem Js.eq_refl : ∀ (d : Nat) (t : Vt), Js.Ok d t → t.eq t = true
  | 0, _, h => h.elim
  | _ + 1, .nil, h => h.elim
  | d + 1, .mk k x b s n it m ks, ⟨_, _, hi⟩ => by
    have h1 : Vt.sameKeys m m ks ks = true := by
      unfold Vt.sameKeys
      rw [decide_eq_true rfl, Bool.true_and]
      exact Vt.allTo_iff.2 fun j _ => beq_self_eq_true _
    have h2 : Vt.allTo (fun i => (it i).eq (it i)) n = true := Vt.allTo_iff.2 fun i hin => Js.eq_refl d (it i) (hi i hin)
    rw [Vt.eq, h1, h2]
    simp
theorem Jl.leaf_eq (k x : Int) (b : Nat) (s : ByteArray) : (Js.leaf k x b s).eq (Js.leaf k x b s) = true := by
  unfold Js.leaf
  rw [Vt.eq]
  simp [Vt.sameKeys, Vt.allTo]
structure Jz.S (t : Vt) (w W : World) (g : Nat) (v0 v1 v2 v3 v4 v5 : Value) : Prop where
  low : Below w.heap.size w W
  tab : Jt W
  box : Vm.Box W g v0 v1 v2 v3 v4 v5
  lies : t.Lies W (· < W.heap.size) (.agg #[v0, v1, v2, v3, v4, v5])
theorem Jz.S.on {t : Vt} {w W W' : World} {g : Nat} {v0 v1 v2 v3 v4 v5 : Value} (h : Jz.S t w W g v0 v1 v2 v3 v4 v5) (hb : Below W.heap.size W W') : Jz.S t w W' g v0 v1 v2 v3 v4 v5 :=
  ⟨h.low.trans (hb.mono h.low.size), h.tab.on hb, ⟨(hb.block g h.box.lt).trans h.box.all⟩, (h.lies.below hb).le hb.size⟩
theorem Js.got_none {l : List UInt8} (h : Js.get l = none) : Js.got l = Js.leaf 0 0 0 ⟨#[]⟩ ∧ Js.gerr l = 1000 := by
  unfold Js.got Js.gerr
  rw [h]
  exact ⟨rfl, rfl⟩
theorem Js.got_some {l : List UInt8} {t : Vt} (h : Js.get l = some t) : Js.got l = t ∧ Js.gerr l = 0 := by
  unfold Js.got Js.gerr
  rw [h]
  exact ⟨rfl, rfl⟩
end Go.Proofs.YtboalkfagfgnpabDoor

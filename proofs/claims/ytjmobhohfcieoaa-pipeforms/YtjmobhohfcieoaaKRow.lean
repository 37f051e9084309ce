/-
  ROWS OF ARGUMENTS whose paths are still the input's.
-/
import Derived.Test.YtjmobhohfcieoaaKCur
import Derived.Test.YtjmobhohfcieoaaKArg3
import Derived.Laws.OwnMore
namespace Go.Proofs.Ytjmobhohfcieoaa
open Go.RowKit
/-- arguments in a row of their own; their paths lie in w0 -/
structure Kr.Args (w0 w : World) (base : Nat) (l : List Ar) (v : Value) (xs : List Value) : Prop where
  own : w.ownsRow base 41 5 v l.length xs
  arg : ∀ i x, l[i]? = some x → ∃ pv, St.Lies w0 (fun _ => True) x.path pv ∧ ∀ r u, (Ar.five x pv)[r]? = some u → xs[i * 5 + r]? = some u
theorem Kr.Args.nil (w0 w : World) (base : Nat) : Kr.Args w0 w base [] (.slice none 0 0) [] := ⟨World.ownsRow_nil _ _ _ _, fun i x h => by simp at h⟩
theorem Kr.low {w : World} {b1 b2 : Nat} {e : TypeId} {size n : Nat} {v : Value} {xs : List Value} (h : w.ownsRow b1 e size v n xs) (hb : b2 ≤ b1) : w.ownsRow b2 e size v n xs :=
  ⟨h.1, h.2.imp id fun ⟨g, cap, cur, e, hbg, rest⟩ => ⟨g, cap, cur, e, Nat.le_trans hb hbg, rest⟩⟩
section
variable {w0 w w' : World} {base : Nat} {l : List Ar} {v : Value} {xs : List Value}
theorem Kr.Args.on (h : Kr.Args w0 w base l v xs) (hb : ∀ k, v.ownBlock = some k → w'.heap[k]? = w.heap[k]?) : Kr.Args w0 w' base l v xs := ⟨Rm.own_on h.own hb, h.arg⟩
theorem Kr.Args.below (h : Kr.Args w0 w base l v xs) (hb : Below w.heap.size w w') : Kr.Args w0 w' base l v xs := h.on fun k hk => hb.block k (h.own.lt k hk).2
theorem Kr.Args.lower (h : Kr.Args w0 w base l v xs) {b2 : Nat} (hb : b2 ≤ base) : Kr.Args w0 w b2 l v xs := ⟨Kr.low h.own hb, h.arg⟩
theorem Kr.Args.set (h : Kr.Args w0 w base l v xs) {b i : Nat} (hb : b < base) (u : Value) : Kr.Args w0 (w.setCell ⟨b, i, none⟩ u) base l v xs := h.on fun k hk => Below.heap_setCell _ _ _ _ (by have := (h.own.lt k hk).1; show k ≠ b; omega)
theorem Kr.Args.push (h : Kr.Args w0 w base l v xs) {x : Ar} {pv v' : Value} (hp : St.Lies w0 (fun _ => True) x.path pv) (hown : w'.ownsRow base 41 5 v' (l.length + 1) (xs ++ Ar.five x pv)) : Kr.Args w0 w' base (l ++ [x]) v' (xs ++ Ar.five x pv) := by
  have hl : xs.length = l.length * 5 := h.own.1
  refine ⟨by rw [List.length_append]; exact hown, fun i y hi => ?_⟩
  by_cases hlt : i < l.length
  · rw [List.getElem?_append_left hlt] at hi
    obtain ⟨q, h1, h2⟩ := h.arg i y hi
    refine ⟨q, h1, fun r u hr => ?_⟩
    have hr5 : r < 5 := (List.getElem?_eq_some_iff.1 hr).1
    rw [List.getElem?_append_left (by omega)]
    exact h2 r u hr
  · rw [List.getElem?_append_right (by omega)] at hi
    have h0 : i - l.length = 0 := by
      have := (List.getElem?_eq_some_iff.1 hi).1
      simp at this
      omega
    rw [h0] at hi
    have hi : x = y := Option.some.inj hi
    subst hi
    refine ⟨pv, hp, fun r u hr => ?_⟩
    rw [List.getElem?_append_right (by omega), show i * 5 + r - xs.length = r by omega]
    exact hr
end
theorem Kp.args_step {ws : List Wi} {j : Nat} (h : j < ws.length) : Kp.args (ws.drop j) = if (Ka.arg ws[j]).2 = true then (Ka.arg ws[j]).1 :: Kp.args (ws.drop (j + 1)) else [] := by
  rw [List.drop_eq_getElem_cons h]
  rfl
theorem Kp.behind_at {ws : List Wi} {i i1 : Nat} (h : (if Kp.isf (ws.drop i) = true then i + 1 else i) = i1) : Kp.behind (ws.drop i) = ws.drop i1 := by
  unfold Kp.behind
  subst h
  split
  · rw [List.tail_drop]
  · rfl
end Go.Proofs.Ytjmobhohfcieoaa

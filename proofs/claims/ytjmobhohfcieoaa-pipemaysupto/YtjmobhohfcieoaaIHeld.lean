/-
  PLAIN: words and pipes that a machine can hold.
-/
import Derived.Test.YtjmobhohfcieoaaISame
import Derived.Test.YtjmobhohfcieoaaISpoil
namespace Go.Proofs.Ytjmobhohfcieoaa
/-- words that a machine can hold -/
def Wi.Fits (ws : List Wi) : Prop := ws.length ≤ 1048576 ∧ ∀ x ∈ ws, x.text.length ≤ 1048576 ∧ x.path.length ≤ 1048576 ∧ ∀ t ∈ x.path, t.length ≤ 1048576
/-- a pipe that a machine can hold -/
def Cm.Held (cs : List Cm) : Prop := cs.length ≤ 1048576 ∧ ∀ c ∈ cs, c.fn.length ≤ 1048576 ∧ c.args.length ≤ 1048576 ∧ ∀ x ∈ c.args, x.name.length ≤ 1048576 ∧ x.text.length ≤ 1048576 ∧ x.path.length ≤ 1048576 ∧ ∀ t ∈ x.path, t.length ≤ 1048576
theorem Cm.Held.fits {cs : List Cm} (h : Cm.Held cs) : Cm.Fits cs := fun c hc x hx => ⟨by have := ((h.2 c hc).2.2 x hx).1; omega, fun t ht => by have := ((h.2 c hc).2.2 x hx).2.2.2 t ht; omega⟩
end Go.Proofs.Ytjmobhohfcieoaa

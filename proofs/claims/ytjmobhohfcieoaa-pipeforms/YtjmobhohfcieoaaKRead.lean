/-
  what is read of words is no longer than they are.
-/
import Derived.Test.YtjmobhohfcieoaaKOwn
namespace Go.Proofs.Ytjmobhohfcieoaa
def Kp.Wf (w : Wi) : Prop := w.text.length ≤ 1048576 ∧ w.path.length ≤ 1048576 ∧ ∀ t ∈ w.path, t.length ≤ 1048576
def Kp.Cf (c : Cm) : Prop := c.fn.length ≤ 1048576 ∧ ∀ x ∈ c.args, Ko.Fine x
theorem Ka.fine {w : Wi} (h : Kp.Wf w) : Ko.Fine (Ka.arg w).1 := by
  have h0 : Ko.Fine Ka.zero := ⟨Nat.zero_le _, Nat.zero_le _, Nat.zero_le _, fun t ht => by cases ht⟩
  have hn : ∀ t ∈ ([] : List (List UInt8)), t.length ≤ 1048576 := fun t ht => by cases ht
  unfold Ka.arg
  split
  · show Ko.Fine (Ka.const w.text).1
    obtain ⟨h1, h2, h3⟩ := Ka.const_zero w.text
    refine ⟨by rw [h2]; exact Nat.zero_le _, by rw [h3]; exact Nat.zero_le _, by rw [h1]; exact Nat.zero_le _, by rw [h1]; exact hn⟩
  · split
    · exact ⟨Nat.zero_le _, Nat.zero_le _, h.2.1, h.2.2⟩
    · split
      · exact ⟨h.1, Nat.zero_le _, h.2.1, h.2.2⟩
      · split
        · exact ⟨Nat.zero_le _, Nat.zero_le _, Nat.zero_le _, hn⟩
        · split
          · exact ⟨Nat.zero_le _, h.1, Nat.zero_le _, hn⟩
          · exact h0
theorem Kp.args_fine : ∀ l : List Wi, (∀ w ∈ l, Kp.Wf w) → ∀ x ∈ Kp.args l, Ko.Fine x
  | [], _ => fun x hx => by cases hx
  | w :: ws, h => fun x hx => by
    unfold Kp.args at hx
    split at hx
    · rcases List.mem_cons.1 hx with rfl | hx
      · exact Ka.fine (h w (List.mem_cons_self ..))
      · exact Kp.args_fine ws (fun y hy => h y (List.mem_cons_of_mem _ hy)) x hx
    · cases hx
theorem Kp.behind_mem {l : List Wi} : ∀ x ∈ Kp.behind l, x ∈ l := by
  intro x hx
  unfold Kp.behind at hx
  split at hx
  · exact List.mem_of_mem_tail hx
  · exact hx
theorem Kp.cmd_fine {l : List Wi} (h : ∀ w ∈ l, Kp.Wf w) : Kp.Cf (Kp.cmd l) := by
  refine ⟨?_, Kp.args_fine _ fun w hw => h w (Kp.behind_mem w hw)⟩
  show (Kp.fn l).length ≤ _
  cases l with
  | nil => exact Nat.zero_le _
  | cons w ws =>
    show (if Kp.isf (w :: ws) = true then w.text else []).length ≤ _
    split
    · exact (h w (List.mem_cons_self ..)).1
    · exact Nat.zero_le _
theorem Kp.more_fine (n : Nat) : ∀ l : List Wi, (∀ w ∈ l, Kp.Wf w) → ∀ c ∈ (Kp.more n l).1, Kp.Cf c := by
  induction n with
  | zero => exact fun l h c hc => by cases hc
  | succ n ih =>
    intro l h c hc
    have ht : ∀ w ∈ l.tail, Kp.Wf w := fun w hw => h w (List.mem_of_mem_tail hw)
    unfold Kp.more at hc
    split at hc
    · rcases List.mem_cons.1 hc with rfl | hc
      · exact Kp.cmd_fine ht
      · exact ih _ (fun w hw => ht w (Kp.left_mem w hw)) c hc
    · cases hc
theorem Kp.read_fine {ws : List Wi} (h : Wi.Fits ws) : ∀ c ∈ (Kp.read ws).1, Kp.Cf c := by
  intro c hc
  rcases List.mem_cons.1 hc with rfl | hc
  · exact Kp.cmd_fine h.2
  · exact Kp.more_fine _ _ (fun w hw => h.2 w (Kp.left_mem w hw)) c hc
theorem Kp.read_fits {ws : List Wi} (h : Wi.Fits ws) : Cm.Fits (Kp.read ws).1 := fun c hc x hx => by
  obtain ⟨h1, _, _, h4⟩ := (Kp.read_fine h c hc).2 x hx
  exact ⟨by omega, fun t ht => by have := h4 t ht; omega⟩
end Go.Proofs.Ytjmobhohfcieoaa

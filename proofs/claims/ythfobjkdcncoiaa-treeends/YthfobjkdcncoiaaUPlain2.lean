/-
  PLAIN: what a tree that is made of tokens has: at most 4096 nodes; each node's attributes are none, or a token's.
-/
import Derived.Test.YthfobjkdcncoiaaUPlain
namespace Go.Proofs.Ythfobjkdcncoiaa
theorem Bt.run_len : ∀ (ts : List Tk) (m : Bt), m.out.length ≤ 4096 → (Bt.run m ts).2 = true → (Bt.run m ts).1.out.length ≤ 4096
  | [], m, h, _ => h
  | t :: ts, m, h, hr => by
    unfold Bt.run at hr ⊢
    split at hr
    · cases hr
    · next hq =>
      rw [if_neg hq]
      exact Bt.run_len ts (m.token t) (by omega) hr
theorem Bt.token_attrs (m : Bt) (t : Tk) : ∀ x ∈ (m.token t).out, x.attrs = [] ∨ x.attrs = t.attrs ∨ ∃ y ∈ m.out, x.attrs = y.attrs := by
  have hm : ∀ x ∈ m.out, x.attrs = [] ∨ x.attrs = t.attrs ∨ ∃ y ∈ m.out, x.attrs = y.attrs := fun x hx => .inr (.inr ⟨x, hx, rfl⟩)
  have hn : ∀ y : Nd, (y.attrs = [] ∨ y.attrs = t.attrs) → ∀ x ∈ (m.node y).out, x.attrs = [] ∨ x.attrs = t.attrs ∨ ∃ y ∈ m.out, x.attrs = y.attrs := fun y hy x hx => by
    rcases List.mem_append.1 hx with q | q
    · exact hm x q
    · rw [List.mem_singleton.1 q]
      rcases hy with q | q
      · exact .inl q
      · exact .inr (.inl q)
  unfold Bt.token
  split
  · split
    · exact hm
    · split
      · intro x hx
        rcases List.mem_or_eq_of_mem_set hx with q | q
        · exact hm x q
        · rw [q]
          show (m.nth m.last).attrs = [] ∨ (m.nth m.last).attrs = t.attrs ∨ ∃ y ∈ m.out, (m.nth m.last).attrs = y.attrs
          unfold Bt.nth
          cases hl : m.out[m.last]? with
          | none => exact .inl rfl
          | some z => exact hm z (List.mem_of_getElem? hl)
      · exact hn _ (.inl rfl)
  split
  · exact hn _ (.inl rfl)
  split
  · split
    · exact hn _ (.inr rfl)
    · exact hn _ (.inr rfl)
  split
  · split
    · exact hm
    · exact hm
  · exact hm
theorem Bt.run_attrs {Q : List (ByteArray × ByteArray) → Prop} (h0 : Q []) : ∀ (ts : List Tk) (m : Bt), (∀ t ∈ ts, Q t.attrs) → (∀ x ∈ m.out, Q x.attrs) → ∀ x ∈ (Bt.run m ts).1.out, Q x.attrs
  | [], _, _, hm => hm
  | t :: ts, m, ht, hm => by
    have h1 : ∀ x ∈ (m.token t).out, Q x.attrs := fun x hx => by
      rcases Bt.token_attrs m t x hx with q | q | ⟨y, hy, q⟩
      · rw [q]; exact h0
      · rw [q]; exact ht t (List.mem_cons_self ..)
      · rw [q]; exact hm y hy
    unfold Bt.run
    split
    · exact h1
    · exact Bt.run_attrs h0 ts (m.token t) (fun u hu => ht u (List.mem_cons_of_mem _ hu)) h1
theorem Tk.May.few {t : Tk} (h : t.May) : t.attrs.length ≤ 32 := by
  rcases h with ⟨_, _, h, _⟩ | ⟨_, _, _, h, _⟩
  · rw [h]; exact Nat.zero_le _
  · exact h
/-- of a tree that may be: its size and its attributes -/
theorem Bt.nice (ts : List Tk) {L : Nat} (hm : ∀ t ∈ ts, t.May) (hn : ∀ t ∈ ts, ∀ y ∈ t.attrs, y.1.size ≤ L) : ∀ x ∈ (Bt.run Bt.start ts).1.out, x.attrs.length ≤ 32 ∧ ∀ y ∈ x.attrs, y.1.size ≤ L := by
  refine Bt.run_attrs (Q := fun al => al.length ≤ 32 ∧ ∀ y ∈ al, y.1.size ≤ L) ⟨Nat.zero_le _, fun y hy => by simp at hy⟩ ts Bt.start (fun t ht => ⟨(hm t ht).few, hn t ht⟩) (fun x hx => ?_)
  rw [List.mem_singleton.1 hx]
  exact ⟨Nat.zero_le _, fun y hy => by simp at hy⟩
end Go.Proofs.Ythfobjkdcncoiaa

/-
  PLAIN: what holds of the tokens, those open and the parents, a round after the other.
-/
import Derived.Test.YthfobjkdcncoiaaUEndsMem
namespace Go.Proofs.Ythfobjkdcncoiaa
structure Te.Good (ts : List Tk) (op wa : List Nat) (i : Nat) : Prop where
  rel : Te.Rel (Bt.run Bt.start ts).1 ts op wa
  room : (Bt.run Bt.start ts).2 = true
  len : ts.length = i
  bare : ∀ t ∈ ts, t.attrs = []
  may : ∀ t ∈ ts, t.May
  bulk : Bt.bulk ts = 0
  wa : wa.length ≤ i
  op : op.length ≤ 32
theorem Te.Good.start : Te.Good [] [] [] 0 := ⟨Te.Rel.start, rfl, rfl, fun _ h => (nomatch h), fun _ h => (nomatch h), rfl, Nat.le_refl _, by decide⟩
theorem Te.bulk_snoc (ts : List Tk) (t : Tk) (h : Bt.bulk ts = 0) (ht : t.text.size = 0) : Bt.bulk (ts ++ [t]) = 0 := by
  unfold Bt.bulk at *
  rw [List.map_append, List.sum_append, h]
  simp [ht]
theorem Te.snoc {P : Tk → Prop} {ts : List Tk} {t : Tk} (h : ∀ u ∈ ts, P u) (ht : P t) : ∀ u ∈ ts ++ [t], P u := fun u hu => by
  rcases List.mem_append.1 hu with q | q
  · exact h u q
  · rw [List.mem_singleton.1 q]; exact ht
theorem Te.Good.run {ts : List Tk} {op wa : List Nat} {i : Nat} (h : Te.Good ts op wa i) (hi : i < 40) (t : Tk) : Bt.run Bt.start (ts ++ [t]) = ((Bt.run Bt.start ts).1.token t, true) := by
  refine Te.run_snoc ts Bt.start t h.room ?_
  have := (Bt.token_len (Bt.run Bt.start ts).1 t).2
  have := h.rel.len
  have := h.wa
  omega
theorem Te.Good.begin {ts : List Tk} {op wa : List Nat} {i : Nat} (h : Te.Good ts op wa i) (hi : i < 40) (n : ByteArray) (hn : n ≠ Ts.e) : Te.Good (ts ++ [Te.beg n]) (if Ts.kind n ≠ 1 ∧ op.length < 32 then op ++ [wa.length + 1] else op) (wa ++ [op.getLastD 0]) (i + 1) := by
  have hr := h.run hi (Te.beg n)
  refine ⟨by rw [hr]; exact h.rel.begin n, by rw [hr], by rw [List.length_append, h.len]; rfl, Te.snoc h.bare rfl, Te.snoc h.may (Tk.may_tag (.inl rfl) hn), Te.bulk_snoc _ _ h.bulk rfl, by rw [List.length_append]; have := h.wa; simp; omega, ?_⟩
  split
  · next q => rw [List.length_append]; simp; omega
  · exact h.op
theorem Te.Good.keep {ts : List Tk} {op wa : List Nat} {i : Nat} (h : Te.Good ts op wa i) (hi : i < 40) (n : ByteArray) (hn : n ≠ Ts.e) (hf : (Bt.run Bt.start ts).1.find n (op.length + 1) = 0) : Te.Good (ts ++ [Te.fin n]) op wa (i + 1) := by
  have hr := h.run hi (Te.fin n)
  exact ⟨by rw [hr]; exact h.rel.keep n (by rw [h.rel.opn, List.length_cons]; exact hf), by rw [hr], by rw [List.length_append, h.len]; rfl, Te.snoc h.bare rfl, Te.snoc h.may (Tk.may_tag (.inr rfl) hn), Te.bulk_snoc _ _ h.bulk rfl, by have := h.wa; omega, h.op⟩
theorem Te.Good.cut {ts : List Tk} {op wa : List Nat} {i : Nat} (h : Te.Good ts op wa i) (hi : i < 40) (n : ByteArray) (hn : n ≠ Ts.e) (j : Nat) (hf : (Bt.run Bt.start ts).1.find n (op.length + 1) = j + 1) : Te.Good (ts ++ [Te.fin n]) (op.take j) wa (i + 1) := by
  have hr := h.run hi (Te.fin n)
  exact ⟨by rw [hr]; exact h.rel.cut n j (by rw [h.rel.opn, List.length_cons]; exact hf), by rw [hr], by rw [List.length_append, h.len]; rfl, Te.snoc h.bare rfl, Te.snoc h.may (Tk.may_tag (.inr rfl) hn), Te.bulk_snoc _ _ h.bulk rfl, by have := h.wa; omega, by rw [List.length_take]; have := h.op; omega⟩
/-- the five names -/
def Te.nm (k : Nat) : ByteArray := match k with
  | 0 => ⟨#[97]⟩
  | 1 => ⟨#[98]⟩
  | 2 => ⟨#[99]⟩
  | 3 => ⟨#[98, 114]⟩
  | _ => ⟨#[105, 109, 103]⟩
theorem Te.nm_ne (k : Nat) : Te.nm k ≠ Ts.e := by
  unfold Te.nm
  split <;> decide
theorem Te.nm_kind : ∀ k, k < 5 → (Ts.kind (Te.nm k) ≠ 1 ↔ k < 3) := by decide +kernel
end Go.Proofs.Ythfobjkdcncoiaa

/-
  TOKENS GATHERED BY A LAW: stolelaw7.start, stolelaw7.end; a token more in a row of one's own.
-/
import Derived.Test.YthfobjkdcncoiaaUAw
namespace Go.Proofs.Ythfobjkdcncoiaa
open Go.RowKit
theorem Ts7.start (n : ByteArray) (w : World) : Calls Try.prog 16 #[.string n] w fun e w' => e = .returned (.agg #[.int .i64 1, .string n, .string ⟨#[]⟩, .slice none 0 0, .bool false]) ∧ Below w.heap.size w w' := by
  go_enter Try.func16, Try.ntmps16
  go_wp2
  refine bodyPost_ret (v := .agg #[.int .i64 1, .string n, .string ⟨#[]⟩, .slice none 0 0, .bool false]) (by simp [results, Try.results16, go_sem]) rfl ⟨rfl, ?_⟩
  exact (Below.refl _ _).alloc (Nat.le_refl _) _
theorem Ts7.end (n : ByteArray) (w : World) : Calls Try.prog 17 #[.string n] w fun e w' => e = .returned (.agg #[.int .i64 2, .string n, .string ⟨#[]⟩, .slice none 0 0, .bool false]) ∧ Below w.heap.size w w' := by
  go_enter Try.func17, Try.ntmps17
  go_wp2
  refine bodyPost_ret (v := .agg #[.int .i64 2, .string n, .string ⟨#[]⟩, .slice none 0 0, .bool false]) (by simp [results, Try.results17, go_sem]) rfl ⟨rfl, ?_⟩
  exact (Below.refl _ _).alloc (Nat.le_refl _) _
/-- tokens without attributes in a row that grows: one more -/
theorem Ts7.push {base : Nat} {ts : List Tk} {w w1 w4 : World} {v v' : Value} {t : Tk} (h : Rm.Toks base ts w v none) (hq : Below w.heap.size w w1) (ht : t.attrs = []) (xs : List Value)
    (hx : w.ownsRow base 41 5 v ts.length xs ∧ ∀ i t, ts[i]? = some t → ∃ av, xs[i * 5]? = some (.int .i64 t.kind) ∧ xs[i * 5 + 1]? = some (.string t.name) ∧ xs[i * 5 + 2]? = some (.string t.text) ∧ xs[i * 5 + 3]? = some av ∧ xs[i * 5 + 4]? = some (.bool t.self) ∧ Ak.Lies w (fun k => base ≤ k ∧ k < w.heap.size ∧ v.ownBlock ≠ some k ∧ none ≠ some k ∧ Rm.Ub w k) t.attrs av)
    (R4 : w4.ownsRow base 41 5 v' (ts.length + 1) (xs ++ Rm.five t (.slice none 0 0))) (hg : w1.grownBy w4 v.ownBlock) (hf : v'.ownBlock = v.ownBlock ∨ v'.ownBlock = some w1.heap.size) : Rm.Toks base (ts ++ [t]) w4 v' none :=
  have _ := h
  Rm.toks_push (w := w1) hx.1 hx.2 (by rw [ht]; exact Ak.Lies.nil _ _) hq.size (fun k hk => hq.block k hk) R4 hg hf
theorem Ts7.form {w : World} {base : Nat} {ts : List Tk} {v : Value} (h : Rm.Toks base ts w v none) : ∃ a d, v = .slice a ts.length d := by
  obtain ⟨xs, hx, _⟩ := h
  exact Um.form hx
end Go.Proofs.Ythfobjkdcncoiaa

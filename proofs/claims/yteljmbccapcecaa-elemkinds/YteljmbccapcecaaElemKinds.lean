/-
  THE WALK of stolelaw6.ElemKinds: whatever the two numbers, the call returns true.
-/
import Derived.Test.YteljmbccapcecaaE2
import Derived.Below
namespace Go.Proofs.Yteljmbccapcecaa
open Go.RowKit
theorem En.drews {B : Nat} {a w : World} (h : Below B a w) (n : Nat) : Below B a (w.drewN n) := by
  induction n with
  | zero => exact h
  | succ n ih => exact ih.drew
theorem En.which (m : Nat) (hm : 0 < m) (n : Int) : ∃ u i : Nat, IntKind.u64.wrap n = (u : Int) ∧ u < 18446744073709551616 ∧ (u : Int) % (m : Int) = (i : Int) ∧ i < m := by
  have h : 0 ≤ IntKind.u64.wrap n ∧ IntKind.u64.wrap n < 18446744073709551616 := by
    unfold IntKind.wrap
    simp [IntKind.bits, IntKind.signed]
    omega
  refine ⟨(IntKind.u64.wrap n).toNat, (IntKind.u64.wrap n).toNat % m, by omega, by omega, by omega, Nat.mod_lt _ hm⟩
theorem En.pickName (i : Nat) (hi : i < 10) : ∃ (s : ByteArray) (k : Int), s.size ≤ 20 ∧ (En.kind s == k) = true ∧ En.kind (s ++ ⟨#[113]⟩) = 0 ∧ (∀ V : World, (V.alloc (.cells #[.string ⟨#[98, 114]⟩, .string ⟨#[105, 109, 103]⟩, .string ⟨#[105, 110, 112, 117, 116]⟩, .string ⟨#[104, 114]⟩, .string ⟨#[109, 101, 116, 97]⟩, .string ⟨#[108, 105, 110, 107]⟩, .string ⟨#[116, 105, 116, 108, 101]⟩, .string ⟨#[116, 101, 120, 116, 97, 114, 101, 97]⟩, .string ⟨#[115, 99, 114, 105, 112, 116]⟩, .string ⟨#[115, 116, 121, 108, 101]⟩] 9)).cell? ⟨V.heap.size, i, none⟩ = some (.string s)) ∧ ∀ V : World, (V.alloc (.cells #[.int .i64 1, .int .i64 1, .int .i64 1, .int .i64 1, .int .i64 1, .int .i64 1, .int .i64 2, .int .i64 2, .int .i64 3, .int .i64 4] 3)).cell? ⟨V.heap.size, i, none⟩ = some (.int .i64 k) := by
  have : i = 0 ∨ i = 1 ∨ i = 2 ∨ i = 3 ∨ i = 4 ∨ i = 5 ∨ i = 6 ∨ i = 7 ∨ i = 8 ∨ i = 9 := by omega
  rcases this with rfl | rfl | rfl | rfl | rfl | rfl | rfl | rfl | rfl | rfl
  · exact ⟨⟨#[98, 114]⟩, 1, by decide, by decide +kernel, by decide +kernel, fun V => by simp, fun V => by simp⟩
  · exact ⟨⟨#[105, 109, 103]⟩, 1, by decide, by decide +kernel, by decide +kernel, fun V => by simp, fun V => by simp⟩
  · exact ⟨⟨#[105, 110, 112, 117, 116]⟩, 1, by decide, by decide +kernel, by decide +kernel, fun V => by simp, fun V => by simp⟩
  · exact ⟨⟨#[104, 114]⟩, 1, by decide, by decide +kernel, by decide +kernel, fun V => by simp, fun V => by simp⟩
  · exact ⟨⟨#[109, 101, 116, 97]⟩, 1, by decide, by decide +kernel, by decide +kernel, fun V => by simp, fun V => by simp⟩
  · exact ⟨⟨#[108, 105, 110, 107]⟩, 1, by decide, by decide +kernel, by decide +kernel, fun V => by simp, fun V => by simp⟩
  · exact ⟨⟨#[116, 105, 116, 108, 101]⟩, 2, by decide, by decide +kernel, by decide +kernel, fun V => by simp, fun V => by simp⟩
  · exact ⟨⟨#[116, 101, 120, 116, 97, 114, 101, 97]⟩, 2, by decide, by decide +kernel, by decide +kernel, fun V => by simp, fun V => by simp⟩
  · exact ⟨⟨#[115, 99, 114, 105, 112, 116]⟩, 3, by decide, by decide +kernel, by decide +kernel, fun V => by simp, fun V => by simp⟩
  · exact ⟨⟨#[115, 116, 121, 108, 101]⟩, 4, by decide, by decide +kernel, by decide +kernel, fun V => by simp, fun V => by simp⟩
theorem En.pickAttr (i : Nat) (hi : i < 12) : ∃ (s : ByteArray) (k : Int), s.size ≤ 20 ∧ (En.attr s == k) = true ∧ (∀ V : World, (V.alloc (.cells #[.string ⟨#[104, 114, 101, 102]⟩, .string ⟨#[115, 114, 99]⟩, .string ⟨#[97, 99, 116, 105, 111, 110]⟩, .string ⟨#[102, 111, 114, 109, 97, 99, 116, 105, 111, 110]⟩, .string ⟨#[99, 105, 116, 101]⟩, .string ⟨#[115, 116, 121, 108, 101]⟩, .string ⟨#[111, 110, 99, 108, 105, 99, 107]⟩, .string ⟨#[111, 110, 120]⟩, .string ⟨#[111, 110]⟩, .string ⟨#[111]⟩, .string ⟨#[104, 114, 101, 102, 102]⟩, .string ⟨#[120, 111, 110]⟩] 9)).cell? ⟨V.heap.size, i, none⟩ = some (.string s)) ∧ ∀ V : World, (V.alloc (.cells #[.int .i64 1, .int .i64 1, .int .i64 1, .int .i64 1, .int .i64 1, .int .i64 3, .int .i64 2, .int .i64 2, .int .i64 0, .int .i64 0, .int .i64 0, .int .i64 0] 3)).cell? ⟨V.heap.size, i, none⟩ = some (.int .i64 k) := by
  have : i = 0 ∨ i = 1 ∨ i = 2 ∨ i = 3 ∨ i = 4 ∨ i = 5 ∨ i = 6 ∨ i = 7 ∨ i = 8 ∨ i = 9 ∨ i = 10 ∨ i = 11 := by omega
  rcases this with rfl | rfl | rfl | rfl | rfl | rfl | rfl | rfl | rfl | rfl | rfl | rfl
  · exact ⟨⟨#[104, 114, 101, 102]⟩, 1, by decide, by decide +kernel, fun V => by simp, fun V => by simp⟩
  · exact ⟨⟨#[115, 114, 99]⟩, 1, by decide, by decide +kernel, fun V => by simp, fun V => by simp⟩
  · exact ⟨⟨#[97, 99, 116, 105, 111, 110]⟩, 1, by decide, by decide +kernel, fun V => by simp, fun V => by simp⟩
  · exact ⟨⟨#[102, 111, 114, 109, 97, 99, 116, 105, 111, 110]⟩, 1, by decide, by decide +kernel, fun V => by simp, fun V => by simp⟩
  · exact ⟨⟨#[99, 105, 116, 101]⟩, 1, by decide, by decide +kernel, fun V => by simp, fun V => by simp⟩
  · exact ⟨⟨#[115, 116, 121, 108, 101]⟩, 3, by decide, by decide +kernel, fun V => by simp, fun V => by simp⟩
  · exact ⟨⟨#[111, 110, 99, 108, 105, 99, 107]⟩, 2, by decide, by decide +kernel, fun V => by simp, fun V => by simp⟩
  · exact ⟨⟨#[111, 110, 120]⟩, 2, by decide, by decide +kernel, fun V => by simp, fun V => by simp⟩
  · exact ⟨⟨#[111, 110]⟩, 0, by decide, by decide +kernel, fun V => by simp, fun V => by simp⟩
  · exact ⟨⟨#[111]⟩, 0, by decide, by decide +kernel, fun V => by simp, fun V => by simp⟩
  · exact ⟨⟨#[104, 114, 101, 102, 102]⟩, 0, by decide, by decide +kernel, fun V => by simp, fun V => by simp⟩
  · exact ⟨⟨#[120, 111, 110]⟩, 0, by decide, by decide +kernel, fun V => by simp, fun V => by simp⟩
set_option maxRecDepth 100000 in
set_option maxHeartbeats 4000000 in
theorem En.elemKinds (a b : Int) (w : World) (_ha : -9223372036854775808 ≤ a ∧ a ≤ 9223372036854775807) (_hb : -9223372036854775808 ≤ b ∧ b ≤ 9223372036854775807) : Calls Try.prog 4 #[.int .i64 a, .int .i64 b] w fun e w' => e = .returned (.bool true) ∧ Below w.heap.size w w' := by
  obtain ⟨u, i, hu, hu2, hui, hi⟩ := En.which 10 (by decide) a
  obtain ⟨v, j, hv, hv2, hvj, hj⟩ := En.which 12 (by decide) b
  obtain ⟨s, k, hs, hk, hq, hn, hK⟩ := En.pickName i hi
  obtain ⟨t, l, ht, hl, hN, hL⟩ := En.pickAttr j hj
  have e1 : En.kind ⟨#[]⟩ = 0 := by decide +kernel
  have e2 : En.attr ⟨#[]⟩ = 0 := by decide +kernel
  have hui' : (u : Int) % 10 = (i : Int) := hui
  have hvj' : (v : Int) % 12 = (j : Int) := hvj
  clear hui hvj
  go_enter Try.func4, Try.ntmps4
  go_wp2_with (go_at_call 9; refine (En.awake _).mono ?_; rintro e w' ⟨rfl, rfl⟩)
  obtain ⟨W1, h1⟩ : ∃ W, w'.alloc (.cells #[.string ⟨#[98, 114]⟩, .string ⟨#[105, 109, 103]⟩, .string ⟨#[105, 110, 112, 117, 116]⟩, .string ⟨#[104, 114]⟩, .string ⟨#[109, 101, 116, 97]⟩, .string ⟨#[108, 105, 110, 107]⟩, .string ⟨#[116, 105, 116, 108, 101]⟩, .string ⟨#[116, 101, 120, 116, 97, 114, 101, 97]⟩, .string ⟨#[115, 99, 114, 105, 112, 116]⟩, .string ⟨#[115, 116, 121, 108, 101]⟩] 9) = W := ⟨_, rfl⟩
  have c1 := hn w'
  have g1 : W1.heap.size = w'.heap.size + 1 := by rw [← h1]; simp
  have b1 : Below w'.heap.size w' W1 := by rw [← h1]; exact (Below.refl _ _).alloc (Nat.le_refl _) _
  rw [h1] at c1
  rw [h1]
  obtain ⟨W2, h2⟩ : ∃ W, W1.alloc (.cells #[.int .i64 1, .int .i64 1, .int .i64 1, .int .i64 1, .int .i64 1, .int .i64 1, .int .i64 2, .int .i64 2, .int .i64 3, .int .i64 4] 3) = W := ⟨_, rfl⟩
  have c2 := hK W1
  have g2 : W2.heap.size = W1.heap.size + 1 := by rw [← h2]; simp
  have b2 : Below W1.heap.size W1 W2 := by rw [← h2]; exact (Below.refl _ _).alloc (Nat.le_refl _) _
  rw [h2] at c2
  rw [h2]
  obtain ⟨W3, h3⟩ : ∃ W, W2.alloc (.cells #[.string ⟨#[104, 114, 101, 102]⟩, .string ⟨#[115, 114, 99]⟩, .string ⟨#[97, 99, 116, 105, 111, 110]⟩, .string ⟨#[102, 111, 114, 109, 97, 99, 116, 105, 111, 110]⟩, .string ⟨#[99, 105, 116, 101]⟩, .string ⟨#[115, 116, 121, 108, 101]⟩, .string ⟨#[111, 110, 99, 108, 105, 99, 107]⟩, .string ⟨#[111, 110, 120]⟩, .string ⟨#[111, 110]⟩, .string ⟨#[111]⟩, .string ⟨#[104, 114, 101, 102, 102]⟩, .string ⟨#[120, 111, 110]⟩] 9) = W := ⟨_, rfl⟩
  have c3 := hN W2
  have g3 : W3.heap.size = W2.heap.size + 1 := by rw [← h3]; simp
  have b3 : Below W2.heap.size W2 W3 := by rw [← h3]; exact (Below.refl _ _).alloc (Nat.le_refl _) _
  rw [h3] at c3
  rw [h3]
  obtain ⟨W4, h4⟩ : ∃ W, W3.alloc (.cells #[.int .i64 1, .int .i64 1, .int .i64 1, .int .i64 1, .int .i64 1, .int .i64 3, .int .i64 2, .int .i64 2, .int .i64 0, .int .i64 0, .int .i64 0, .int .i64 0] 3) = W := ⟨_, rfl⟩
  have c4 := hL W3
  have g4 : W4.heap.size = W3.heap.size + 1 := by rw [← h4]; simp
  have b4 : Below W3.heap.size W3 W4 := by rw [← h4]; exact (Below.refl _ _).alloc (Nat.le_refl _) _
  rw [h4] at c4
  rw [h4]
  clear h1 h2 h3 h4 hn hK hN hL
  have q1 : W4.cell? ⟨w'.heap.size, i, none⟩ = some (.string s) := (b4.cell (p := ⟨w'.heap.size, i, none⟩) (by show w'.heap.size < _; omega)).trans ((b3.cell (p := ⟨w'.heap.size, i, none⟩) (by show w'.heap.size < _; omega)).trans ((b2.cell (p := ⟨w'.heap.size, i, none⟩) (by show w'.heap.size < _; omega)).trans c1))
  have q2 : W4.cell? ⟨w'.heap.size + 1, i, none⟩ = some (.int .i64 k) := (b4.cell (p := ⟨w'.heap.size + 1, i, none⟩) (by show w'.heap.size + 1 < _; omega)).trans ((b3.cell (p := ⟨w'.heap.size + 1, i, none⟩) (by show w'.heap.size + 1 < _; omega)).trans (by rw [← g1]; exact c2))
  have q3 : W4.cell? ⟨w'.heap.size + 1 + 1, j, none⟩ = some (.string t) := (b4.cell (p := ⟨w'.heap.size + 1 + 1, j, none⟩) (by show w'.heap.size + 1 + 1 < _; omega)).trans (by rw [← g1, ← g2]; exact c3)
  have q4 : W4.cell? ⟨w'.heap.size + 1 + 1 + 1, j, none⟩ = some (.int .i64 l) := by rw [← g1, ← g2, ← g3]; exact c4
  have bb : Below w'.heap.size w' W4 := b1.trans ((b2.trans ((b3.trans (b4.mono (by omega))).mono (by omega))).mono (by omega))
  clear b1 b2 b3 b4 c1 c2 c3 c4
  generalize hg : w'.heap.size = g at *
  clear g1 g2 g3 g4
  have hq' : (En.kind (s ++ ⟨#[113]⟩) == 0) = true := by rw [hq]; rfl
  have hsz : (s ++ (⟨#[113]⟩ : ByteArray)).size = s.size + 1 := by rw [ByteArray.size_append]; rfl
  obtain ⟨x, hx⟩ : ∃ x : ByteArray, s ++ ⟨#[113]⟩ = x := ⟨_, rfl⟩
  rw [hx] at hq hq' hsz
  clear hq
  (try simp only [hui', hvj'])
  clear hui' hvj' hu hv hu2 hv2
  go_quiet (first | (go_at_call 10; refine (En.num _).mono ?_; rintro e w' ⟨rfl, rfl⟩; exact ⟨rfl, _, rfl⟩) | (go_at_call 5; refine (En.elemKind _ _).mono ?_; rintro e w' ⟨rfl, rfl⟩; exact ⟨rfl, _, rfl⟩) | (go_at_call 7; refine (En.elemAttr _ _).mono ?_; rintro e w' ⟨rfl, rfl⟩; exact ⟨rfl, _, rfl⟩))
  go_wp2
  go_ret
  exact ⟨rfl, by rw [hg]; exact En.drews bb _⟩
end Go.Proofs.Yteljmbccapcecaa

/-
  THE WALK of stolelaw6.Elems: whatever the name and the tail, the call returns true.
-/
import Derived.Test.YteljmbccapcecaaE2
import Derived.Below
import Derived.SizedLaws
namespace Go.Proofs.Yteljmbccapcecaa
open Go.RowKit
theorem El.drews {B : Nat} {a w : World} (h : Below B a w) (n : Nat) : Below B a (w.drewN n) := ⟨h.os, h.tape, h.output, h.size, h.block⟩
theorem El.pick (i : Nat) (hi : i < 18) : ∃ (s : ByteArray), s.size ≤ 20 ∧ (∀ V : World, (V.alloc (.cells #[.string ⟨#[98, 114]⟩, .string ⟨#[105, 109, 103]⟩, .string ⟨#[105, 110, 112, 117, 116]⟩, .string ⟨#[104, 114]⟩, .string ⟨#[109, 101, 116, 97]⟩, .string ⟨#[108, 105, 110, 107]⟩, .string ⟨#[116, 105, 116, 108, 101]⟩, .string ⟨#[116, 101, 120, 116, 97, 114, 101, 97]⟩, .string ⟨#[115, 99, 114, 105, 112, 116]⟩, .string ⟨#[115, 116, 121, 108, 101]⟩, .string ⟨#[104, 114, 101, 102]⟩, .string ⟨#[115, 114, 99]⟩, .string ⟨#[97, 99, 116, 105, 111, 110]⟩, .string ⟨#[102, 111, 114, 109, 97, 99, 116, 105, 111, 110]⟩, .string ⟨#[99, 105, 116, 101]⟩, .string ⟨#[111, 110]⟩, .string ⟨#[111, 110, 108, 111, 97, 100]⟩, .string ⟨#[112]⟩] 9)).cell? ⟨V.heap.size, i, none⟩ = some (.string s)) := by
  have : i = 0 ∨ i = 1 ∨ i = 2 ∨ i = 3 ∨ i = 4 ∨ i = 5 ∨ i = 6 ∨ i = 7 ∨ i = 8 ∨ i = 9 ∨ i = 10 ∨ i = 11 ∨ i = 12 ∨ i = 13 ∨ i = 14 ∨ i = 15 ∨ i = 16 ∨ i = 17 := by omega
  rcases this with rfl | rfl | rfl | rfl | rfl | rfl | rfl | rfl | rfl | rfl | rfl | rfl | rfl | rfl | rfl | rfl | rfl | rfl
  · exact ⟨⟨#[98, 114]⟩, by decide, fun V => by simp⟩
  · exact ⟨⟨#[105, 109, 103]⟩, by decide, fun V => by simp⟩
  · exact ⟨⟨#[105, 110, 112, 117, 116]⟩, by decide, fun V => by simp⟩
  · exact ⟨⟨#[104, 114]⟩, by decide, fun V => by simp⟩
  · exact ⟨⟨#[109, 101, 116, 97]⟩, by decide, fun V => by simp⟩
  · exact ⟨⟨#[108, 105, 110, 107]⟩, by decide, fun V => by simp⟩
  · exact ⟨⟨#[116, 105, 116, 108, 101]⟩, by decide, fun V => by simp⟩
  · exact ⟨⟨#[116, 101, 120, 116, 97, 114, 101, 97]⟩, by decide, fun V => by simp⟩
  · exact ⟨⟨#[115, 99, 114, 105, 112, 116]⟩, by decide, fun V => by simp⟩
  · exact ⟨⟨#[115, 116, 121, 108, 101]⟩, by decide, fun V => by simp⟩
  · exact ⟨⟨#[104, 114, 101, 102]⟩, by decide, fun V => by simp⟩
  · exact ⟨⟨#[115, 114, 99]⟩, by decide, fun V => by simp⟩
  · exact ⟨⟨#[97, 99, 116, 105, 111, 110]⟩, by decide, fun V => by simp⟩
  · exact ⟨⟨#[102, 111, 114, 109, 97, 99, 116, 105, 111, 110]⟩, by decide, fun V => by simp⟩
  · exact ⟨⟨#[99, 105, 116, 101]⟩, by decide, fun V => by simp⟩
  · exact ⟨⟨#[111, 110]⟩, by decide, fun V => by simp⟩
  · exact ⟨⟨#[111, 110, 108, 111, 97, 100]⟩, by decide, fun V => by simp⟩
  · exact ⟨⟨#[112]⟩, by decide, fun V => by simp⟩
set_option maxRecDepth 100000 in
set_option maxHeartbeats 4000000 in
theorem En.elems (name tail : ByteArray) (w : World) (_hn : name.size ≤ reachBytes) (ht : tail.size ≤ reachBytes) : Calls Try.prog 3 #[.string name, .string tail] w fun e w' => e = .returned (.bool true) ∧ Below w.heap.size w w' := by
  have ht2 : tail.size ≤ 140737488351232 := ht
  clear ht
  go_enter Try.func3, Try.ntmps3
  go_wp2
  obtain ⟨W, hW⟩ : ∃ W, w.alloc (.cells #[.string ⟨#[98, 114]⟩, .string ⟨#[105, 109, 103]⟩, .string ⟨#[105, 110, 112, 117, 116]⟩, .string ⟨#[104, 114]⟩, .string ⟨#[109, 101, 116, 97]⟩, .string ⟨#[108, 105, 110, 107]⟩, .string ⟨#[116, 105, 116, 108, 101]⟩, .string ⟨#[116, 101, 120, 116, 97, 114, 101, 97]⟩, .string ⟨#[115, 99, 114, 105, 112, 116]⟩, .string ⟨#[115, 116, 121, 108, 101]⟩, .string ⟨#[104, 114, 101, 102]⟩, .string ⟨#[115, 114, 99]⟩, .string ⟨#[97, 99, 116, 105, 111, 110]⟩, .string ⟨#[102, 111, 114, 109, 97, 99, 116, 105, 111, 110]⟩, .string ⟨#[99, 105, 116, 101]⟩, .string ⟨#[111, 110]⟩, .string ⟨#[111, 110, 108, 111, 97, 100]⟩, .string ⟨#[112]⟩] 9) = W := ⟨_, rfl⟩
  have hc : ∀ i : Nat, i < 18 → ∃ (s : ByteArray), s.size ≤ 20 ∧ W.cell? ⟨w.heap.size, i, none⟩ = some (.string s) := fun i hi => by
    obtain ⟨s, h1, h2⟩ := El.pick i hi
    exact ⟨s, h1, by rw [← hW]; exact h2 w⟩
  have bW : Below w.heap.size w W := by rw [← hW]; exact (Below.refl _ _).alloc (Nat.le_refl _) _
  rw [hW]
  clear hW
  have HC := Lib.hid hc
  clear hc
  generalize hg : w.heap.size = g at *
  go_loopw [6] (fun i W' => ∃ (k m : Nat), k ≤ 18 ∧ i = .int .i64 (k : Int) ∧ W' = W.drewN m) (fun i _ => 18 - (intOf i).toNat)
  case atStart => exact ⟨0, 0, by omega, rfl, rfl⟩
  case round =>
    obtain ⟨k, m, hk, rfl, rfl⟩ := hrel
    by_cases hlt : k < 18
    · have d1 : decide ((k : Int) < 18) = true := decide_eq_true (by omega)
      obtain ⟨s, hs, hcell⟩ := HC.out k hlt
      have hsz : (s ++ tail).size = s.size + tail.size := by rw [ByteArray.size_append]
      obtain ⟨x, hx⟩ : ∃ x : ByteArray, s ++ tail = x := ⟨_, rfl⟩
      rw [hx] at hsz
      go_wp2
      go_quiet (first | (go_at_call 5; refine (En.elemKind _ _).mono ?_; rintro e w' ⟨rfl, rfl⟩; exact ⟨rfl, _, rfl⟩) | (go_at_call 6; refine (En.refKind _ _).mono ?_; rintro e w' ⟨rfl, rfl⟩; exact ⟨rfl, _, rfl⟩) | (go_at_call 7; refine (En.elemAttr _ _).mono ?_; rintro e w' ⟨rfl, rfl⟩; exact ⟨rfl, _, rfl⟩) | (go_at_call 8; refine (En.refAttr _ _).mono ?_; rintro e w' ⟨rfl, rfl⟩; exact ⟨rfl, _, rfl⟩))
      go_wp2
      go_roundw
      case rel => exact ⟨k + 1, _, by omega, by go_num, by first | rfl | exact (World.drewN_drewN _ _ _)⟩
      case measure => simp [intOf]; omega
    · have d1 : decide ((k : Int) < 18) = false := decide_eq_false (by omega)
      go_wp2_with (first | (go_at_call 5; refine (En.elemKind _ _).mono ?_; rintro e w' ⟨rfl, rfl⟩) | (go_at_call 6; refine (En.refKind _ _).mono ?_; rintro e w' ⟨rfl, rfl⟩) | (go_at_call 7; refine (En.elemAttr _ _).mono ?_; rintro e w' ⟨rfl, rfl⟩) | (go_at_call 8; refine (En.refAttr _ _).mono ?_; rintro e w' ⟨rfl, rfl⟩) | (go_at_call 9; refine (En.awake _).mono ?_; rintro e w' ⟨rfl, rfl⟩))
      go_ret
      exact ⟨rfl, by rw [hg]; exact El.drews bW _⟩
end Go.Proofs.Yteljmbccapcecaa

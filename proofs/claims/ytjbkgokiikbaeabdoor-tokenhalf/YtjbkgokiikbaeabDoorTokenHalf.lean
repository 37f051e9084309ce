/-
  THE WALK of stolelaw5.TokenHalf: whatever the number and the text, the call returns true.
-/
import Derived.Test.YtjbkgokiikbaeabDoorTAwake
import Derived.Test.YtjbkgokiikbaeabDoorTQuiet
import Derived.Test.YtjbkgokiikbaeabDoorTHalf
import Derived.Deep.RegionHeld
namespace Go.Proofs.YtjbkgokiikbaeabDoor
open Go.RowKit
theorem Hf.which (n : Int) : ∃ u i : Nat, IntKind.u64.wrap n = (u : Int) ∧ u < 18446744073709551616 ∧ (u : Int) % 15 = (i : Int) ∧ i < 15 := by
  have h : 0 ≤ IntKind.u64.wrap n ∧ IntKind.u64.wrap n < 18446744073709551616 := by
    unfold IntKind.wrap
    simp [IntKind.bits, IntKind.signed]
    omega
  exact ⟨(IntKind.u64.wrap n).toNat, ((IntKind.u64.wrap n) % 15).toNat, by omega, by omega, by omega, by omega⟩
theorem Hf.quiet (l : List UInt8) : Hf.clean (Qt.quiet 0 l) := by
  intro c hc
  have h := (List.mem_filter.1 hc).2
  unfold Qt.ok at h
  simp at h
  exact ⟨h.1.1.1, h.1.1.2, h.1.2⟩
theorem Hf.loop (K : ByteArray) : ∀ (n i : Nat) (r : List UInt8), n = K.size - i → (ByteArray.toList.loop K i r).length = r.length + n := by
  intro n
  induction n with
  | zero => intro i r h; unfold ByteArray.toList.loop; rw [if_neg (by omega)]; simp
  | succ n ih => intro i r h; unfold ByteArray.toList.loop; rw [if_pos (by omega), ih (i + 1) _ (by omega)]; simp; omega
theorem Hf.notNil (K : ByteArray) (h : ¬ K.size = 0) : ¬ K.toList = [] := by
  intro e
  have := Hf.loop K K.size 0 [] (by omega)
  unfold ByteArray.toList at e
  rw [e] at this
  simp at this
  exact h this.symm
/-- one text, laid anew -/
theorem Hf.lit (V : World) (x : ByteArray) : Tk.Lies (V.alloc (.cells #[.int .i64 0, .string ⟨#[]⟩, .string x, .slice none 0 0, .bool false] 34)) (fun k => V.heap.size ≤ k) [⟨0, Ts.e, x, [], false⟩] (.slice (some ⟨V.heap.size, 0, none⟩) 1 1) :=
  Tk.Lies.lit [⟨0, Ts.e, x, [], false⟩] [.slice none 0 0] _ (heap_alloc_new V _) rfl (Nat.le_refl _) (by show (1 : Nat) ≤ maxLen; decide) ⟨Ak.Lies.nil _ _, trivial⟩
theorem Hf.pick (i : Nat) (hi : i < 15) : ∃ h ∈ Hf.halves, h.length ≤ 8 ∧ ∀ V : World, (V.alloc (.cells #[.string ⟨#[60, 112]⟩, .string ⟨#[60, 112, 32]⟩, .string ⟨#[60, 112, 32, 97]⟩, .string ⟨#[60, 112, 32, 97, 61]⟩, .string ⟨#[60, 112, 32, 97, 61, 39, 120]⟩, .string ⟨#[60, 112, 32, 97, 61, 34, 120, 62]⟩, .string ⟨#[60, 112, 32, 97, 61, 120]⟩, .string ⟨#[60, 112, 47]⟩, .string ⟨#[60, 47, 112]⟩, .string ⟨#[60, 47, 112, 32, 97, 61, 39]⟩, .string ⟨#[60, 33]⟩, .string ⟨#[60, 33, 45]⟩, .string ⟨#[60, 33, 45, 45, 120]⟩, .string ⟨#[60, 33, 45, 45, 120, 45, 45]⟩, .string ⟨#[60, 33, 113]⟩] 9)).cell? ⟨V.heap.size, i, none⟩ = some (.string ⟨h.toArray⟩) := by
  have : i = 0 ∨ i = 1 ∨ i = 2 ∨ i = 3 ∨ i = 4 ∨ i = 5 ∨ i = 6 ∨ i = 7 ∨ i = 8 ∨ i = 9 ∨ i = 10 ∨ i = 11 ∨ i = 12 ∨ i = 13 ∨ i = 14 := by omega
  rcases this with rfl | rfl | rfl | rfl | rfl | rfl | rfl | rfl | rfl | rfl | rfl | rfl | rfl | rfl | rfl
  · exact ⟨[60, 112], by decide, by decide, fun V => by simp⟩
  · exact ⟨[60, 112, 32], by decide, by decide, fun V => by simp⟩
  · exact ⟨[60, 112, 32, 97], by decide, by decide, fun V => by simp⟩
  · exact ⟨[60, 112, 32, 97, 61], by decide, by decide, fun V => by simp⟩
  · exact ⟨[60, 112, 32, 97, 61, 39, 120], by decide, by decide, fun V => by simp⟩
  · exact ⟨[60, 112, 32, 97, 61, 34, 120, 62], by decide, by decide, fun V => by simp⟩
  · exact ⟨[60, 112, 32, 97, 61, 120], by decide, by decide, fun V => by simp⟩
  · exact ⟨[60, 112, 47], by decide, by decide, fun V => by simp⟩
  · exact ⟨[60, 47, 112], by decide, by decide, fun V => by simp⟩
  · exact ⟨[60, 47, 112, 32, 97, 61, 39], by decide, by decide, fun V => by simp⟩
  · exact ⟨[60, 33], by decide, by decide, fun V => by simp⟩
  · exact ⟨[60, 33, 45], by decide, by decide, fun V => by simp⟩
  · exact ⟨[60, 33, 45, 45, 120], by decide, by decide, fun V => by simp⟩
  · exact ⟨[60, 33, 45, 45, 120, 45, 45], by decide, by decide, fun V => by simp⟩
  · exact ⟨[60, 33, 113], by decide, by decide, fun V => by simp⟩
set_option maxRecDepth 100000 in
set_option maxHeartbeats 8000000 in
theorem Law.tokenHalf (n : Int) (s : ByteArray) (m : Int) (w : World) (hm : w.cell? ⟨0, 0, none⟩ = some (.int .i64 m)) (_hn : -9223372036854775808 ≤ n ∧ n ≤ 9223372036854775807) (_hs : s.size ≤ reachBytes) :
    Calls Tryd.prog 3 #[.int .i64 n, .string s] w fun e w' => e = .returned (.bool true) ∧ Below w.heap.size w w' := by
  obtain ⟨u, i, hu, hu2, hui, hi⟩ := Hf.which n
  have haw := Aw.awake m w hm
  have hqt := fun x => Qt.walk s 0 x
  have HM := Lib.hid hm
  clear hm _hs
  go_enter Tryd.func3, Tryd.ntmps3
  go_wp2_with (first | (go_at_call 7; refine haw.mono ?_; rintro e w1 ⟨rfl, q1⟩; clear haw) | (go_at_call 8; refine (hqt _).mono ?_; rintro e w' ⟨K0, rfl, hK, rfl⟩; clear hqt) | refine Vm.stop 26 ?_ | refine Vm.stop 25 ?_)
  obtain ⟨h, hh, hh8, hx⟩ := Hf.pick i hi
  have hcell := hx w1
  obtain ⟨W, hW⟩ : ∃ W, w1.alloc (.cells #[.string ⟨#[60, 112]⟩, .string ⟨#[60, 112, 32]⟩, .string ⟨#[60, 112, 32, 97]⟩, .string ⟨#[60, 112, 32, 97, 61]⟩, .string ⟨#[60, 112, 32, 97, 61, 39, 120]⟩, .string ⟨#[60, 112, 32, 97, 61, 34, 120, 62]⟩, .string ⟨#[60, 112, 32, 97, 61, 120]⟩, .string ⟨#[60, 112, 47]⟩, .string ⟨#[60, 47, 112]⟩, .string ⟨#[60, 47, 112, 32, 97, 61, 39]⟩, .string ⟨#[60, 33]⟩, .string ⟨#[60, 33, 45]⟩, .string ⟨#[60, 33, 45, 45, 120]⟩, .string ⟨#[60, 33, 45, 45, 120, 45, 45]⟩, .string ⟨#[60, 33, 113]⟩] 9) = W := ⟨_, rfl⟩
  rw [hW] at hcell
  rw [hW]
  have HB0 : Hid (Below w.heap.size w W) := Lib.hid (by rw [← hW]; exact q1.alloc q1.size _)
  clear hW hx q1
  have hKs : K0.size ≤ 300 := by
    rw [← Wk.len_data, hK]
    exact Nat.le_trans (List.length_filter_le _ _) (by rw [List.length_take]; omega)
  have hHs : (⟨h.toArray⟩ : ByteArray).size ≤ 8 := by show h.toArray.size ≤ 8; simpa using hh8
  have hHd : (⟨h.toArray⟩ : ByteArray).data.toList = h := by simp
  generalize (⟨h.toArray⟩ : ByteArray) = H at *
  have HK := Lib.hid hK
  have HH := Lib.hid hHd
  clear hK hHd hh8
  refine ⟨?_⟩
  have hKd : K0 = ⟨(Qt.quiet 0 s.data.toList).toArray⟩ := by
    apply ByteArray.ext
    rw [← HK.out]
  have hHd : H = ⟨h.toArray⟩ := by
    apply ByteArray.ext
    rw [← HH.out]
  have hcl := Hf.quiet s.data.toList
  have r1 : Rd.tokens (K0 ++ H) = if Qt.quiet 0 s.data.toList = [] then [] else [⟨0, Ts.e, K0, [], false⟩] := by
    have e : K0 ++ H = ⟨(Qt.quiet 0 s.data.toList ++ h).toArray⟩ := by
      rw [hKd, hHd]
      apply ByteArray.ext
      simp [ByteArray.data_append]
    rw [e, Hf.half _ h hcl hh, ← hKd]
  have r2 : Rd.tokens (K0 ++ ⟨#[60]⟩) = [⟨0, Ts.e, K0 ++ ⟨#[60]⟩, [], false⟩] := by
    have e : K0 ++ (⟨#[60]⟩ : ByteArray) = ⟨(Qt.quiet 0 s.data.toList ++ [60]).toArray⟩ := by
      rw [hKd]
      apply ByteArray.ext
      simp [ByteArray.data_append]
    rw [e]
    exact Hf.lt _ hcl
  have r3 : Rd.tokens (K0 ++ ⟨#[60, 47]⟩) = [⟨0, Ts.e, K0 ++ ⟨#[60, 47]⟩, [], false⟩] := by
    have e : K0 ++ (⟨#[60, 47]⟩ : ByteArray) = ⟨(Qt.quiet 0 s.data.toList ++ [60, 47]).toArray⟩ := by
      rw [hKd]
      apply ByteArray.ext
      simp [ByteArray.data_append]
    rw [e]
    exact Hf.sl _ hcl
  have hT : ∀ (pg : ByteArray) (V : World), pg.size ≤ 65536 → Below w.heap.size w V → Calls Tryd.prog 9 #[.string pg] V fun e w' => ∃ v, e = .returned (.tuple #[v, .int .i64 0]) ∧ Tk.Lies w' (fun k => V.heap.size ≤ k ∧ k < w'.heap.size) (Rd.tokens pg) v ∧ Below V.heap.size V w' := fun pg V h1 hb => Tk.short pg m V h1 (Tp.keep hb HM.out)
  have hT1 := fun V => hT (K0 ++ H) V (by rw [ByteArray.size_append]; omega)
  have hT2 := fun V => hT (K0 ++ ⟨#[60]⟩) V (by rw [ByteArray.size_append]; show K0.size + 1 ≤ _; omega)
  have hT3 := fun V => hT (K0 ++ ⟨#[60, 47]⟩) V (by rw [ByteArray.size_append]; show K0.size + 2 ≤ _; omega)
  rw [r2] at hT2
  rw [r3] at hT3
  clear hT r2 r3 hHd hcl hh HM
  by_cases hz : Qt.quiet 0 s.data.toList = []
  · rw [r1, if_pos hz] at hT1
    rw [hz] at hKd
    subst hKd
    clear r1 hz
    go_wp2_with (first | (go_at_call 9; refine (hT1 _ HB0.out).mono ?_; rintro e w2 ⟨v2, rfl, hl2, hb2⟩; obtain ⟨a2, d2, rfl, hd2, _, _⟩ := id hl2; have HL2 := Lib.hid hl2; have HB2 := Lib.hid (HB0.out.trans (hb2.mono HB0.out.size)); clear hT1 hl2 hb2) | (go_at_call 9; refine (hT2 _ HB2.out).mono ?_; rintro e w3 ⟨v3, rfl, hl3, hb3⟩; have HL3 := Lib.hid hl3; have HC3 := Lib.hid hb3; have HB3 := Lib.hid (HB2.out.trans (hb3.mono HB2.out.size)); clear hT2 hl3 hb3) | (go_at_call 9; refine (hT3 _ HB3.out).mono ?_; rintro e w4 ⟨v4, rfl, hl4, hb4⟩; have HL4 := Lib.hid hl4; have HC4 := Lib.hid hb4; have HB4 := Lib.hid (HB3.out.trans (hb4.mono HB3.out.size)); clear hT3 hl4 hb4) | (go_at_call 10; refine (Aw.num _ _).mono ?_; rintro e w' ⟨rfl, hw⟩; have hw := hw.symm; subst hw) | (go_at_call 11; refine (Sa.tokens _ _ _ (fun _ => True) _ _ (HL3.out.on fun k hk => ⟨trivial, (Below.heap_alloc _ _ _ (Nat.lt_of_lt_of_le hk.2 HC4.out.size)).trans (HC4.out.block k hk.2)⟩) (Hf.lit w4 _)).mono ?_; rintro e w5 ⟨rfl, n5, hw5⟩; have HC5 : Hid (Below w4.heap.size w4 w5) := Lib.hid (by rw [hw5]; exact Sa.drews ((Below.refl _ _).alloc (Nat.le_refl _) _) n5); clear hw5 HL3) | (go_at_call 11; refine (Sa.tokens _ _ _ (fun _ => True) _ _ (HL4.out.on fun k hk => ⟨trivial, (Below.heap_alloc _ _ _ (Nat.lt_of_lt_of_le hk.2 HC5.out.size)).trans (HC5.out.block k hk.2)⟩) (Hf.lit w5 _)).mono ?_; rintro e w6 ⟨rfl, n6, hw6⟩; have HC6 : Hid (Below w5.heap.size w5 w6) := Lib.hid (by rw [hw6]; exact Sa.drews ((Below.refl _ _).alloc (Nat.le_refl _) _) n6); clear hw6 HL4))
    go_ret
    exact ⟨rfl, HB4.out.trans ((HC5.out.trans (HC6.out.mono HC5.out.size)).mono HB4.out.size)⟩
  · rw [r1, if_neg hz] at hT1
    have hne : ¬ K0.toList = [] := Hf.notNil K0 (by
      intro e
      apply hz
      rw [← HK.out]
      exact List.eq_nil_of_length_eq_zero (by rw [Wk.len_data]; exact e))
    clear r1 hz hKd
    go_wp2_with (first | (go_at_call 9; refine (hT1 _ HB0.out).mono ?_; rintro e w2 ⟨v2, rfl, hl2, hb2⟩; have HL2 := Lib.hid hl2; have HB2 := Lib.hid (HB0.out.trans (hb2.mono HB0.out.size)); clear hT1 hl2 hb2) | (go_at_call 9; refine (hT2 _ HB2.out).mono ?_; rintro e w3 ⟨v3, rfl, hl3, hb3⟩; have HL3 := Lib.hid hl3; have HC3 := Lib.hid hb3; have HB3 := Lib.hid (HB2.out.trans (hb3.mono HB2.out.size)); clear hT2 hl3 hb3) | (go_at_call 9; refine (hT3 _ HB3.out).mono ?_; rintro e w4 ⟨v4, rfl, hl4, hb4⟩; have HL4 := Lib.hid hl4; have HC4 := Lib.hid hb4; have HB4 := Lib.hid (HB3.out.trans (hb4.mono HB3.out.size)); clear hT3 hl4 hb4) | (go_at_call 10; refine (Aw.num _ _).mono ?_; rintro e w' ⟨rfl, hw⟩; have hw := hw.symm; subst hw) | (go_at_call 11; refine (Sa.tokens _ _ _ (fun _ => True) _ _ (HL3.out.on fun k hk => ⟨trivial, (Below.heap_alloc _ _ _ (Nat.lt_of_lt_of_le hk.2 HC4.out.size)).trans (HC4.out.block k hk.2)⟩) (Hf.lit w4 _)).mono ?_; rintro e w5 ⟨rfl, n5, hw5⟩; have HC5 : Hid (Below w4.heap.size w4 w5) := Lib.hid (by rw [hw5]; exact Sa.drews ((Below.refl _ _).alloc (Nat.le_refl _) _) n5); clear hw5 HL3) | (go_at_call 11; refine (Sa.tokens _ _ _ (fun _ => True) _ _ (HL4.out.on fun k hk => ⟨trivial, (Below.heap_alloc _ _ _ (Nat.lt_of_lt_of_le hk.2 HC5.out.size)).trans (HC5.out.block k hk.2)⟩) (Hf.lit w5 _)).mono ?_; rintro e w6 ⟨rfl, n6, hw6⟩; have HC6 : Hid (Below w5.heap.size w5 w6) := Lib.hid (by rw [hw6]; exact Sa.drews ((Below.refl _ _).alloc (Nat.le_refl _) _) n6); clear hw6 HL4) | (go_at_call 11; refine (Sa.tokens _ _ _ (fun _ => True) _ _ (HL2.out.on fun k hk => ⟨trivial, (Below.heap_alloc _ _ _ (Nat.lt_of_lt_of_le hk.2 (Nat.le_trans HC3.out.size (Nat.le_trans HC4.out.size (Nat.le_trans HC5.out.size HC6.out.size))))).trans ((HC6.out.block k (Nat.lt_of_lt_of_le hk.2 (Nat.le_trans HC3.out.size (Nat.le_trans HC4.out.size HC5.out.size)))).trans ((HC5.out.block k (Nat.lt_of_lt_of_le hk.2 (Nat.le_trans HC3.out.size HC4.out.size))).trans ((HC4.out.block k (Nat.lt_of_lt_of_le hk.2 HC3.out.size)).trans (HC3.out.block k hk.2))))⟩) (Hf.lit w6 _)).mono ?_; rintro e w7 ⟨rfl, n7, hw7⟩; have HC7 : Hid (Below w6.heap.size w6 w7) := Lib.hid (by rw [hw7]; exact Sa.drews ((Below.refl _ _).alloc (Nat.le_refl _) _) n7); clear hw7 HL2))
    go_ret
    exact ⟨rfl, HB4.out.trans ((HC5.out.trans ((HC6.out.trans (HC7.out.mono HC6.out.size)).mono HC5.out.size)).mono HB4.out.size)⟩
end Go.Proofs.YtjbkgokiikbaeabDoor

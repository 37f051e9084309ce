/-
  THE WALKS of tok.isHeldAt.
-/
import Derived.Test.YtblpkjlodncpeaaGreatDoorATRowA
namespace Go.Proofs.YtblpkjlodncpeaaGreatDoor
open Go.RowKit
theorem Tp.low_beq (d c : UInt8) : ((Ts.low d).toList == (Ts.low c).toList) = (Pl.lowB d == Pl.lowB c) := by
  rw [ByteArray.toList_eq, ByteArray.toList_eq, Bool.eq_iff_iff]
  simp [Ts.low]
theorem Tp.getD (s : ByteArray) (k : Nat) (h : k < s.size) : s.data.toList.getD k 0 = s[k] := by
  have h' : k < s.data.toList.length := by rw [Wk.len_data]; exact h
  rw [List.getD_eq_getElem?_getD, List.getElem?_eq_getElem h']
  rfl
set_option maxHeartbeats 1000000 in
theorem Tp.heldAt3 (p : Int) (n : ByteArray) (f : Bool) (a h : ByteArray) (k : Nat) (c : UInt8) (w : World) (hk : k < h.size) (b : Bool) (hb : (Pl.lowB h[k] == Pl.lowB c) = b) :
    Calls Tryz.prog 106 #[.agg #[.int .i64 p, .string n, .bool f, .string a, .string h, .int .i64 (k : Int)], .int .u8 c.toNat] w fun e w' => e = .returned (.bool b) ∧ Below w.heap.size w w' := by
  have t1 : decide ((0 : Int) ≤ (k : Int)) = true := decide_eq_true (by omega)
  have t2 : decide ((k : Int) < (h.size : Int)) = true := decide_eq_true (by omega)
  have hL1 := Tp.lowered h[k]
  have hL2 := Tp.lowered c
  have hq := Tp.low_beq h[k] c
  rw [hb] at hq
  clear hb
  generalize Ts.low h[k] = x at *
  generalize Ts.low c = y at *
  go_enter Tryz.func106, Tryz.ntmps106
  go_wp2_with (first | (go_at_call 133; refine (hL1 _).mono ?_; rintro e w1 ⟨rfl, hb1⟩; clear hL1; have hz1 := hb1.size; simp at hz1; have a4 : w1.cell? ⟨w.heap.size, 4, none⟩ = some (.string h) := (hb1.cell (p := ⟨w.heap.size, 4, none⟩) (by simp; try omega)).trans (by simp); have q1 : Below w.heap.size w w1 := ((Below.refl _ _).alloc (Nat.le_refl _) _).trans (hb1.mono (by simp; try omega)); clear hb1) | (go_at_call 133; refine (hL2 _).mono ?_; rintro e w2 ⟨rfl, hb2⟩))
  go_ret
  exact ⟨rfl, q1.trans (hb2.mono (by omega))⟩
theorem Tp.isHeldAt (s : Ts) (c : UInt8) (w : World) :
    Calls Tryz.prog 106 #[.agg #[.int .i64 s.pl, .string s.name, .bool s.fin, .string s.attr, .string s.held, .int .i64 s.read], .int .u8 c.toNat] w fun e w' => e = .returned (.bool (s.heldAt c)) ∧ Below w.heap.size w w' := by
  by_cases h0 : 0 ≤ s.read
  · by_cases h1 : s.read < s.held.size
    · obtain ⟨p, n, f, a, h, r⟩ := s
      simp only at h0 h1 ⊢
      obtain ⟨k, rfl⟩ := Int.eq_ofNat_of_zero_le h0
      have hk : k < h.size := by omega
      refine Tp.heldAt3 p n f a h k c w hk _ ?_
      unfold Ts.heldAt
      simp only [Int.toNat_natCast, Tp.getD h k hk]
      simp [hk]
    · have t1 : decide (0 ≤ s.read) = true := decide_eq_true h0
      have t2 : decide (s.read < (s.held.size : Int)) = false := decide_eq_false h1
      have HX := Lib.hid (show s.heldAt c = false by unfold Ts.heldAt; rw [t2]; simp)
      clear h1
      go_enter Tryz.func106, Tryz.ntmps106
      go_wp2
      go_ret
      exact ⟨Wk.ret_bool HX.out.symm, (Below.refl _ _).alloc (Nat.le_refl _) _⟩
  · have t1 : decide (0 ≤ s.read) = false := decide_eq_false h0
    have HX := Lib.hid (show s.heldAt c = false by unfold Ts.heldAt; rw [t1]; simp)
    go_enter Tryz.func106, Tryz.ntmps106
    go_wp2
    go_ret
    exact ⟨Wk.ret_bool HX.out.symm, (Below.refl _ _).alloc (Nat.le_refl _) _⟩
end Go.Proofs.YtblpkjlodncpeaaGreatDoor

/-
  THE WALK of utf.Lower.
-/
import Derived.Test.YtfjhbhddfpkebaaDoorRefLow
namespace Go.Proofs.YtfjhbhddfpkebaaDoor
open Go.RowKit
theorem Wk.low (c : UInt8) (w : World) :
    Calls Tryd.prog 34 #[.int .u8 c.toNat] w fun e w' => e = .returned (.int .u8 (Pl.lowB c).toNat) ∧ w' = w := by
  have hc := c.toNat_lt
  have hl := Pl.lowB_toNat c
  generalize (Pl.lowB c).toNat = m at *
  generalize c.toNat = k at *
  by_cases h1 : 65 ≤ k
  · by_cases h2 : k ≤ 90
    · rw [if_pos ⟨h1, h2⟩] at hl
      subst hl
      go_enter Tryd.func34, Tryd.ntmps34
      go_wp2
      go_ret
      exact ⟨by simp, rfl⟩
    · rw [if_neg (by omega)] at hl
      subst hl
      go_enter Tryd.func34, Tryd.ntmps34
      go_wp2
      go_ret
      exact ⟨rfl, rfl⟩
  · rw [if_neg (by omega)] at hl
    subst hl
    go_enter Tryd.func34, Tryd.ntmps34
    go_wp2
    go_ret
    exact ⟨rfl, rfl⟩
set_option maxHeartbeats 1000000 in
theorem Wk.lower (s : ByteArray) (w : World) (hs : s.size ≤ 281474976710656) :
    Calls Tryd.prog 25 #[.string s] w fun e w' => e = .returned (.string ⟨(Pl.lowL s.data.toList).toArray⟩) ∧ Below w.heap.size w w' := by
  obtain ⟨i0, hi, hz0, hz1, hz2⟩ := info_parts Wk.info5
  have hmk : ∀ u : World, (Instr.makeSlice 28 (.int .i64 (s.size : Int)) (.int .i64 (s.size : Int))).run Tryd.prog u =
      .ok (.slice (some ⟨u.heap.size, 0, none⟩) s.size s.size) (u.alloc (.cells (madeCells #[.int .u8 0] s.size) 5)) := fun u => by
    have h := run_make (P := Tryd.prog) u 28 5 i0 (.int .u8 0) Tryd.underlying28 hi hz0 .i64 .i64 (s.size : Int) (s.size : Int) (by omega) (Int.le_refl _) (by rw [hz2]; omega) (by omega)
    simpa [hz1, Value.cells] using h
  have h0 : (w.alloc (.cells (madeCells #[.int .u8 0] s.size) 5)).ownsRow w.heap.size 5 1 (.slice (some ⟨w.heap.size, 0, none⟩) s.size s.size) s.size (Wk.half s.data.toList 0) := by
    have := World.ownsRow_lit (e := 5) (size := 1) w (madeCells #[.int .u8 0] s.size) s.size (Nat.le_refl _) (by unfold maxLen; omega) (by simp [size_madeCells])
    rw [toList_madeCells_one] at this
    rw [Wk.half_zero, Wk.len_data]
    exact this
  go_enter Tryd.func25, Tryd.ntmps25
  go_wp2
  go_loopw [10] (fun i wr => ∃ k : Nat, k ≤ s.size ∧ i = .int .i64 k ∧ wr.ownsRow w.heap.size 5 1 (.slice (some ⟨w.heap.size, 0, none⟩) s.size s.size) s.size (Wk.half s.data.toList k) ∧ Below w.heap.size w wr) (fun i _ => s.size - (intOf i).toNat)
  case atStart => exact ⟨0, Nat.zero_le _, rfl, h0, (Below.refl _ _).alloc (Nat.le_refl _) _⟩
  case round =>
    clear h0 hmk
    obtain ⟨k, hk, rfl, hown, hb⟩ := hrel
    by_cases hlt : k < s.size
    · have hlt' : k < s.data.toList.length := by rw [Wk.len_data]; exact hlt
      have hcell : wr.cell? ⟨w.heap.size, k, none⟩ = some (.int .u8 0) := by
        rw [hown.cellAt k (by omega), Wk.half_get _ _ hlt']
      have hfz : wr.frozen? ⟨w.heap.size, k, none⟩ = false := hown.frozenAt k
      have hst := hown.stored k (.int .u8 (Pl.lowB s[k]).toNat)
      have hset : (Wk.half s.data.toList k).set k (.int .u8 (Pl.lowB s[k]).toNat) = Wk.half s.data.toList (k + 1) := Wk.half_set _ _ hlt'
      rw [hset] at hst
      clear hset
      have hsz := hb.size
      go_wp2_with (go_at_call 34; refine (Wk.low _ _).mono ?_; rintro e w' ⟨rfl, rfl⟩)
      go_roundw
      case rel => exact ⟨k + 1, by omega, by go_num, hst.1, hb.setCell (Nat.le_refl _) _⟩
      case measure => simp [intOf]; omega
    · have hke : k = s.size := by omega
      have hl : (Pl.lowL s.data.toList).length = s.size := by rw [Pl.low_length, Wk.len_data]
      have hconv : (convert 28 9 (.slice (some ⟨w.heap.size, 0, none⟩) s.size s.size)).run Tryd.prog wr = .ok (.string ⟨(Pl.lowL s.data.toList).toArray⟩) wr := by
        have h := run_convert_bytes_back (P := Tryd.prog) wr 28 9 5 ⟨w.heap.size, 0, none⟩ s.size (Pl.lowL s.data.toList) Tryd.underlying28 Tryd.underlying5 Tryd.underlying9 (fun j hj => by
          have hj' : j < s.size := by omega
          have e : (⟨w.heap.size, 0, none⟩ : Addr).add j = ⟨w.heap.size, j, none⟩ := by rw [Addr.add_lit, Nat.zero_add]
          rw [e, hown.cellAt j (by omega), hke, ← Wk.len_data, Wk.half_all]
          simp [Lib.byteCells, hj])
        rwa [hl] at h
      clear hown hl hke
      go_wp2
      go_ret
      exact ⟨rfl, hb⟩
end Go.Proofs.YtfjhbhddfpkebaaDoor

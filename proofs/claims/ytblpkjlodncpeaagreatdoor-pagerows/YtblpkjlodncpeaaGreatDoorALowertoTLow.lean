/-
  THE WALK of utf.Lower: it returns what 'Pl.lowL' gives of the bytes, and turns nothing that was there.
-/
import Derived.Test.YtblpkjlodncpeaaGreatDoorAKPlaintoNorm
import Derived.Laws.IdiomStrings
namespace Go.Proofs.YtblpkjlodncpeaaGreatDoor
open Go.RowKit

/-- what the row of bytes holds behind k rounds -/
def Wk.half (l : List UInt8) (k : Nat) : List Value := Lib.byteCells (Pl.lowL (l.take k)) ++ List.replicate (l.length - k) (.int .u8 0)
theorem Wk.half_zero (l : List UInt8) : Wk.half l 0 = List.replicate l.length (.int .u8 0) := by simp [Wk.half, Lib.byteCells, Pl.lowL]
theorem Wk.half_all (l : List UInt8) : Wk.half l l.length = Lib.byteCells (Pl.lowL l) := by simp [Wk.half]
theorem Wk.half_len (l : List UInt8) (k : Nat) (h : k < l.length) : (Lib.byteCells (Pl.lowL (l.take k))).length = k := by
  rw [Lib.byteCells_length, Pl.low_length, List.length_take]; omega
theorem Wk.half_get (l : List UInt8) (k : Nat) (h : k < l.length) : (Wk.half l k)[k]? = some (.int .u8 0) := by
  have hl := Wk.half_len l k h
  rw [Wk.half, List.getElem?_append_right (by omega), hl, Nat.sub_self, List.getElem?_replicate, if_pos (by omega)]
theorem Wk.half_set (l : List UInt8) (k : Nat) (h : k < l.length) : (Wk.half l k).set k (.int .u8 (Pl.lowB l[k]).toNat) = Wk.half l (k + 1) := by
  have hl := Wk.half_len l k h
  unfold Wk.half
  rw [List.set_append_right _ _ (by omega), hl, Nat.sub_self, show l.length - k = (l.length - (k + 1)) + 1 by omega, List.replicate_succ, List.set_cons_zero, List.take_succ_eq_append_getElem h]
  simp only [Lib.byteCells, Pl.lowL, List.map_append, List.map_cons, List.map_nil, List.append_assoc, List.cons_append, List.nil_append]

set_option maxHeartbeats 1000000 in
theorem Wk.lower (s : ByteArray) (w : World) (hs : s.size ≤ 281474976710656) :
    Calls Tryz.prog 157 #[.string s] w fun e w' => e = .returned (.string ⟨(Pl.lowL s.data.toList).toArray⟩) ∧ Below w.heap.size w w' := by
  obtain ⟨i0, hi, hz0, hz1, hz2⟩ := info_parts Wk.info5
  have hmk : ∀ u : World, (Instr.makeSlice 43 (.int .i64 (s.size : Int)) (.int .i64 (s.size : Int))).run Tryz.prog u =
      .ok (.slice (some ⟨u.heap.size, 0, none⟩) s.size s.size) (u.alloc (.cells (madeCells #[.int .u8 0] s.size) 5)) := fun u => by
    have h := run_make (P := Tryz.prog) u 43 5 i0 (.int .u8 0) Tryz.underlying43 hi hz0 .i64 .i64 (s.size : Int) (s.size : Int) (by omega) (Int.le_refl _) (by rw [hz2]; omega) (by omega)
    simpa [hz1, Value.cells] using h
  have h0 : (w.alloc (.cells (madeCells #[.int .u8 0] s.size) 5)).ownsRow w.heap.size 5 1 (.slice (some ⟨w.heap.size, 0, none⟩) s.size s.size) s.size (Wk.half s.data.toList 0) := by
    have := World.ownsRow_lit (e := 5) (size := 1) w (madeCells #[.int .u8 0] s.size) s.size (Nat.le_refl _) (by unfold maxLen; omega) (by simp [size_madeCells])
    rw [toList_madeCells_one] at this
    rw [Wk.half_zero, Wk.len_data]
    exact this
  go_enter Tryz.func157, Tryz.ntmps157
  go_wp2
  go_loopw [10] (fun i wr => ∃ k : Nat, k ≤ s.size ∧ i = .int .i64 k ∧ wr.ownsRow w.heap.size 5 1 (.slice (some ⟨w.heap.size, 0, none⟩) s.size s.size) s.size (Wk.half s.data.toList k) ∧ Below w.heap.size w wr) (fun i _ => s.size - (intOf i).toNat)
  case atStart => exact ⟨0, Nat.zero_le _, rfl, h0, (Below.refl _ _).alloc (Nat.le_refl _) _⟩
  case round =>
    clear h0 hmk
    obtain ⟨k, hk, rfl, hown, hb⟩ := hrel
    by_cases hlt : k < s.size
    · have hlt' : k < s.data.toList.length := by rw [Wk.len_data]; exact hlt
      have hcell : wr.cell? ⟨w.heap.size, k, none⟩ = some (.int .u8 0) := by
        rw [hown.cellAt k (by omega), Wk.half_get _ _ hlt']
      have hfz : wr.frozen? ⟨w.heap.size, k, none⟩ = false := hown.frozenAt k
      have hst := hown.stored k (.int .u8 (Pl.lowB s[k]).toNat)
      have hset : (Wk.half s.data.toList k).set k (.int .u8 (Pl.lowB s[k]).toNat) = Wk.half s.data.toList (k + 1) := Wk.half_set _ _ hlt'
      rw [hset] at hst
      clear hset
      have hsz := hb.size
      go_wp2_with (go_at_call 173; refine (Wk.low _ _).mono ?_; rintro e w' ⟨rfl, rfl⟩)
      go_roundw
      case rel => exact ⟨k + 1, by omega, by go_num, hst.1, hb.setCell (Nat.le_refl _) _⟩
      case measure => simp [intOf]; omega
    · have hke : k = s.size := by omega
      have hl : (Pl.lowL s.data.toList).length = s.size := by rw [Pl.low_length, Wk.len_data]
      have hconv : (convert 43 9 (.slice (some ⟨w.heap.size, 0, none⟩) s.size s.size)).run Tryz.prog wr = .ok (.string ⟨(Pl.lowL s.data.toList).toArray⟩) wr := by
        have h := run_convert_bytes_back (P := Tryz.prog) wr 43 9 5 ⟨w.heap.size, 0, none⟩ s.size (Pl.lowL s.data.toList) Tryz.underlying43 Tryz.underlying5 Tryz.underlying9 (fun j hj => by
          have hj' : j < s.size := by omega
          have e : (⟨w.heap.size, 0, none⟩ : Addr).add j = ⟨w.heap.size, j, none⟩ := by rw [Addr.add_lit, Nat.zero_add]
          rw [e, hown.cellAt j (by omega), hke, ← Wk.len_data, Wk.half_all]
          simp [Lib.byteCells, hj])
        rwa [hl] at h
      clear hown hl hke
      go_wp2
      go_ret
      exact ⟨rfl, hb⟩
end Go.Proofs.YtblpkjlodncpeaaGreatDoor
/-
  THE WALKS of tok.isBlank, tok.isLetter, tok.lowered, tok.grown, known.Kind.
-/
namespace Go.Proofs.YtblpkjlodncpeaaGreatDoor
open Go.RowKit
theorem Tp.isBlank (c : UInt8) (w : World) : Calls Tryz.prog 101 #[.int .u8 c.toNat] w fun e w' => e = .returned (.bool (Ts.blank c)) ∧ w' = w := by
  unfold Ts.blank
  by_cases h0 : c = 9
  · have t0 : ((c.toNat : Int) == 9) = true := Tp.eq_true h0
    go_enter Tryz.func101, Tryz.ntmps101
    go_wp2
    go_ret
    simp [h0]
  have t0 : ((c.toNat : Int) == 9) = false := Tp.eq_false h0
  by_cases h1 : c = 10
  · have t1 : ((c.toNat : Int) == 10) = true := Tp.eq_true h1
    go_enter Tryz.func101, Tryz.ntmps101
    go_wp2
    go_ret
    simp [h1]
  have t1 : ((c.toNat : Int) == 10) = false := Tp.eq_false h1
  by_cases h2 : c = 12
  · have t2 : ((c.toNat : Int) == 12) = true := Tp.eq_true h2
    go_enter Tryz.func101, Tryz.ntmps101
    go_wp2
    go_ret
    simp [h2]
  have t2 : ((c.toNat : Int) == 12) = false := Tp.eq_false h2
  by_cases h3 : c = 13
  · have t3 : ((c.toNat : Int) == 13) = true := Tp.eq_true h3
    go_enter Tryz.func101, Tryz.ntmps101
    go_wp2
    go_ret
    simp [h3]
  have t3 : ((c.toNat : Int) == 13) = false := Tp.eq_false h3
  by_cases h4 : c = 32
  · have t4 : ((c.toNat : Int) == 32) = true := Tp.eq_true h4
    go_enter Tryz.func101, Tryz.ntmps101
    go_wp2
    go_ret
    simp [h4]
  have t4 : ((c.toNat : Int) == 32) = false := Tp.eq_false h4
  go_enter Tryz.func101, Tryz.ntmps101
  go_wp2
  go_ret
  simp [h0, h1, h2, h3, h4]
theorem Tp.isLetter (c : UInt8) (w : World) : Calls Tryz.prog 99 #[.int .u8 c.toNat] w fun e w' => e = .returned (.bool (Ts.letter c)) ∧ w' = w := by
  unfold Ts.letter
  generalize c.toNat = k
  by_cases h1 : 65 ≤ k
  all_goals
    by_cases h2 : k ≤ 90
    all_goals
      by_cases h3 : 97 ≤ k
      all_goals
        by_cases h4 : k ≤ 122
        all_goals first | (exfalso; omega) | skip
  all_goals
    try (have t1 : decide ((65 : Int) ≤ k) = true := decide_eq_true (by omega))
    try (have t1 : decide ((65 : Int) ≤ k) = false := decide_eq_false (by omega))
    try (have t2 : decide ((k : Int) ≤ 90) = true := decide_eq_true (by omega))
    try (have t2 : decide ((k : Int) ≤ 90) = false := decide_eq_false (by omega))
    try (have t3 : decide ((97 : Int) ≤ k) = true := decide_eq_true (by omega))
    try (have t3 : decide ((97 : Int) ≤ k) = false := decide_eq_false (by omega))
    try (have t4 : decide ((k : Int) ≤ 122) = true := decide_eq_true (by omega))
    try (have t4 : decide ((k : Int) ≤ 122) = false := decide_eq_false (by omega))
    go_enter Tryz.func99, Tryz.ntmps99
    go_wp2
    go_ret
    exact ⟨Wk.ret_bool (by rw [Bool.eq_iff_iff]; simp; try omega), rfl⟩
/-- string of a row of one byte -/
theorem Tp.conv1 (W : World) (c : UInt8) : (convert 43 9 (.slice (some ⟨W.heap.size, 0, none⟩) 1 1)).run Tryz.prog (W.alloc (.cells #[.int .u8 c.toNat] 5)) = .ok (.string ⟨#[c]⟩) (W.alloc (.cells #[.int .u8 c.toNat] 5)) := by
  have h := run_convert_bytes_back (P := Tryz.prog) (W.alloc (.cells #[.int .u8 c.toNat] 5)) 43 9 5 ⟨W.heap.size, 0, none⟩ 1 [c] Tryz.underlying43 Tryz.underlying5 Tryz.underlying9 (fun j hj => by
    have : j = 0 := by simpa using hj
    subst this
    rw [Addr.add_lit]
    simp)
  exact h
theorem Tp.lowered (c : UInt8) (w : World) : Calls Tryz.prog 133 #[.int .u8 c.toNat] w fun e w' => e = .returned (.string (Ts.low c)) ∧ Below w.heap.size w w' := by
  have hL := Wk.lower ⟨#[c]⟩
  have hv := Tp.conv1 w c
  go_enter Tryz.func133, Tryz.ntmps133
  go_wp2_with (go_at_call 157; refine (hL _ (show (1 : Nat) ≤ _ by omega)).mono ?_; rintro e w1 ⟨rfl, hb⟩)
  go_ret
  exact ⟨rfl, ((Below.refl _ _).alloc (Nat.le_refl _) _).trans (hb.mono (by simp))⟩
theorem Tp.low_size (c : UInt8) : (Ts.low c).size = 1 := rfl
theorem Tp.ret_ba {a b : ByteArray} (h : a = b) : Ending.returned (.string a) = .returned (.string b) := by rw [h]
theorem Tp.run_to (w : World) (s : ByteArray) (h : Int) (h0 : 0 ≤ h) (h2 : h ≤ s.size) :
    (Instr.slice 9 (.string s) none (some (.int .i64 h)) none).run Tryz.prog w = .ok (.string (s.extract 0 h.toNat)) w := by
  simp [Instr.slice, run_underlying Tryz.underlying9, Instr.sliceBounds, run_sliceBound, h0, h2]
theorem Tp.grown (n : ByteArray) (c : UInt8) (w : World) (hn : n.size ≤ maxLen) : Calls Tryz.prog 103 #[.string n, .int .u8 c.toNat] w fun e w' => e = .returned (.string (Ts.grown n c)) ∧ Below w.heap.size w w' := by
  unfold maxLen at hn
  by_cases h : 32 ≤ n.size
  · have t : decide ((32 : Int) ≤ (n.size : Int)) = true := decide_eq_true (by omega)
    have hr : ∀ u : World, (Instr.slice 9 (.string n) none (some (.int .i64 32)) none).run Tryz.prog u = .ok (.string (n.extract 0 32)) u := fun u => Tp.run_to u n 32 (by decide) (by omega)
    go_enter Tryz.func103, Tryz.ntmps103
    go_wp2
    go_ret
    exact ⟨Tp.ret_ba (by unfold Ts.grown; rw [if_pos h]), Below.refl _ _⟩
  · have t : decide ((32 : Int) ≤ (n.size : Int)) = false := decide_eq_false (by omega)
    have hL := Tp.lowered c
    have hs := Tp.low_size c
    generalize hl : Ts.low c = l at hL hs
    have HL := Lib.hid hl
    clear hl
    go_enter Tryz.func103, Tryz.ntmps103
    go_wp2_with (go_at_call 133; refine (hL _).mono ?_; rintro e w1 ⟨rfl, hb⟩)
    go_ret
    exact ⟨Tp.ret_ba (by unfold Ts.grown; rw [if_neg h, HL.out]), hb⟩
theorem Tp.kind (n : ByteArray) (w : World) : Calls Tryz.prog 80 #[.string n] w fun e w' => e = .returned (.int .i64 (Ts.kind n)) ∧ w' = w := by
  have hk : ∀ v : Int, Ts.kind n = v → Ending.returned (.int .i64 v) = .returned (.int .i64 (Ts.kind n)) := fun v h => by rw [h]
  have HK := Lib.hid hk
  clear hk
  by_cases h0 : n.toList = [98, 114]
  · have t0 : (n.toList == [98, 114]) = true := by rw [h0]; rfl
    have H := Lib.hid h0
    clear h0
    go_enter Tryz.func80, Tryz.ntmps80
    go_wp2
    go_ret
    exact ⟨HK.out 1 (by unfold Ts.kind; rw [← ByteArray.toList_eq, H.out]; rfl), rfl⟩
  by_cases h1 : n.toList = [105, 109, 103]
  · have t1 : (n.toList == [105, 109, 103]) = true := by rw [h1]; rfl
    have t0 : (n.toList == [98, 114]) = false := beq_eq_false_iff_ne.2 h0
    have H := Lib.hid h1
    clear h0 h1
    go_enter Tryz.func80, Tryz.ntmps80
    go_wp2
    go_ret
    exact ⟨HK.out 1 (by unfold Ts.kind; rw [← ByteArray.toList_eq, H.out]; rfl), rfl⟩
  by_cases h2 : n.toList = [105, 110, 112, 117, 116]
  · have t2 : (n.toList == [105, 110, 112, 117, 116]) = true := by rw [h2]; rfl
    have t0 : (n.toList == [98, 114]) = false := beq_eq_false_iff_ne.2 h0
    have t1 : (n.toList == [105, 109, 103]) = false := beq_eq_false_iff_ne.2 h1
    have H := Lib.hid h2
    clear h0 h1 h2
    go_enter Tryz.func80, Tryz.ntmps80
    go_wp2
    go_ret
    exact ⟨HK.out 1 (by unfold Ts.kind; rw [← ByteArray.toList_eq, H.out]; rfl), rfl⟩
  by_cases h3 : n.toList = [104, 114]
  · have t3 : (n.toList == [104, 114]) = true := by rw [h3]; rfl
    have t0 : (n.toList == [98, 114]) = false := beq_eq_false_iff_ne.2 h0
    have t1 : (n.toList == [105, 109, 103]) = false := beq_eq_false_iff_ne.2 h1
    have t2 : (n.toList == [105, 110, 112, 117, 116]) = false := beq_eq_false_iff_ne.2 h2
    have H := Lib.hid h3
    clear h0 h1 h2 h3
    go_enter Tryz.func80, Tryz.ntmps80
    go_wp2
    go_ret
    exact ⟨HK.out 1 (by unfold Ts.kind; rw [← ByteArray.toList_eq, H.out]; rfl), rfl⟩
  by_cases h4 : n.toList = [109, 101, 116, 97]
  · have t4 : (n.toList == [109, 101, 116, 97]) = true := by rw [h4]; rfl
    have t0 : (n.toList == [98, 114]) = false := beq_eq_false_iff_ne.2 h0
    have t1 : (n.toList == [105, 109, 103]) = false := beq_eq_false_iff_ne.2 h1
    have t2 : (n.toList == [105, 110, 112, 117, 116]) = false := beq_eq_false_iff_ne.2 h2
    have t3 : (n.toList == [104, 114]) = false := beq_eq_false_iff_ne.2 h3
    have H := Lib.hid h4
    clear h0 h1 h2 h3 h4
    go_enter Tryz.func80, Tryz.ntmps80
    go_wp2
    go_ret
    exact ⟨HK.out 1 (by unfold Ts.kind; rw [← ByteArray.toList_eq, H.out]; rfl), rfl⟩
  by_cases h5 : n.toList = [108, 105, 110, 107]
  · have t5 : (n.toList == [108, 105, 110, 107]) = true := by rw [h5]; rfl
    have t0 : (n.toList == [98, 114]) = false := beq_eq_false_iff_ne.2 h0
    have t1 : (n.toList == [105, 109, 103]) = false := beq_eq_false_iff_ne.2 h1
    have t2 : (n.toList == [105, 110, 112, 117, 116]) = false := beq_eq_false_iff_ne.2 h2
    have t3 : (n.toList == [104, 114]) = false := beq_eq_false_iff_ne.2 h3
    have t4 : (n.toList == [109, 101, 116, 97]) = false := beq_eq_false_iff_ne.2 h4
    have H := Lib.hid h5
    clear h0 h1 h2 h3 h4 h5
    go_enter Tryz.func80, Tryz.ntmps80
    go_wp2
    go_ret
    exact ⟨HK.out 1 (by unfold Ts.kind; rw [← ByteArray.toList_eq, H.out]; rfl), rfl⟩
  by_cases h6 : n.toList = [116, 105, 116, 108, 101]
  · have t6 : (n.toList == [116, 105, 116, 108, 101]) = true := by rw [h6]; rfl
    have t0 : (n.toList == [98, 114]) = false := beq_eq_false_iff_ne.2 h0
    have t1 : (n.toList == [105, 109, 103]) = false := beq_eq_false_iff_ne.2 h1
    have t2 : (n.toList == [105, 110, 112, 117, 116]) = false := beq_eq_false_iff_ne.2 h2
    have t3 : (n.toList == [104, 114]) = false := beq_eq_false_iff_ne.2 h3
    have t4 : (n.toList == [109, 101, 116, 97]) = false := beq_eq_false_iff_ne.2 h4
    have t5 : (n.toList == [108, 105, 110, 107]) = false := beq_eq_false_iff_ne.2 h5
    have H := Lib.hid h6
    clear h0 h1 h2 h3 h4 h5 h6
    go_enter Tryz.func80, Tryz.ntmps80
    go_wp2
    go_ret
    exact ⟨HK.out 2 (by unfold Ts.kind; rw [← ByteArray.toList_eq, H.out]; rfl), rfl⟩
  by_cases h7 : n.toList = [116, 101, 120, 116, 97, 114, 101, 97]
  · have t7 : (n.toList == [116, 101, 120, 116, 97, 114, 101, 97]) = true := by rw [h7]; rfl
    have t0 : (n.toList == [98, 114]) = false := beq_eq_false_iff_ne.2 h0
    have t1 : (n.toList == [105, 109, 103]) = false := beq_eq_false_iff_ne.2 h1
    have t2 : (n.toList == [105, 110, 112, 117, 116]) = false := beq_eq_false_iff_ne.2 h2
    have t3 : (n.toList == [104, 114]) = false := beq_eq_false_iff_ne.2 h3
    have t4 : (n.toList == [109, 101, 116, 97]) = false := beq_eq_false_iff_ne.2 h4
    have t5 : (n.toList == [108, 105, 110, 107]) = false := beq_eq_false_iff_ne.2 h5
    have t6 : (n.toList == [116, 105, 116, 108, 101]) = false := beq_eq_false_iff_ne.2 h6
    have H := Lib.hid h7
    clear h0 h1 h2 h3 h4 h5 h6 h7
    go_enter Tryz.func80, Tryz.ntmps80
    go_wp2
    go_ret
    exact ⟨HK.out 2 (by unfold Ts.kind; rw [← ByteArray.toList_eq, H.out]; rfl), rfl⟩
  by_cases h8 : n.toList = [115, 99, 114, 105, 112, 116]
  · have t8 : (n.toList == [115, 99, 114, 105, 112, 116]) = true := by rw [h8]; rfl
    have t0 : (n.toList == [98, 114]) = false := beq_eq_false_iff_ne.2 h0
    have t1 : (n.toList == [105, 109, 103]) = false := beq_eq_false_iff_ne.2 h1
    have t2 : (n.toList == [105, 110, 112, 117, 116]) = false := beq_eq_false_iff_ne.2 h2
    have t3 : (n.toList == [104, 114]) = false := beq_eq_false_iff_ne.2 h3
    have t4 : (n.toList == [109, 101, 116, 97]) = false := beq_eq_false_iff_ne.2 h4
    have t5 : (n.toList == [108, 105, 110, 107]) = false := beq_eq_false_iff_ne.2 h5
    have t6 : (n.toList == [116, 105, 116, 108, 101]) = false := beq_eq_false_iff_ne.2 h6
    have t7 : (n.toList == [116, 101, 120, 116, 97, 114, 101, 97]) = false := beq_eq_false_iff_ne.2 h7
    have H := Lib.hid h8
    clear h0 h1 h2 h3 h4 h5 h6 h7 h8
    go_enter Tryz.func80, Tryz.ntmps80
    go_wp2
    go_ret
    exact ⟨HK.out 3 (by unfold Ts.kind; rw [← ByteArray.toList_eq, H.out]; rfl), rfl⟩
  by_cases h9 : n.toList = [115, 116, 121, 108, 101]
  · have t9 : (n.toList == [115, 116, 121, 108, 101]) = true := by rw [h9]; rfl
    have t0 : (n.toList == [98, 114]) = false := beq_eq_false_iff_ne.2 h0
    have t1 : (n.toList == [105, 109, 103]) = false := beq_eq_false_iff_ne.2 h1
    have t2 : (n.toList == [105, 110, 112, 117, 116]) = false := beq_eq_false_iff_ne.2 h2
    have t3 : (n.toList == [104, 114]) = false := beq_eq_false_iff_ne.2 h3
    have t4 : (n.toList == [109, 101, 116, 97]) = false := beq_eq_false_iff_ne.2 h4
    have t5 : (n.toList == [108, 105, 110, 107]) = false := beq_eq_false_iff_ne.2 h5
    have t6 : (n.toList == [116, 105, 116, 108, 101]) = false := beq_eq_false_iff_ne.2 h6
    have t7 : (n.toList == [116, 101, 120, 116, 97, 114, 101, 97]) = false := beq_eq_false_iff_ne.2 h7
    have t8 : (n.toList == [115, 99, 114, 105, 112, 116]) = false := beq_eq_false_iff_ne.2 h8
    have H := Lib.hid h9
    clear h0 h1 h2 h3 h4 h5 h6 h7 h8 h9
    go_enter Tryz.func80, Tryz.ntmps80
    go_wp2
    go_ret
    exact ⟨HK.out 4 (by unfold Ts.kind; rw [← ByteArray.toList_eq, H.out]; rfl), rfl⟩
  have t0 : (n.toList == [98, 114]) = false := beq_eq_false_iff_ne.2 h0
  have t1 : (n.toList == [105, 109, 103]) = false := beq_eq_false_iff_ne.2 h1
  have t2 : (n.toList == [105, 110, 112, 117, 116]) = false := beq_eq_false_iff_ne.2 h2
  have t3 : (n.toList == [104, 114]) = false := beq_eq_false_iff_ne.2 h3
  have t4 : (n.toList == [109, 101, 116, 97]) = false := beq_eq_false_iff_ne.2 h4
  have t5 : (n.toList == [108, 105, 110, 107]) = false := beq_eq_false_iff_ne.2 h5
  have t6 : (n.toList == [116, 105, 116, 108, 101]) = false := beq_eq_false_iff_ne.2 h6
  have t7 : (n.toList == [116, 101, 120, 116, 97, 114, 101, 97]) = false := beq_eq_false_iff_ne.2 h7
  have t8 : (n.toList == [115, 99, 114, 105, 112, 116]) = false := beq_eq_false_iff_ne.2 h8
  have t9 : (n.toList == [115, 116, 121, 108, 101]) = false := beq_eq_false_iff_ne.2 h9
  have H : Hid (¬ n.toList = [98, 114] ∧ ¬ n.toList = [105, 109, 103] ∧ ¬ n.toList = [105, 110, 112, 117, 116] ∧ ¬ n.toList = [104, 114] ∧ ¬ n.toList = [109, 101, 116, 97] ∧ ¬ n.toList = [108, 105, 110, 107] ∧ ¬ n.toList = [116, 105, 116, 108, 101] ∧ ¬ n.toList = [116, 101, 120, 116, 97, 114, 101, 97] ∧ ¬ n.toList = [115, 99, 114, 105, 112, 116] ∧ ¬ n.toList = [115, 116, 121, 108, 101]) := ⟨h0, h1, h2, h3, h4, h5, h6, h7, h8, h9⟩
  clear h0 h1 h2 h3 h4 h5 h6 h7 h8 h9
  go_enter Tryz.func80, Tryz.ntmps80
  go_wp2
  go_ret
  obtain ⟨k0, k1, k2, k3, k4, k5, k6, k7, k8, k9⟩ := H.out
  exact ⟨HK.out 0 (by unfold Ts.kind; rw [← ByteArray.toList_eq]; simp only [k0, k1, k2, k3, k4, k5, k6, k7, k8, k9, or_self, if_false]), rfl⟩
end Go.Proofs.YtblpkjlodncpeaaGreatDoor

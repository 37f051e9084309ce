/-
  THE WALKS of url.write, isLetter, isLineByte and isSafe.
-/
import Derived.Test.YtfjhbhddfpkebaaDoorQPct
import Derived.Test.YtfjhbhddfpkebaaDoorQSet
namespace Go.Proofs.YtfjhbhddfpkebaaDoor
open Go.RowKit
/-- a set of bytes: its four words, what Of and Has say of it -/
theorem Bs.set (T : ByteArray) (hT : T.size ≤ 1000) (p : UInt8 → Bool) (hp : ∀ c, Bs.has T.data.toList c = p c) : ∃ a0 a1 a2 a3 : Int,
    (∀ u, Calls Tryd.prog 21 #[.string T] u fun e w' => e = .returned (.agg #[.int .u64 a0, .int .u64 a1, .int .u64 a2, .int .u64 a3]) ∧ Below u.heap.size u w') ∧
    (∀ (c : UInt8) u, Calls Tryd.prog 24 #[.agg #[.int .u64 a0, .int .u64 a1, .int .u64 a2, .int .u64 a3], .int .u8 (c.toNat : Int)] u fun e w' => e = .returned (.bool (p c)) ∧ Below u.heap.size u w') :=
  ⟨_, _, _, _, fun u => Bs.Of T u hT, fun c u => by rw [← hp c]; exact Bs.Has T.data.toList c u⟩
theorem Up.cat1 (acc : List UInt8) (c : UInt8) : Lib.byteCells acc ++ [.int .u8 (c.toNat : Int)] = Lib.byteCells (acc ++ [c]) := by rw [Lib.byteCells_append]; rfl
set_option maxRecDepth 100000 in
set_option maxHeartbeats 4000000 in
theorem Up.write (SG : List UInt8) (a0 a1 a2 a3 : Int) (s : ByteArray) (w : World) (hs : s.size ≤ 1099511627776)
    (has1 : ∀ (c : UInt8) u, Calls Tryd.prog 24 #[.agg #[.int .u64 a0, .int .u64 a1, .int .u64 a2, .int .u64 a3], .int .u8 (c.toNat : Int)] u fun e w' => e = .returned (.bool (Ug.stays SG c)) ∧ Below u.heap.size u w') :
    Calls Tryd.prog 29 #[.string s, .agg #[.int .u64 a0, .int .u64 a1, .int .u64 a2, .int .u64 a3]] w fun e w' => e = .returned (.string ⟨(Ug.pct SG s.data.toList).toArray⟩) ∧ Below w.heap.size w w' := by
  obtain ⟨RR, hRR⟩ : ∃ RR, Ug.pct SG s.data.toList = RR := ⟨_, rfl⟩
  rw [hRR]
  have HRR := Lib.hid hRR
  clear hRR
  have hz1 : (w.alloc (.cells #[.int .u64 a0, .int .u64 a1, .int .u64 a2, .int .u64 a3] 38)).heap.size = w.heap.size + 1 := by simp
  have hnew := heap_alloc_new (w.alloc (.cells #[.int .u64 a0, .int .u64 a1, .int .u64 a2, .int .u64 a3] 38)) (.cells #[.pointer none, .slice none 0 0] 45)
  rw [hz1] at hnew
  have c0 := Sh.Builder_Grow_fresh (w.heap.size + 1) (w.heap.size + 1) s.size ((w.alloc (.cells #[.int .u64 a0, .int .u64 a1, .int .u64 a2, .int .u64 a3] 38)).alloc (.cells #[.pointer none, .slice none 0 0] 45)) (Nat.le_refl _) hnew (by simp) (by omega)
  clear hnew hz1
  go_enter Tryd.func29, Tryd.ntmps29
  go_wp2_with (go_at_call 35; refine c0.mono ?_; rintro e w0 ⟨rfl, hB0, hb0⟩)
  have HB0 : Hid (Below (w.heap.size + 1) (w.alloc (.cells #[.int .u64 a0, .int .u64 a1, .int .u64 a2, .int .u64 a3] 38)) w0) := ((Below.refl _ _).alloc (by simp) _).trans hb0
  have HI0 : Hid (Lib.IsBuilderF 45 5 (w.heap.size + 1) (w.heap.size + 1) (Lib.byteCells []) w0) := .inr (Lib.BuilderAtF.of hB0)
  clear c0 hB0 hb0
  go_loopw [13] (fun ix wr => ∃ i : Nat, i ≤ s.size ∧ ix = .int .i64 (i : Int) ∧ Hid (Lib.IsBuilderF 45 5 (w.heap.size + 1) (w.heap.size + 1) (Lib.byteCells (Ug.pct SG (s.data.toList.take i))) wr) ∧ Hid (Below (w.heap.size + 1) (w.alloc (.cells #[.int .u64 a0, .int .u64 a1, .int .u64 a2, .int .u64 a3] 38)) wr)) (fun ix _ => s.size - (intOf ix).toNat)
  case atStart => exact ⟨0, Nat.zero_le _, rfl, HI0, HB0⟩
  case round =>
    clear HB0 HI0
    obtain ⟨i, hi, rfl, HI, HB⟩ := hrel
    have hws : w.heap.size + 1 ≤ wr.heap.size := by
      have := HB.out.size
      simpa using this
    by_cases hlt : i < s.size
    · have d1 : decide ((i : Int) < (s.size : Int)) = true := decide_eq_true (by omega)
      have HTK := Lib.hid (Qr.pct_take (s := SG) (Qr.at hlt))
      have HN3 : Hid ((Ug.pct SG (s.data.toList.take i)).length + 3 ≤ 140737488355328) := by
        have h1 := Qr.pct_le SG s.data.toList i
        rw [Wk.len_data] at h1
        unfold Hid
        omega
      generalize Ug.pct SG (s.data.toList.take i) = acc at *
      have hBY : Ug.byte SG s[i] = if Ug.stays SG s[i] = true then [s[i]] else [37, Ug.hex (s[i].toNat / 16), Ug.hex (s[i].toNat % 16)] := rfl
      have HX := Lib.hid ((Bs.Box.new w #[.int .u64 a0, .int .u64 a1, .int .u64 a2, .int .u64 a3] 38 _ rfl).on HB.out (Nat.lt_succ_self _))
      have x0 : wr.cell? ⟨w.heap.size, 0, none⟩ = some (.int .u64 a0) := HX.out.cell 0 rfl
      have x1 : wr.cell? ⟨w.heap.size, 1, none⟩ = some (.int .u64 a1) := HX.out.cell 1 rfl
      have x2 : wr.cell? ⟨w.heap.size, 2, none⟩ = some (.int .u64 a2) := HX.out.cell 2 rfl
      have x3 : wr.cell? ⟨w.heap.size, 3, none⟩ = some (.int .u64 a3) := HX.out.cell 3 rfl
      have has1 := has1 s[i] wr
      by_cases hst : Ug.stays SG s[i] = true
      · rw [hBY, if_pos hst] at HTK
        rw [hst] at has1
        clear hBY hst
        go_wp2_with (go_at_call 24; refine has1.mono ?_; rintro e w1 ⟨rfl, hb1⟩; have HB1 := Lib.hid hb1; clear hb1 x0 x1 x2 x3)
        refine (Sh.Builder_WriteByte_k (w.heap.size + 1) (w.heap.size + 1) _ _ w1 (Wk.isF_below HI.out HB1.out) (by rw [Lib.byteCells_length]; have := HN3.out; omega) (by have := HB1.out.size; omega)).mono ?_
        rintro e w2 ⟨rfl, hI2, hb2, _⟩
        rw [Up.cat1] at hI2
        have HB2 : Hid (Below (w.heap.size + 1) (w.alloc (.cells #[.int .u64 a0, .int .u64 a1, .int .u64 a2, .int .u64 a3] 38)) w2) := (HB.out.trans (HB1.out.mono hws)).trans hb2
        have HI2 := Lib.hid hI2
        clear hI2 hb2 HI HB has1
        go_wp2
        go_roundw
        case rel => exact ⟨i + 1, by omega, by go_num, by unfold Hid; rw [HTK.out]; exact .inr HI2.out, HB2⟩
        case measure => simp [intOf]; omega
      · rw [hBY, if_neg hst] at HTK
        rw [Bool.eq_false_iff.2 hst] at has1
        clear hBY hst
        have hc256 := s[i].toNat_lt
        have h15 := Qr.and15 s[i]
        have i1 : (0 : Int) ≤ (s[i].toNat : Int) / 16 ∧ (s[i].toNat : Int) / 16 < 16 := by omega
        have i2 : (0 : Int) ≤ (s[i].toNat : Int) % 16 ∧ (s[i].toNat : Int) % 16 < 16 := by omega
        have y1 : ∀ h : ((s[i].toNat : Int) / 16).toNat < 16, (⟨#[48, 49, 50, 51, 52, 53, 54, 55, 56, 57, 65, 66, 67, 68, 69, 70]⟩ : ByteArray)[((s[i].toNat : Int) / 16).toNat]'h = Ug.hex (s[i].toNat / 16) := fun h => by
          have e : ((s[i].toNat : Int) / 16).toNat = s[i].toNat / 16 := by omega
          simp only [e]
          exact Qr.dig _ (by omega) _
        have y2 : ∀ h : ((s[i].toNat : Int) % 16).toNat < 16, (⟨#[48, 49, 50, 51, 52, 53, 54, 55, 56, 57, 65, 66, 67, 68, 69, 70]⟩ : ByteArray)[((s[i].toNat : Int) % 16).toNat]'h = Ug.hex (s[i].toNat % 16) := fun h => by
          have e : ((s[i].toNat : Int) % 16).toNat = s[i].toNat % 16 := by omega
          simp only [e]
          exact Qr.dig _ (by omega) _
        go_wp2_with (go_at_call 24; refine has1.mono ?_; rintro e w1 ⟨rfl, hb1⟩; have HB1 := Lib.hid hb1; clear hb1 x0 x1 x2 x3)
        refine (Sh.Builder_WriteByte_k (w.heap.size + 1) (w.heap.size + 1) _ _ w1 (Wk.isF_below HI.out HB1.out) (by rw [Lib.byteCells_length]; have := HN3.out; omega) (by have := HB1.out.size; omega)).mono ?_
        rintro e w2 ⟨rfl, hI2, hb2, _⟩
        rw [show (Value.int .u8 37) = .int .u8 ((37 : UInt8).toNat : Int) from rfl, Up.cat1] at hI2
        have HB2 : Hid (Below (w.heap.size + 1) (w.alloc (.cells #[.int .u64 a0, .int .u64 a1, .int .u64 a2, .int .u64 a3] 38)) w2) := (HB.out.trans (HB1.out.mono hws)).trans hb2
        have HI2 := Lib.hid hI2
        clear hI2 hb2 HI HB has1 HB1
        go_wp2_with fail
        refine (Sh.Builder_WriteByte_k (w.heap.size + 1) (w.heap.size + 1) _ _ w2 (.inr HI2.out) (by rw [Lib.byteCells_length, List.length_append]; have := HN3.out; simp; omega) (by have := HB2.out.size; simpa using this)).mono ?_
        rintro e w3 ⟨rfl, hI3, hb3, _⟩
        rw [Up.cat1] at hI3
        have HB3 := Lib.hid (HB2.out.trans hb3)
        have HI3 := Lib.hid hI3
        clear hI3 hb3 HI2 HB2
        go_wp2_with fail
        refine (Sh.Builder_WriteByte_k (w.heap.size + 1) (w.heap.size + 1) _ _ w3 (.inr HI3.out) (by rw [Lib.byteCells_length, List.length_append, List.length_append]; have := HN3.out; simp; omega) (by have := HB3.out.size; simpa using this)).mono ?_
        rintro e w4 ⟨rfl, hI4, hb4, _⟩
        rw [Up.cat1] at hI4
        have HB4 := Lib.hid (HB3.out.trans hb4)
        have HI4 := Lib.hid hI4
        clear hI4 hb4 HI3 HB3
        go_wp2
        go_roundw
        case rel => exact ⟨i + 1, by omega, by go_num, by unfold Hid; rw [HTK.out]; have := HI4.out; simp only [List.append_assoc, List.cons_append, List.nil_append] at this; exact .inr this, HB4⟩
        case measure => simp [intOf]; omega
    · have e : i = s.size := by omega
      subst e
      have d1 : decide ((s.size : Int) < (s.size : Int)) = false := decide_eq_false (by omega)
      have HTT : Hid (s.data.toList.take s.size = s.data.toList) := List.take_of_length_le (by rw [Wk.len_data]; exact Nat.le_refl _)
      rw [HTT.out, HRR.out] at HI
      go_wp2_with (go_at_call 38; refine (Sh.Builder_String_any_k (w.heap.size + 1) (w.heap.size + 1) RR _ HI.out hws).mono ?_; rintro e w1 ⟨rfl, _, hb1, _⟩; have HB1 := Lib.hid hb1; clear hb1)
      go_ret
      exact ⟨rfl, ((Below.refl _ _).alloc (Nat.le_refl _) _).trans ((HB.out.trans HB1.out).mono (Nat.le_succ _))⟩
theorem Up.isLetter (c : UInt8) (w : World) : Calls Tryd.prog 23 #[.int .u8 (c.toNat : Int)] w fun e w' => e = .returned (.bool (Pl.letter c)) ∧ w' = w := by
  have HL : Hid (Pl.letter c = (decide (65 ≤ c.toNat) && decide (c.toNat ≤ 90) || decide (97 ≤ c.toNat) && decide (c.toNat ≤ 122))) :=
    eq_of_beq (Ug.all (p := fun c => Pl.letter c == (decide (65 ≤ c.toNat) && decide (c.toNat ≤ 90) || decide (97 ≤ c.toNat) && decide (c.toNat ≤ 122))) (by decide +kernel) c)
  generalize c.toNat = m at *
  generalize Pl.letter c = b at *
  by_cases h1 : 65 ≤ m
  · by_cases h2 : m ≤ 90
    · have hb : b = true := by rw [HL.out]; simp [h1, h2]
      subst hb
      clear HL
      go_enter Tryd.func23, Tryd.ntmps23
      go_wp2
      go_ret
      exact ⟨by first | rfl | (simp; omega), rfl⟩
    · by_cases h3 : 97 ≤ m
      · by_cases h4 : m ≤ 122
        · have hb : b = true := by rw [HL.out]; simp [h3, h4]
          subst hb
          clear HL
          go_enter Tryd.func23, Tryd.ntmps23
          go_wp2
          go_ret
          exact ⟨by first | rfl | (simp; omega), rfl⟩
        · have hb : b = false := by rw [HL.out]; simp [h2, h4]
          subst hb
          clear HL
          go_enter Tryd.func23, Tryd.ntmps23
          go_wp2
          go_ret
          exact ⟨by first | rfl | (simp; omega), rfl⟩
      · have hb : b = false := by rw [HL.out]; simp [h2, h3]
        subst hb
        clear HL
        go_enter Tryd.func23, Tryd.ntmps23
        go_wp2
        go_ret
        exact ⟨by first | rfl | (simp; omega), rfl⟩
  · have hb : b = false := by rw [HL.out]; simp [h1]; omega
    subst hb
    clear HL
    have h3 : ¬ 97 ≤ m := by omega
    go_enter Tryd.func23, Tryd.ntmps23
    go_wp2
    go_ret
    exact ⟨by first | rfl | (simp; omega), rfl⟩
theorem Up.eq_dec (c d : UInt8) : ((c.toNat : Int) == (d.toNat : Int)) = decide (c = d) := by
  by_cases h : c = d
  · rw [h]; simp
  · rw [decide_eq_false h, beq_eq_false_iff_ne]
    exact fun q => h (UInt8.toNat_inj.1 (by omega))
theorem Up.isLineByte (c : UInt8) (w : World) : Calls Tryd.prog 22 #[.int .u8 (c.toNat : Int)] w fun e w' => e = .returned (.bool (Ug.gap c)) ∧ w' = w := by
  have e1 : ((c.toNat : Int) == 9) = decide (c = 9) := Up.eq_dec c 9
  have e2 : ((c.toNat : Int) == 10) = decide (c = 10) := Up.eq_dec c 10
  have e3 : ((c.toNat : Int) == 13) = decide (c = 13) := Up.eq_dec c 13
  unfold Ug.gap
  generalize decide (c = 9) = b1 at *
  generalize decide (c = 10) = b2 at *
  generalize decide (c = 13) = b3 at *
  generalize (c.toNat : Int) = n at *
  cases b1 <;> cases b2 <;> cases b3
  all_goals
    go_enter Tryd.func22, Tryd.ntmps22
    go_wp2
    go_ret
    exact ⟨rfl, rfl⟩
theorem Up.isSafe (l : List UInt8) (w : World) :
    Calls Tryd.prog 28 #[.string ⟨l.toArray⟩] w fun e w' => e = .returned (.bool (Ug.known l)) ∧ w' = w := by
  have hK : Ug.known l = (decide (l = Ug.http) || decide (l = Ug.https) || decide (l = Ug.mailto) || decide (l = Ug.tel)) := rfl
  have e1 : ((⟨l.toArray⟩ : ByteArray).toList == [104, 116, 116, 112]) = decide (l = Ug.http) := Qr.lit l _
  have e2 : ((⟨l.toArray⟩ : ByteArray).toList == [104, 116, 116, 112, 115]) = decide (l = Ug.https) := Qr.lit l _
  have e3 : ((⟨l.toArray⟩ : ByteArray).toList == [109, 97, 105, 108, 116, 111]) = decide (l = Ug.mailto) := Qr.lit l _
  have e4 : ((⟨l.toArray⟩ : ByteArray).toList == [116, 101, 108]) = decide (l = Ug.tel) := Qr.lit l _
  generalize (⟨l.toArray⟩ : ByteArray) = S at *
  rw [hK]
  clear hK
  generalize decide (l = Ug.http) = b1 at *
  generalize decide (l = Ug.https) = b2 at *
  generalize decide (l = Ug.mailto) = b3 at *
  generalize decide (l = Ug.tel) = b4 at *
  cases b1 <;> cases b2 <;> cases b3 <;> cases b4
  all_goals
    go_enter Tryd.func28, Tryd.ntmps28
    go_wp2
    go_ret
    exact ⟨rfl, rfl⟩
end Go.Proofs.YtfjhbhddfpkebaaDoor

/-
  THE WALK of url.Scheme.
-/
import Derived.Test.YtfjhbhddfpkebaaDoorQTell
import Derived.Test.YtfjhbhddfpkebaaDoorQWrite
import Derived.Test.YtfjhbhddfpkebaaDoorQLow
namespace Go.Proofs.YtfjhbhddfpkebaaDoor
open Go.RowKit
def Up.SB : List UInt8 := [65, 66, 67, 68, 69, 70, 71, 72, 73, 74, 75, 76, 77, 78, 79, 80, 81, 82, 83, 84, 85, 86, 87, 88, 89, 90, 97, 98, 99, 100, 101, 102].append [103, 104, 105, 106, 107, 108, 109, 110, 111, 112, 113, 114, 115, 116, 117, 118, 119, 120, 121, 122, 48, 49, 50, 51, 52, 53, 54, 55, 56, 57, 43, 45, 46]
theorem Up.SB_has (c : UInt8) : Bs.has Up.SB c = Ug.sign c :=
  eq_of_beq (Ug.all (p := fun c => Bs.has Up.SB c == Ug.sign c) (by decide +kernel) c)
theorem Rb.on {w w' : World} {base n : Nat} {v : Value} {xs : List Value} (h : w.ownsRow base 5 1 v n xs) (hb : Below w.heap.size w w') : w'.ownsRow base 5 1 v n xs :=
  h.kept (row := none) ⟨hb.os, hb.tape, hb.output, hb.size, fun k hk _ => hb.block k hk⟩ (Classical.em _)
/-- the walk's memory: the set's block, the name -/
structure Up.Mem (w1 : World) (a0 a1 a2 a3 : Int) (wr : World) (v : Value) (N : List UInt8) : Prop where
  box : Bs.Box wr w1.heap.size #[.int .u64 a0, .int .u64 a1, .int .u64 a2, .int .u64 a3] 38
  own : wr.ownsRow (w1.heap.size + 1) 5 1 v N.length (Lib.byteCells N)
  back : Below w1.heap.size w1 wr
theorem Up.Mem.on {w1 : World} {a0 a1 a2 a3 : Int} {wr w' : World} {v : Value} {N : List UInt8} (h : Up.Mem w1 a0 a1 a2 a3 wr v N) (hb : Below wr.heap.size wr w') : Up.Mem w1 a0 a1 a2 a3 w' v N :=
  ⟨h.box.on hb h.box.lt, Rb.on h.own hb, Wk.below_step h.back hb⟩
theorem Up.Mem.push {w1 : World} {a0 a1 a2 a3 : Int} {wr w5 : World} {v v5 : Value} {N N' : List UInt8} {o : Obj} (h : Up.Mem w1 a0 a1 a2 a3 wr v N) (hR : w5.ownsRow (w1.heap.size + 1) 5 1 v5 N'.length (Lib.byteCells N')) (hg : (wr.alloc o).grownBy w5 v.ownBlock) : Up.Mem w1 a0 a1 a2 a3 w5 v5 N' := by
  have hlt := h.box.lt
  have hB : Below (w1.heap.size + 1) wr w5 := ((Below.refl _ _).alloc (by omega) _).grown hg (by simp; omega) (fun k hk => (h.own.lt k hk).1)
  exact ⟨h.box.on hB (Nat.lt_succ_self _), hR, h.back.trans (hB.mono (Nat.le_succ _))⟩
set_option maxRecDepth 100000 in
set_option maxHeartbeats 4000000 in
theorem Up.scheme (s : ByteArray) (w : World) (hs : s.size ≤ 1099511627776) :
    Calls Tryd.prog 9 #[.string s] w fun e w' => e = .returned (.tuple #[.string ⟨((Ug.scheme s.data.toList).getD []).toArray⟩, .bool (Ug.scheme s.data.toList).isSome]) ∧ Below w.heap.size w w' := by
  obtain ⟨R, hR⟩ : ∃ R, Ug.scheme s.data.toList = R := ⟨_, rfl⟩
  rw [hR]
  have HR := Lib.hid hR
  clear hR
  obtain ⟨a0, a1, a2, a3, of1, has1⟩ := Bs.set ⟨Up.SB.toArray⟩ (by decide) Ug.sign Up.SB_has
  unfold Up.SB at of1
  have lin1 := fun c u => Up.isLineByte c u
  have let1 := fun c u => Up.isLetter c u
  go_enter Tryd.func9, Tryd.ntmps9
  go_wp2_with (go_at_call 21; refine (of1 _).mono ?_; rintro e w1 ⟨rfl, hb1⟩; have HW1 := Lib.hid hb1; clear hb1 of1)
  go_loopw [4, 11] (fun ov ix wr => ∃ (i : Nat) (N : List UInt8), i ≤ s.size ∧ ix = .int .i64 (i : Int) ∧ Hid (Uq.At s.data.toList i N) ∧ Hid (Up.Mem w1 a0 a1 a2 a3 wr ov N)) (fun _ ix _ => s.size - (intOf ix).toNat)
  case atStart => exact ⟨0, [], Nat.zero_le _, rfl, Uq.zero _, ⟨Bs.Box.new _ _ _ _ rfl, World.ownsRow_nil _ _ _ _, (Below.refl _ _).alloc (Nat.le_refl _) _⟩⟩
  case round =>
    obtain ⟨i, N, hi, rfl, HA, HM⟩ := hrel
    obtain ⟨oa, od, rfl⟩ := Rb.form HM.out.own
    have HNL : Hid (N.length ≤ 1099511627776) := by
      have h1 := Uq.len HA.out
      rw [Wk.len_data] at h1
      unfold Hid
      omega
    have hnl := HNL.out
    by_cases hlt : i < s.size
    · have d1 : decide ((i : Int) < (s.size : Int)) = true := decide_eq_true (by omega)
      have HC := Lib.hid (Qr.at hlt)
      have HN1 : Hid (N.length + 1 ≤ 140737488355328) := by have := HNL.out; unfold Hid; omega
      have x0 : wr.cell? ⟨w1.heap.size, 0, none⟩ = some (.int .u64 a0) := HM.out.box.cell 0 rfl
      have x1 : wr.cell? ⟨w1.heap.size, 1, none⟩ = some (.int .u64 a1) := HM.out.box.cell 1 rfl
      have x2 : wr.cell? ⟨w1.heap.size, 2, none⟩ = some (.int .u64 a2) := HM.out.box.cell 2 rfl
      have x3 : wr.cell? ⟨w1.heap.size, 3, none⟩ = some (.int .u64 a3) := HM.out.box.cell 3 rfl
      have lin1 := lin1 s[i]
      have let1 := let1 s[i]
      have has1 := has1 s[i]
      have e58 : ((s[i].toNat : Int) == 58) = decide (s[i] = 58) := Up.eq_dec _ 58
      by_cases h0 : N = []
      · have z1 : ((N.length : Int) == 0) = true := by rw [h0]; rfl
        have z2 : ¬ 0 < N.length := by rw [h0]; decide
        by_cases h32 : s[i].toNat ≤ 32
        · have d2 : decide ((s[i].toNat : Int) ≤ 32) = true := decide_eq_true (by omega)
          have HA2 := Lib.hid (Uq.skip HA.out HC.out (.inl ⟨h0, h32⟩))
          clear HA h0 e58
          go_wp2_with (first | (go_at_call 22; refine (lin1 _).mono ?_; rintro e w' ⟨rfl, hw⟩; have hw := hw.symm; subst hw) | (go_at_call 23; refine (let1 _).mono ?_; rintro e w' ⟨rfl, hw⟩; have hw := hw.symm; subst hw))
          go_roundw
          case rel => exact ⟨i + 1, N, by omega, by go_num, HA2, HM⟩
          case measure => simp [intOf]; omega
        · have d2 : decide ((s[i].toNat : Int) ≤ 32) = false := decide_eq_false (by omega)
          have hg : Ug.gap s[i] = false := by
            cases q : Ug.gap s[i]
            · rfl
            · exact absurd (Uq.gap_small _ q) h32
          rw [hg] at lin1
          by_cases hl : Pl.letter s[i] = true
          · rw [hl] at let1
            have HA2 := Lib.hid (Uq.push HA.out HC.out (fun _ => h32) hg (.inl hl))
            clear HA h0 hl hg e58
            go_wp2_with (first | (go_at_call 22; refine (lin1 _).mono ?_; rintro e w' ⟨rfl, hw⟩; have hw := hw.symm; subst hw) | (go_at_call 23; refine (let1 _).mono ?_; rintro e w' ⟨rfl, hw⟩; have hw := hw.symm; subst hw) | (at_builtin; refine Rb.push rfl _ _ rfl _ rfl (HM.out.own.alloc _) wr.heap.size [s[i]] 1 rfl rfl (Rb.new wr #[.int .u8 (s[i].toNat : Int)] 5 _ rfl) HN1.out (by have := HM.out.box.lt; simp; omega) ?_; intro v5 w5 R5 hg5; have HM5 := Lib.hid (HM.out.push R5 hg5); clear R5 hg5))
            go_roundw
            case rel => exact ⟨i + 1, _, by omega, by go_num, HA2, HM5⟩
            case measure => simp [intOf]; omega
          · rw [Bool.eq_false_iff.2 hl] at let1
            have q := HR.out.symm.trans (Uq.no HA.out HC.out (fun _ => h32) hg (Bool.eq_false_iff.2 hl) (fun q => absurd h0 q))
            subst q
            clear HA HR h0 hl hg e58
            go_wp2_with (first | (go_at_call 22; refine (lin1 _).mono ?_; rintro e w' ⟨rfl, hw⟩; have hw := hw.symm; subst hw) | (go_at_call 23; refine (let1 _).mono ?_; rintro e w' ⟨rfl, hw⟩; have hw := hw.symm; subst hw))
            go_ret2
            exact ⟨rfl, HW1.out.trans (HM.out.back.mono HW1.out.size)⟩
      · have hp : 0 < N.length := List.length_pos_iff.2 h0
        have z1 : ((N.length : Int) == 0) = false := by rw [beq_eq_false_iff_ne]; omega
        by_cases hg : Ug.gap s[i] = true
        · rw [hg] at lin1
          have HA2 := Lib.hid (Uq.skip HA.out HC.out (.inr hg))
          clear HA h0 hg e58
          go_wp2_with (first | (go_at_call 22; refine (lin1 _).mono ?_; rintro e w' ⟨rfl, hw⟩; have hw := hw.symm; subst hw) | (go_at_call 23; refine (let1 _).mono ?_; rintro e w' ⟨rfl, hw⟩; have hw := hw.symm; subst hw))
          go_roundw
          case rel => exact ⟨i + 1, N, by omega, by go_num, HA2, HM⟩
          case measure => simp [intOf]; omega
        · have hg := Bool.eq_false_iff.2 hg
          rw [hg] at lin1
          by_cases hl : Pl.letter s[i] = true
          · rw [hl] at let1
            have HA2 := Lib.hid (Uq.push HA.out HC.out (fun q => absurd q h0) hg (.inl hl))
            clear HA h0 hl hg e58
            go_wp2_with (first | (go_at_call 22; refine (lin1 _).mono ?_; rintro e w' ⟨rfl, hw⟩; have hw := hw.symm; subst hw) | (go_at_call 23; refine (let1 _).mono ?_; rintro e w' ⟨rfl, hw⟩; have hw := hw.symm; subst hw) | (at_builtin; refine Rb.push rfl _ _ rfl _ rfl (HM.out.own.alloc _) wr.heap.size [s[i]] 1 rfl rfl (Rb.new wr #[.int .u8 (s[i].toNat : Int)] 5 _ rfl) HN1.out (by have := HM.out.box.lt; simp; omega) ?_; intro v5 w5 R5 hg5; have HM5 := Lib.hid (HM.out.push R5 hg5); clear R5 hg5))
            go_roundw
            case rel => exact ⟨i + 1, _, by omega, by go_num, HA2, HM5⟩
            case measure => simp [intOf]; omega
          · have hl := Bool.eq_false_iff.2 hl
            rw [hl] at let1
            by_cases hsg : Ug.sign s[i] = true
            · rw [hsg] at has1
              have HA2 := Lib.hid (Uq.push HA.out HC.out (fun q => absurd q h0) hg (.inr ⟨h0, hsg⟩))
              clear HA h0 hl hg hsg e58
              go_wp2_with (first | (go_at_call 22; refine (lin1 _).mono ?_; rintro e w' ⟨rfl, hw⟩; have hw := hw.symm; subst hw) | (go_at_call 23; refine (let1 _).mono ?_; rintro e w' ⟨rfl, hw⟩; have hw := hw.symm; subst hw) | (go_at_call 24; refine (has1 _).mono ?_; rintro e w3 ⟨rfl, hb3⟩; have HM3 := Lib.hid (HM.out.on hb3); clear hb3 x0 x1 x2 x3) | (at_builtin; refine Rb.push rfl _ _ rfl _ rfl (HM3.out.own.alloc _) w3.heap.size [s[i]] 1 rfl rfl (Rb.new w3 #[.int .u8 (s[i].toNat : Int)] 5 _ rfl) HN1.out (by have := HM3.out.box.lt; simp; omega) ?_; intro v5 w5 R5 hg5; have HM5 := Lib.hid (HM3.out.push R5 hg5); clear R5 hg5))
              go_roundw
              case rel => exact ⟨i + 1, _, by omega, by go_num, HA2, HM5⟩
              case measure => simp [intOf]; omega
            · have hsg := Bool.eq_false_iff.2 hsg
              rw [hsg] at has1
              by_cases h58 : s[i] = 58
              · rw [decide_eq_true h58] at e58
                have HC2 := HC.out
                rw [h58] at HC2
                have q := HR.out.symm.trans (Uq.colon HA.out HC2 h0)
                subst q
                have lw := fun u => Wk.lower ⟨N.toArray⟩ u (by show N.length ≤ _; have := HNL.out; omega)
                clear HA HR h0 hl hg hsg h58 HC2 HC
                go_wp2_with (first | (go_at_call 22; refine (lin1 _).mono ?_; rintro e w' ⟨rfl, hw⟩; have hw := hw.symm; subst hw) | (go_at_call 23; refine (let1 _).mono ?_; rintro e w' ⟨rfl, hw⟩; have hw := hw.symm; subst hw) | (go_at_call 24; refine (has1 _).mono ?_; rintro e w3 ⟨rfl, hb3⟩; have HM3 := Lib.hid (HM.out.on hb3); have hcv := Rn.conv HM3.out.own; clear hb3 x0 x1 x2 x3) | (go_at_call 25; refine (lw _).mono ?_; rintro e w4 ⟨rfl, hb4⟩; have HB4 := Lib.hid hb4; clear hb4))
                go_ret2
                exact ⟨rfl, (HW1.out.trans (HM3.out.back.mono HW1.out.size)).trans (HB4.out.mono (Nat.le_trans HW1.out.size HM3.out.back.size))⟩
              · have q := HR.out.symm.trans (Uq.no HA.out HC.out (fun q => absurd q h0) hg hl (fun _ => ⟨hsg, h58⟩))
                subst q
                rw [decide_eq_false h58] at e58
                clear HA HR h0 hl hg hsg h58 HC
                go_wp2_with (first | (go_at_call 22; refine (lin1 _).mono ?_; rintro e w' ⟨rfl, hw⟩; have hw := hw.symm; subst hw) | (go_at_call 23; refine (let1 _).mono ?_; rintro e w' ⟨rfl, hw⟩; have hw := hw.symm; subst hw) | (go_at_call 24; refine (has1 _).mono ?_; rintro e w3 ⟨rfl, hb3⟩; have HM3 := Lib.hid (HM.out.on hb3); clear hb3 x0 x1 x2 x3))
                go_ret2
                exact ⟨rfl, HW1.out.trans (HM3.out.back.mono HW1.out.size)⟩
    · have d1 : decide ((i : Int) < (s.size : Int)) = false := decide_eq_false (by omega)
      have q := HR.out.symm.trans (Uq.over HA.out (by rw [Wk.len_data]; omega))
      subst q
      clear HR HA
      go_wp2
      go_ret2
      exact ⟨rfl, HW1.out.trans (HM.out.back.mono HW1.out.size)⟩
end Go.Proofs.YtfjhbhddfpkebaaDoor

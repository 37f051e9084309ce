/-
  THE WALK of stolelaw7.TreeForms, cases 4, 5, 6.
-/
import Derived.Test.YthfobjkdcncoiaaUFm
import Derived.Test.YthfobjkdcncoiaaTreeDeep
namespace Go.Proofs.Ythfobjkdcncoiaa
open Go.RowKit
set_option maxRecDepth 100000 in
set_option maxHeartbeats 8000000 in
theorem Fm.case4 (n x : Int) (w : World) (u : Nat) (hu : IntKind.u64.wrap n = (u : Int)) (_hu2 : u < 18446744073709551616) (hi : (u : Int) % 11 = 4) :
    Calls Try.prog 6 #[.int .i64 n, .int .i64 x] w fun e w' => e = .returned (.bool true) ∧ Below w.heap.size w w' := by
  obtain ⟨dd, hd, hd65, hd1⟩ : ∃ dd : Nat, 1 + x % 64 = (dd : Int) ∧ dd < 65 ∧ 1 ≤ dd := ⟨(1 + x % 64).toNat, by omega, by omega, by omega⟩
  have h6 := Dp.and6 x
  have hw1 : IntKind.i64.wrap (1 + x % 64) = (dd : Int) := by rw [IntKind.wrap_i64]; omega
  have hw2 : IntKind.i64.wrap (3 + (dd : Int)) = 3 + (dd : Int) := by rw [IntKind.wrap_i64]; omega
  have hw3 : IntKind.i64.wrap (-(dd : Int)) = -(dd : Int) := by rw [IntKind.wrap_i64]; omega
  obtain ⟨mm, hmm⟩ : ∃ mm : Nat, mm = 32 + dd := ⟨_, rfl⟩
  have hm32 : 32 < mm := by omega
  have hm100 : mm ≤ 1000 := by omega
  have hw4 : IntKind.i64.wrap (32 + (dd : Int)) = (mm : Int) := by rw [IntKind.wrap_i64]; omega
  clear hmm
  have aw := Ta.awake w
  clear hd
  go_enter Try.func6, Try.ntmps6
  go_upto_region 5 with (go_at_call 15; refine aw.mono ?_; rintro e w1 ⟨rfl, q1⟩; clear aw)
  obtain ⟨W, hW⟩ : ∃ W, (w1.alloc (.cells #[.string ⟨#[97]⟩, .string ⟨#[]⟩, .string ⟨#[98]⟩, .string ⟨#[]⟩] 48)).alloc (.cells #[.int .i64 1, .string ⟨#[112]⟩, .string ⟨#[]⟩, .slice (some ⟨w1.heap.size, 0, none⟩) 2 2, .bool false] 41) = W := ⟨_, rfl⟩
  have hA : W.heap[w1.heap.size]? = some (.cells #[.string ⟨#[97]⟩, .string ⟨#[]⟩, .string ⟨#[98]⟩, .string ⟨#[]⟩] 48) := by rw [← hW]; exact (Below.heap_alloc _ _ _ (by simp)).trans (heap_alloc_new w1 _)
  have hT : W.heap[w1.heap.size + 1]? = some (.cells #[.int .i64 1, .string ⟨#[112]⟩, .string ⟨#[]⟩, .slice (some ⟨w1.heap.size, 0, none⟩) 2 2, .bool false] 41) := by
    rw [← hW]
    have := heap_alloc_new (w1.alloc (.cells #[.string ⟨#[97]⟩, .string ⟨#[]⟩, .string ⟨#[98]⟩, .string ⟨#[]⟩] 48)) (.cells #[.int .i64 1, .string ⟨#[112]⟩, .string ⟨#[]⟩, .slice (some ⟨w1.heap.size, 0, none⟩) 2 2, .bool false] 41)
    rwa [show (w1.alloc (.cells #[.string ⟨#[97]⟩, .string ⟨#[]⟩, .string ⟨#[98]⟩, .string ⟨#[]⟩] 48)).heap.size = w1.heap.size + 1 by simp] at this
  have qW : Below w.heap.size w W := by rw [← hW]; exact (q1.alloc q1.size _).alloc (by simp; have := q1.size; omega) _
  have hsW : w1.heap.size + 1 < W.heap.size := by rw [← hW]; simp
  have hsw := q1.size
  rw [hW]
  clear hW q1
  generalize w1.heap.size = A at *
  have hl1 : Ak.Lies W (· < W.heap.size) Fm.ab (.slice (some ⟨A, 0, none⟩) 2 2) := Ak.Lies.lit Fm.ab _ hA rfl (by show A < W.heap.size; omega) (by decide)
  have ok1 := Fm.okTok W A hl1
  have kt0 : W.cell? ⟨A + 1, 0, none⟩ = some (.int .i64 1) := by unfold World.cell?; rw [hT]; rfl
  have kt1 : W.cell? ⟨A + 1, 1, none⟩ = some (.string ⟨#[112]⟩) := by unfold World.cell?; rw [hT]; rfl
  have kt2 : W.cell? ⟨A + 1, 2, none⟩ = some (.string ⟨#[]⟩) := by unfold World.cell?; rw [hT]; rfl
  have kt3 : W.cell? ⟨A + 1, 3, none⟩ = some (.slice (some ⟨A, 0, none⟩) 2 2) := by unfold World.cell?; rw [hT]; rfl
  have kt4 : W.cell? ⟨A + 1, 4, none⟩ = some (.bool false) := by unfold World.cell?; rw [hT]; rfl
  have ktf : ∀ j, W.frozen? ⟨A + 1, j, none⟩ = false := fun j => by unfold World.frozen?; rw [hT]; simp
  have ka0 : W.cell? ⟨A, 0, none⟩ = some (.string ⟨#[97]⟩) := by unfold World.cell?; rw [hA]; rfl
  have ka1 : W.cell? ⟨A, 1, none⟩ = some (.string ⟨#[]⟩) := by unfold World.cell?; rw [hA]; rfl
  have ka2 : W.cell? ⟨A, 2, none⟩ = some (.string ⟨#[98]⟩) := by unfold World.cell?; rw [hA]; rfl
  have ka3 : W.cell? ⟨A, 3, none⟩ = some (.string ⟨#[]⟩) := by unfold World.cell?; rw [hA]; rfl
  have kaf : ∀ j, W.frozen? ⟨A, j, none⟩ = false := fun j => by unfold World.frozen?; rw [hA]; simp
  clear hA hT
  have HL1 := Lib.hid hl1
  have nA : A ≠ A + 1 := by omega
  have nA' : A + 1 ≠ A := by omega
  clear hl1
  go_upto_region 6 with (go_at_call 9; refine ok1.mono ?_; rintro e w2 ⟨a2, d2, rfl, b2⟩; clear ok1; have t0 := Tp.keep b2 kt0; have t1 := Tp.keep b2 kt1; have t2 := Tp.keep b2 kt2; have t3 := Tp.keep b2 kt3; have t4 := Tp.keep b2 kt4; have tf := Tp.keepF b2 hsW ktf; have r0 := Tp.keep b2 ka0; have r1 := Tp.keep b2 ka1; have r2 := Tp.keep b2 ka2; have r3 := Tp.keep b2 ka3; have rf := Tp.keepF b2 (by omega) kaf; have HL2 : Hid (Ak.Lies w2 (· < w2.heap.size) Fm.ab (.slice (some ⟨A, 0, none⟩) 2 2)) := HL1.out.on (fun k hk => ⟨Nat.lt_of_lt_of_le hk b2.size, b2.block k hk⟩); have HQ2 : Hid (Below w.heap.size w w2) := qW.trans (b2.mono qW.size); have hs2 : A + 1 < w2.heap.size := Nat.lt_of_lt_of_le hsW b2.size; clear b2)
  clear kt0 kt1 kt2 kt3 kt4 ktf ka0 ka1 ka2 ka3 kaf HL1 qW hsW
  go_wp2_with fail
  refine (Fm.noTok _ w2.heap.size (by simp) ⟨1, ⟨#[112]⟩, Ts.e, [(⟨#[97]⟩, Ts.e), (⟨#[97]⟩, Ts.e)], false⟩ (some ⟨A, 0, none⟩) 2 2 (Fm.pair _ (by show A < _; simp; omega) (by simp [go_sem, *]) (by simp [go_sem, Ts.e, *]) (by simp [go_sem, *]) (by simp [go_sem, Ts.e, *])) (by show (Ts.e : ByteArray).size ≤ 100; decide) (by rintro (⟨q, _⟩ | ⟨_, _, _, _, q⟩); (rcases q with q | q <;> cases q); exact (q 1 (⟨#[97]⟩, Ts.e) (by decide) rfl).2 0 (⟨#[97]⟩, Ts.e) (by decide) rfl rfl)).mono ?_
  rintro e w3 ⟨rfl, b3⟩
  have HQ3 : Hid (Below w.heap.size w w3) := by
    unfold Hid
    refine Below.trans ?_ (b3.mono (by simp; exact HQ2.out.size))
    repeat (refine Below.setCell ?_ (by first | (show w.heap.size ≤ A + 1; omega) | (show w.heap.size ≤ A; omega)) _)
    exact HQ2.out
  clear b3 t0 t1 t2 t3 t4 tf r0 r1 r2 r3 rf HL2 HQ2 hs2 nA nA' hw2 hw3 hw4 hw1 h6 hi hu
  go_wp2_with fail
  go_loopw [11, 12] (fun out ix wr => ∃ (i : Nat), i ≤ 4095 ∧ ix = .int .i64 (i : Int) ∧ Hid (Rm.Toks w.heap.size (List.replicate i Fm.br) wr out none) ∧ Hid (Below w.heap.size w wr)) (fun _ ix _ => 4095 - (intOf ix).toNat)
  case atStart => exact ⟨0, Nat.zero_le _, rfl, Um.toks_nil _ _, HQ3.out⟩
  case round =>
    clear HQ3
    obtain ⟨i, hi, rfl, HT, HB⟩ := hrel
    obtain ⟨xs, hx⟩ := id HT.out
    obtain ⟨ua, ud, hu⟩ := Ts7.form HT.out
    rw [List.length_replicate] at hu
    subst hu
    have HX := Lib.hid hx
    have HO : Hid (wr.ownsRow w.heap.size 41 5 (.slice ua i ud) i xs) := by have := hx.1; rw [List.length_replicate] at this; exact this
    have hws := HB.out.size
    clear hx
    by_cases hlt : i < 4095
    · have d1 : decide ((i : Int) < 4095) = true := decide_eq_true (by omega)
      go_wp2_with (first | (go_at_call 16; refine (Ts7.start _ _).mono ?_; rintro e w4 ⟨rfl, b4⟩; have HO4 : Hid (w4.ownsRow w.heap.size 41 5 (.slice ua i ud) i xs) := Rm.own_on HO.out (fun k hk => b4.block k (HO.out.lt k hk).2); have s4 := b4.size; have HB4 := Lib.hid b4; clear b4) | (at_builtin; refine Ro.push rfl _ _ 22 41 5 72 _ rfl Try.underlying22 Rm.infoT rfl (by decide) _ rfl (HO4.out.alloc _) w4.heap.size (Rm.five Fm.br (.slice none 0 0)) rfl (Rm.five_cells w4 Fm.br _ _ rfl) rfl (Rm.five_one _ _ _ _) (by unfold maxLen; omega) (by omega) (by simp; omega) ?_))
      intro v5 w5 R5 hg5 hf5
      have hq5 : Below wr.heap.size wr (w4.alloc (.cells #[.int .i64 1, .string ⟨#[98, 114]⟩, .string ⟨#[]⟩, .slice none 0 0, .bool false] 41)) := HB4.out.alloc HB4.out.size _
      have HT5 : Hid (Rm.Toks w.heap.size (List.replicate (i + 1) Fm.br) w5 v5 none) := by
        unfold Hid
        rw [List.replicate_succ']
        exact Ts7.push HT.out hq5 rfl xs HX.out (by rw [List.length_replicate]; exact R5) hg5 (by simpa using hf5)
      have HB5 := Lib.hid ((HB.out.trans (hq5.mono hws)).grown hg5 (by simp; omega) (fun k hk => (HO.out.lt k hk).1))
      clear R5 hg5 hf5 hq5
      go_wp2
      go_roundw
      case rel => exact ⟨i + 1, by omega, by go_num, HT5, HB5⟩
      case measure => simp [intOf]; omega
    · have e : i = 4095 := by omega
      subst e
      have hrun := Fm.run 4095 Bt.start (by decide)
      have hrl : (Bt.run Bt.start (List.replicate 4095 Fm.br)).1.out.length = 4096 := hrun.2
      have bu := Pg.ok (List.replicate 4095 Fm.br) ua ud wr (by have := HT.out.lies; rw [List.length_replicate]; exact this.on fun k hk => ⟨hk.2, rfl⟩) (by rw [Fm.bulk]; decide) (Fm.may 4095) hrun.1
      rw [List.length_replicate, hrl] at bu
      clear hrun hrl
      have d1 : decide (((4095 : Nat) : Int) < 4095) = false := by decide
      go_upto_region 35 with (go_at_call 9; refine bu.mono ?_; rintro e w6 ⟨a6, d6, rfl, l6, b6⟩; clear bu l6; have HB6 := Lib.hid b6; clear b6)
      have HT6 : Hid (Rm.Toks w.heap.size (List.replicate 4095 Fm.br) w6 (.slice ua 4095 ud) none) := HT.out.on HB6.out.size (fun k hk => HB6.out.block k (HO.out.lt k hk).2) (fun k _ h2 _ h4 => ⟨h4, HB6.out.block k h2⟩)
      obtain ⟨xs6, hx6⟩ := id HT6.out
      have HX6 := Lib.hid hx6
      have HO6 : Hid (w6.ownsRow w.heap.size 41 5 (.slice ua 4095 ud) 4095 xs6) := by have := hx6.1; rw [List.length_replicate] at this; exact this
      have HQ6 : Hid (Below w.heap.size w w6) := HB.out.trans (HB6.out.mono hws)
      have hws6 := HQ6.out.size
      clear hx6 HT HX HO HB HB6 hws
      go_wp2_with (first | (go_at_call 16; refine (Ts7.start _ _).mono ?_; rintro e w7 ⟨rfl, b7⟩; have HO7 : Hid (w7.ownsRow w.heap.size 41 5 (.slice ua 4095 ud) 4095 xs6) := Rm.own_on HO6.out (fun k hk => b7.block k (HO6.out.lt k hk).2); have s7 := b7.size; have HB7 := Lib.hid b7; clear b7) | (at_builtin; refine Ro.push rfl _ _ 22 41 5 72 _ rfl Try.underlying22 Rm.infoT rfl (by decide) _ rfl (HO7.out.alloc _) w7.heap.size (Rm.five Fm.br (.slice none 0 0)) rfl (Rm.five_cells w7 Fm.br _ _ rfl) rfl (Rm.five_one _ _ _ _) (by unfold maxLen; omega) (by omega) (by simp; omega) ?_))
      intro v8 w8 R8 hg8 hf8
      have hq8 : Below w6.heap.size w6 (w7.alloc (.cells #[.int .i64 1, .string ⟨#[98, 114]⟩, .string ⟨#[]⟩, .slice none 0 0, .bool false] 41)) := HB7.out.alloc HB7.out.size _
      have hT8 : Rm.Toks w.heap.size (List.replicate 4096 Fm.br) w8 v8 none := by
        rw [show (4096 : Nat) = 4095 + 1 from rfl, List.replicate_succ']
        exact Ts7.push HT6.out hq8 rfl xs6 HX6.out (by rw [List.length_replicate]; exact R8) hg8 (by simpa using hf8)
      have HB8 := Lib.hid ((HQ6.out.trans (hq8.mono hws6)).grown hg8 (by simp; omega) (fun k hk => (HO6.out.lt k hk).1))
      obtain ⟨va, vd, hv8⟩ := Ts7.form hT8
      have bf := Pg.full (List.replicate 4096 Fm.br) va vd w8 (by rw [← hv8]; exact hT8.lies.on fun k hk => ⟨hk.2, rfl⟩) (by rw [Fm.bulk]; decide) (Fm.may 4096) (Fm.full 4096 Bt.start (by decide) (by decide))
      rw [List.length_replicate] at hv8 bf
      subst hv8
      clear R8 hg8 hf8 hq8 hT8
      go_wp2_with (first | (go_at_call 9; refine bf.mono ?_; rintro e w9 ⟨rfl, b9⟩; clear bf; have HB9 := Lib.hid (HB8.out.trans (b9.mono HB8.out.size)); clear b9) | (go_at_call 12; refine (Ta.num _ _).mono ?_; rintro e w' ⟨rfl, hw⟩; have hw := hw.symm; subst hw))
      go_ret
      exact ⟨rfl, HB9.out⟩
set_option maxRecDepth 100000 in
set_option maxHeartbeats 8000000 in
theorem Fm.case5 (n x : Int) (w : World) (u : Nat) (hu : IntKind.u64.wrap n = (u : Int)) (_hu2 : u < 18446744073709551616) (hi : (u : Int) % 11 = 5) :
    Calls Try.prog 6 #[.int .i64 n, .int .i64 x] w fun e w' => e = .returned (.bool true) ∧ Below w.heap.size w w' := by
  obtain ⟨dd, hd, hd65, hd1⟩ : ∃ dd : Nat, 1 + x % 64 = (dd : Int) ∧ dd < 65 ∧ 1 ≤ dd := ⟨(1 + x % 64).toNat, by omega, by omega, by omega⟩
  have h6 := Dp.and6 x
  have hw1 : IntKind.i64.wrap (1 + x % 64) = (dd : Int) := by rw [IntKind.wrap_i64]; omega
  have hw2 : IntKind.i64.wrap (3 + (dd : Int)) = 3 + (dd : Int) := by rw [IntKind.wrap_i64]; omega
  have hw3 : IntKind.i64.wrap (-(dd : Int)) = -(dd : Int) := by rw [IntKind.wrap_i64]; omega
  obtain ⟨mm, hmm⟩ : ∃ mm : Nat, mm = 32 + dd := ⟨_, rfl⟩
  have hm32 : 32 < mm := by omega
  have hm100 : mm ≤ 1000 := by omega
  have hw4 : IntKind.i64.wrap (32 + (dd : Int)) = (mm : Int) := by rw [IntKind.wrap_i64]; omega
  clear hmm
  have aw := Ta.awake w
  clear hd
  go_enter Try.func6, Try.ntmps6
  go_upto_region 5 with (go_at_call 15; refine aw.mono ?_; rintro e w1 ⟨rfl, q1⟩; clear aw)
  obtain ⟨W, hW⟩ : ∃ W, (w1.alloc (.cells #[.string ⟨#[97]⟩, .string ⟨#[]⟩, .string ⟨#[98]⟩, .string ⟨#[]⟩] 48)).alloc (.cells #[.int .i64 1, .string ⟨#[112]⟩, .string ⟨#[]⟩, .slice (some ⟨w1.heap.size, 0, none⟩) 2 2, .bool false] 41) = W := ⟨_, rfl⟩
  have hA : W.heap[w1.heap.size]? = some (.cells #[.string ⟨#[97]⟩, .string ⟨#[]⟩, .string ⟨#[98]⟩, .string ⟨#[]⟩] 48) := by rw [← hW]; exact (Below.heap_alloc _ _ _ (by simp)).trans (heap_alloc_new w1 _)
  have hT : W.heap[w1.heap.size + 1]? = some (.cells #[.int .i64 1, .string ⟨#[112]⟩, .string ⟨#[]⟩, .slice (some ⟨w1.heap.size, 0, none⟩) 2 2, .bool false] 41) := by
    rw [← hW]
    have := heap_alloc_new (w1.alloc (.cells #[.string ⟨#[97]⟩, .string ⟨#[]⟩, .string ⟨#[98]⟩, .string ⟨#[]⟩] 48)) (.cells #[.int .i64 1, .string ⟨#[112]⟩, .string ⟨#[]⟩, .slice (some ⟨w1.heap.size, 0, none⟩) 2 2, .bool false] 41)
    rwa [show (w1.alloc (.cells #[.string ⟨#[97]⟩, .string ⟨#[]⟩, .string ⟨#[98]⟩, .string ⟨#[]⟩] 48)).heap.size = w1.heap.size + 1 by simp] at this
  have qW : Below w.heap.size w W := by rw [← hW]; exact (q1.alloc q1.size _).alloc (by simp; have := q1.size; omega) _
  have hsW : w1.heap.size + 1 < W.heap.size := by rw [← hW]; simp
  have hsw := q1.size
  rw [hW]
  clear hW q1
  generalize w1.heap.size = A at *
  have hl1 : Ak.Lies W (· < W.heap.size) Fm.ab (.slice (some ⟨A, 0, none⟩) 2 2) := Ak.Lies.lit Fm.ab _ hA rfl (by show A < W.heap.size; omega) (by decide)
  have ok1 := Fm.okTok W A hl1
  have kt0 : W.cell? ⟨A + 1, 0, none⟩ = some (.int .i64 1) := by unfold World.cell?; rw [hT]; rfl
  have kt1 : W.cell? ⟨A + 1, 1, none⟩ = some (.string ⟨#[112]⟩) := by unfold World.cell?; rw [hT]; rfl
  have kt2 : W.cell? ⟨A + 1, 2, none⟩ = some (.string ⟨#[]⟩) := by unfold World.cell?; rw [hT]; rfl
  have kt3 : W.cell? ⟨A + 1, 3, none⟩ = some (.slice (some ⟨A, 0, none⟩) 2 2) := by unfold World.cell?; rw [hT]; rfl
  have kt4 : W.cell? ⟨A + 1, 4, none⟩ = some (.bool false) := by unfold World.cell?; rw [hT]; rfl
  have ktf : ∀ j, W.frozen? ⟨A + 1, j, none⟩ = false := fun j => by unfold World.frozen?; rw [hT]; simp
  have ka0 : W.cell? ⟨A, 0, none⟩ = some (.string ⟨#[97]⟩) := by unfold World.cell?; rw [hA]; rfl
  have ka1 : W.cell? ⟨A, 1, none⟩ = some (.string ⟨#[]⟩) := by unfold World.cell?; rw [hA]; rfl
  have ka2 : W.cell? ⟨A, 2, none⟩ = some (.string ⟨#[98]⟩) := by unfold World.cell?; rw [hA]; rfl
  have ka3 : W.cell? ⟨A, 3, none⟩ = some (.string ⟨#[]⟩) := by unfold World.cell?; rw [hA]; rfl
  have kaf : ∀ j, W.frozen? ⟨A, j, none⟩ = false := fun j => by unfold World.frozen?; rw [hA]; simp
  clear hA hT
  have HL1 := Lib.hid hl1
  have nA : A ≠ A + 1 := by omega
  have nA' : A + 1 ≠ A := by omega
  clear hl1
  go_upto_region 6 with (go_at_call 9; refine ok1.mono ?_; rintro e w2 ⟨a2, d2, rfl, b2⟩; clear ok1; have t0 := Tp.keep b2 kt0; have t1 := Tp.keep b2 kt1; have t2 := Tp.keep b2 kt2; have t3 := Tp.keep b2 kt3; have t4 := Tp.keep b2 kt4; have tf := Tp.keepF b2 hsW ktf; have r0 := Tp.keep b2 ka0; have r1 := Tp.keep b2 ka1; have r2 := Tp.keep b2 ka2; have r3 := Tp.keep b2 ka3; have rf := Tp.keepF b2 (by omega) kaf; have HL2 : Hid (Ak.Lies w2 (· < w2.heap.size) Fm.ab (.slice (some ⟨A, 0, none⟩) 2 2)) := HL1.out.on (fun k hk => ⟨Nat.lt_of_lt_of_le hk b2.size, b2.block k hk⟩); have HQ2 : Hid (Below w.heap.size w w2) := qW.trans (b2.mono qW.size); have hs2 : A + 1 < w2.heap.size := Nat.lt_of_lt_of_le hsW b2.size; clear b2)
  clear kt0 kt1 kt2 kt3 kt4 ktf ka0 ka1 ka2 ka3 kaf HL1 qW hsW
  go_wp2_with fail
  refine (Fm.noTok _ w2.heap.size (by simp) ⟨1, ⟨#[112]⟩, Ts.e, [(Ts.e, Ts.e), (⟨#[98]⟩, Ts.e)], false⟩ (some ⟨A, 0, none⟩) 2 2 (Fm.pair _ (by show A < _; simp; omega) (by simp [go_sem, Ts.e, *]) (by simp [go_sem, Ts.e, *]) (by simp [go_sem, *]) (by simp [go_sem, Ts.e, *])) (by show (Ts.e : ByteArray).size ≤ 100; decide) (by rintro (⟨q, _⟩ | ⟨_, _, _, _, q⟩); (rcases q with q | q <;> cases q); exact (q 0 (Ts.e, Ts.e) (by decide) rfl).1 rfl)).mono ?_
  rintro e w3 ⟨rfl, b3⟩
  have HQ3 : Hid (Below w.heap.size w w3) := by
    unfold Hid
    refine Below.trans ?_ (b3.mono (by simp; exact HQ2.out.size))
    repeat (refine Below.setCell ?_ (by first | (show w.heap.size ≤ A + 1; omega) | (show w.heap.size ≤ A; omega)) _)
    exact HQ2.out
  clear b3 t0 t1 t2 t3 t4 tf r0 r1 r2 r3 rf HL2 HQ2 hs2 nA nA' hw2 hw3 hw4 hw1 h6 hi hu
  go_wp2_with fail
  go_loopw [11, 12] (fun out ix wr => ∃ (i : Nat), i ≤ 4095 ∧ ix = .int .i64 (i : Int) ∧ Hid (Rm.Toks w.heap.size (List.replicate i Fm.br) wr out none) ∧ Hid (Below w.heap.size w wr)) (fun _ ix _ => 4095 - (intOf ix).toNat)
  case atStart => exact ⟨0, Nat.zero_le _, rfl, Um.toks_nil _ _, HQ3.out⟩
  case round =>
    clear HQ3
    obtain ⟨i, hi, rfl, HT, HB⟩ := hrel
    obtain ⟨xs, hx⟩ := id HT.out
    obtain ⟨ua, ud, hu⟩ := Ts7.form HT.out
    rw [List.length_replicate] at hu
    subst hu
    have HX := Lib.hid hx
    have HO : Hid (wr.ownsRow w.heap.size 41 5 (.slice ua i ud) i xs) := by have := hx.1; rw [List.length_replicate] at this; exact this
    have hws := HB.out.size
    clear hx
    by_cases hlt : i < 4095
    · have d1 : decide ((i : Int) < 4095) = true := decide_eq_true (by omega)
      go_wp2_with (first | (go_at_call 16; refine (Ts7.start _ _).mono ?_; rintro e w4 ⟨rfl, b4⟩; have HO4 : Hid (w4.ownsRow w.heap.size 41 5 (.slice ua i ud) i xs) := Rm.own_on HO.out (fun k hk => b4.block k (HO.out.lt k hk).2); have s4 := b4.size; have HB4 := Lib.hid b4; clear b4) | (at_builtin; refine Ro.push rfl _ _ 22 41 5 72 _ rfl Try.underlying22 Rm.infoT rfl (by decide) _ rfl (HO4.out.alloc _) w4.heap.size (Rm.five Fm.br (.slice none 0 0)) rfl (Rm.five_cells w4 Fm.br _ _ rfl) rfl (Rm.five_one _ _ _ _) (by unfold maxLen; omega) (by omega) (by simp; omega) ?_))
      intro v5 w5 R5 hg5 hf5
      have hq5 : Below wr.heap.size wr (w4.alloc (.cells #[.int .i64 1, .string ⟨#[98, 114]⟩, .string ⟨#[]⟩, .slice none 0 0, .bool false] 41)) := HB4.out.alloc HB4.out.size _
      have HT5 : Hid (Rm.Toks w.heap.size (List.replicate (i + 1) Fm.br) w5 v5 none) := by
        unfold Hid
        rw [List.replicate_succ']
        exact Ts7.push HT.out hq5 rfl xs HX.out (by rw [List.length_replicate]; exact R5) hg5 (by simpa using hf5)
      have HB5 := Lib.hid ((HB.out.trans (hq5.mono hws)).grown hg5 (by simp; omega) (fun k hk => (HO.out.lt k hk).1))
      clear R5 hg5 hf5 hq5
      go_wp2
      go_roundw
      case rel => exact ⟨i + 1, by omega, by go_num, HT5, HB5⟩
      case measure => simp [intOf]; omega
    · have e : i = 4095 := by omega
      subst e
      have hrun := Fm.run 4095 Bt.start (by decide)
      have hrl : (Bt.run Bt.start (List.replicate 4095 Fm.br)).1.out.length = 4096 := hrun.2
      have bu := Pg.ok (List.replicate 4095 Fm.br) ua ud wr (by have := HT.out.lies; rw [List.length_replicate]; exact this.on fun k hk => ⟨hk.2, rfl⟩) (by rw [Fm.bulk]; decide) (Fm.may 4095) hrun.1
      rw [List.length_replicate, hrl] at bu
      clear hrun hrl
      have d1 : decide (((4095 : Nat) : Int) < 4095) = false := by decide
      go_upto_region 35 with (go_at_call 9; refine bu.mono ?_; rintro e w6 ⟨a6, d6, rfl, l6, b6⟩; clear bu l6; have HB6 := Lib.hid b6; clear b6)
      have HT6 : Hid (Rm.Toks w.heap.size (List.replicate 4095 Fm.br) w6 (.slice ua 4095 ud) none) := HT.out.on HB6.out.size (fun k hk => HB6.out.block k (HO.out.lt k hk).2) (fun k _ h2 _ h4 => ⟨h4, HB6.out.block k h2⟩)
      obtain ⟨xs6, hx6⟩ := id HT6.out
      have HX6 := Lib.hid hx6
      have HO6 : Hid (w6.ownsRow w.heap.size 41 5 (.slice ua 4095 ud) 4095 xs6) := by have := hx6.1; rw [List.length_replicate] at this; exact this
      have HQ6 : Hid (Below w.heap.size w w6) := HB.out.trans (HB6.out.mono hws)
      have hws6 := HQ6.out.size
      clear hx6 HT HX HO HB HB6 hws
      go_wp2_with (first | (go_at_call 16; refine (Ts7.start _ _).mono ?_; rintro e w7 ⟨rfl, b7⟩; have HO7 : Hid (w7.ownsRow w.heap.size 41 5 (.slice ua 4095 ud) 4095 xs6) := Rm.own_on HO6.out (fun k hk => b7.block k (HO6.out.lt k hk).2); have s7 := b7.size; have HB7 := Lib.hid b7; clear b7) | (at_builtin; refine Ro.push rfl _ _ 22 41 5 72 _ rfl Try.underlying22 Rm.infoT rfl (by decide) _ rfl (HO7.out.alloc _) w7.heap.size (Rm.five Fm.br (.slice none 0 0)) rfl (Rm.five_cells w7 Fm.br _ _ rfl) rfl (Rm.five_one _ _ _ _) (by unfold maxLen; omega) (by omega) (by simp; omega) ?_))
      intro v8 w8 R8 hg8 hf8
      have hq8 : Below w6.heap.size w6 (w7.alloc (.cells #[.int .i64 1, .string ⟨#[98, 114]⟩, .string ⟨#[]⟩, .slice none 0 0, .bool false] 41)) := HB7.out.alloc HB7.out.size _
      have hT8 : Rm.Toks w.heap.size (List.replicate 4096 Fm.br) w8 v8 none := by
        rw [show (4096 : Nat) = 4095 + 1 from rfl, List.replicate_succ']
        exact Ts7.push HT6.out hq8 rfl xs6 HX6.out (by rw [List.length_replicate]; exact R8) hg8 (by simpa using hf8)
      have HB8 := Lib.hid ((HQ6.out.trans (hq8.mono hws6)).grown hg8 (by simp; omega) (fun k hk => (HO6.out.lt k hk).1))
      obtain ⟨va, vd, hv8⟩ := Ts7.form hT8
      have bf := Pg.full (List.replicate 4096 Fm.br) va vd w8 (by rw [← hv8]; exact hT8.lies.on fun k hk => ⟨hk.2, rfl⟩) (by rw [Fm.bulk]; decide) (Fm.may 4096) (Fm.full 4096 Bt.start (by decide) (by decide))
      rw [List.length_replicate] at hv8 bf
      subst hv8
      clear R8 hg8 hf8 hq8 hT8
      go_wp2_with (first | (go_at_call 9; refine bf.mono ?_; rintro e w9 ⟨rfl, b9⟩; clear bf; have HB9 := Lib.hid (HB8.out.trans (b9.mono HB8.out.size)); clear b9) | (go_at_call 12; refine (Ta.num _ _).mono ?_; rintro e w' ⟨rfl, hw⟩; have hw := hw.symm; subst hw))
      go_ret
      exact ⟨rfl, HB9.out⟩
set_option maxRecDepth 100000 in
set_option maxHeartbeats 8000000 in
theorem Fm.case6 (n x : Int) (w : World) (u : Nat) (hu : IntKind.u64.wrap n = (u : Int)) (_hu2 : u < 18446744073709551616) (hi : (u : Int) % 11 = 6) :
    Calls Try.prog 6 #[.int .i64 n, .int .i64 x] w fun e w' => e = .returned (.bool true) ∧ Below w.heap.size w w' := by
  obtain ⟨dd, hd, hd65, hd1⟩ : ∃ dd : Nat, 1 + x % 64 = (dd : Int) ∧ dd < 65 ∧ 1 ≤ dd := ⟨(1 + x % 64).toNat, by omega, by omega, by omega⟩
  have h6 := Dp.and6 x
  have hw1 : IntKind.i64.wrap (1 + x % 64) = (dd : Int) := by rw [IntKind.wrap_i64]; omega
  have hw2 : IntKind.i64.wrap (3 + (dd : Int)) = 3 + (dd : Int) := by rw [IntKind.wrap_i64]; omega
  have hw3 : IntKind.i64.wrap (-(dd : Int)) = -(dd : Int) := by rw [IntKind.wrap_i64]; omega
  obtain ⟨mm, hmm⟩ : ∃ mm : Nat, mm = 32 + dd := ⟨_, rfl⟩
  have hm32 : 32 < mm := by omega
  have hm100 : mm ≤ 1000 := by omega
  have hw4 : IntKind.i64.wrap (32 + (dd : Int)) = (mm : Int) := by rw [IntKind.wrap_i64]; omega
  clear hmm
  have aw := Ta.awake w
  clear hd
  go_enter Try.func6, Try.ntmps6
  go_upto_region 5 with (go_at_call 15; refine aw.mono ?_; rintro e w1 ⟨rfl, q1⟩; clear aw)
  obtain ⟨W, hW⟩ : ∃ W, (w1.alloc (.cells #[.string ⟨#[97]⟩, .string ⟨#[]⟩, .string ⟨#[98]⟩, .string ⟨#[]⟩] 48)).alloc (.cells #[.int .i64 1, .string ⟨#[112]⟩, .string ⟨#[]⟩, .slice (some ⟨w1.heap.size, 0, none⟩) 2 2, .bool false] 41) = W := ⟨_, rfl⟩
  have hA : W.heap[w1.heap.size]? = some (.cells #[.string ⟨#[97]⟩, .string ⟨#[]⟩, .string ⟨#[98]⟩, .string ⟨#[]⟩] 48) := by rw [← hW]; exact (Below.heap_alloc _ _ _ (by simp)).trans (heap_alloc_new w1 _)
  have hT : W.heap[w1.heap.size + 1]? = some (.cells #[.int .i64 1, .string ⟨#[112]⟩, .string ⟨#[]⟩, .slice (some ⟨w1.heap.size, 0, none⟩) 2 2, .bool false] 41) := by
    rw [← hW]
    have := heap_alloc_new (w1.alloc (.cells #[.string ⟨#[97]⟩, .string ⟨#[]⟩, .string ⟨#[98]⟩, .string ⟨#[]⟩] 48)) (.cells #[.int .i64 1, .string ⟨#[112]⟩, .string ⟨#[]⟩, .slice (some ⟨w1.heap.size, 0, none⟩) 2 2, .bool false] 41)
    rwa [show (w1.alloc (.cells #[.string ⟨#[97]⟩, .string ⟨#[]⟩, .string ⟨#[98]⟩, .string ⟨#[]⟩] 48)).heap.size = w1.heap.size + 1 by simp] at this
  have qW : Below w.heap.size w W := by rw [← hW]; exact (q1.alloc q1.size _).alloc (by simp; have := q1.size; omega) _
  have hsW : w1.heap.size + 1 < W.heap.size := by rw [← hW]; simp
  have hsw := q1.size
  rw [hW]
  clear hW q1
  generalize w1.heap.size = A at *
  have hl1 : Ak.Lies W (· < W.heap.size) Fm.ab (.slice (some ⟨A, 0, none⟩) 2 2) := Ak.Lies.lit Fm.ab _ hA rfl (by show A < W.heap.size; omega) (by decide)
  have ok1 := Fm.okTok W A hl1
  have kt0 : W.cell? ⟨A + 1, 0, none⟩ = some (.int .i64 1) := by unfold World.cell?; rw [hT]; rfl
  have kt1 : W.cell? ⟨A + 1, 1, none⟩ = some (.string ⟨#[112]⟩) := by unfold World.cell?; rw [hT]; rfl
  have kt2 : W.cell? ⟨A + 1, 2, none⟩ = some (.string ⟨#[]⟩) := by unfold World.cell?; rw [hT]; rfl
  have kt3 : W.cell? ⟨A + 1, 3, none⟩ = some (.slice (some ⟨A, 0, none⟩) 2 2) := by unfold World.cell?; rw [hT]; rfl
  have kt4 : W.cell? ⟨A + 1, 4, none⟩ = some (.bool false) := by unfold World.cell?; rw [hT]; rfl
  have ktf : ∀ j, W.frozen? ⟨A + 1, j, none⟩ = false := fun j => by unfold World.frozen?; rw [hT]; simp
  have ka0 : W.cell? ⟨A, 0, none⟩ = some (.string ⟨#[97]⟩) := by unfold World.cell?; rw [hA]; rfl
  have ka1 : W.cell? ⟨A, 1, none⟩ = some (.string ⟨#[]⟩) := by unfold World.cell?; rw [hA]; rfl
  have ka2 : W.cell? ⟨A, 2, none⟩ = some (.string ⟨#[98]⟩) := by unfold World.cell?; rw [hA]; rfl
  have ka3 : W.cell? ⟨A, 3, none⟩ = some (.string ⟨#[]⟩) := by unfold World.cell?; rw [hA]; rfl
  have kaf : ∀ j, W.frozen? ⟨A, j, none⟩ = false := fun j => by unfold World.frozen?; rw [hA]; simp
  clear hA hT
  have HL1 := Lib.hid hl1
  have nA : A ≠ A + 1 := by omega
  have nA' : A + 1 ≠ A := by omega
  clear hl1
  go_upto_region 6 with (go_at_call 9; refine ok1.mono ?_; rintro e w2 ⟨a2, d2, rfl, b2⟩; clear ok1; have t0 := Tp.keep b2 kt0; have t1 := Tp.keep b2 kt1; have t2 := Tp.keep b2 kt2; have t3 := Tp.keep b2 kt3; have t4 := Tp.keep b2 kt4; have tf := Tp.keepF b2 hsW ktf; have r0 := Tp.keep b2 ka0; have r1 := Tp.keep b2 ka1; have r2 := Tp.keep b2 ka2; have r3 := Tp.keep b2 ka3; have rf := Tp.keepF b2 (by omega) kaf; have HL2 : Hid (Ak.Lies w2 (· < w2.heap.size) Fm.ab (.slice (some ⟨A, 0, none⟩) 2 2)) := HL1.out.on (fun k hk => ⟨Nat.lt_of_lt_of_le hk b2.size, b2.block k hk⟩); have HQ2 : Hid (Below w.heap.size w w2) := qW.trans (b2.mono qW.size); have hs2 : A + 1 < w2.heap.size := Nat.lt_of_lt_of_le hsW b2.size; clear b2)
  clear kt0 kt1 kt2 kt3 kt4 ktf ka0 ka1 ka2 ka3 kaf HL1 qW hsW
  go_wp2_with fail
  refine (Fm.noTok _ w2.heap.size (by simp) ⟨2, ⟨#[112]⟩, Ts.e, Fm.ab, false⟩ (some ⟨A, 0, none⟩) 2 2 (Fm.pair _ (by show A < _; simp; omega) (by simp [go_sem, *]) (by simp [go_sem, Ts.e, *]) (by simp [go_sem, *]) (by simp [go_sem, Ts.e, *])) (by show (Ts.e : ByteArray).size ≤ 100; decide) (by rintro (⟨q, _⟩ | ⟨q, _⟩); (rcases q with q | q <;> cases q); (rcases q with q | ⟨_, q, _⟩ <;> cases q))).mono ?_
  rintro e w3 ⟨rfl, b3⟩
  have HQ3 : Hid (Below w.heap.size w w3) := by
    unfold Hid
    refine Below.trans ?_ (b3.mono (by simp; exact HQ2.out.size))
    repeat (refine Below.setCell ?_ (by first | (show w.heap.size ≤ A + 1; omega) | (show w.heap.size ≤ A; omega)) _)
    exact HQ2.out
  clear b3 t0 t1 t2 t3 t4 tf r0 r1 r2 r3 rf HL2 HQ2 hs2 nA nA' hw2 hw3 hw4 hw1 h6 hi hu
  go_wp2_with fail
  go_loopw [11, 12] (fun out ix wr => ∃ (i : Nat), i ≤ 4095 ∧ ix = .int .i64 (i : Int) ∧ Hid (Rm.Toks w.heap.size (List.replicate i Fm.br) wr out none) ∧ Hid (Below w.heap.size w wr)) (fun _ ix _ => 4095 - (intOf ix).toNat)
  case atStart => exact ⟨0, Nat.zero_le _, rfl, Um.toks_nil _ _, HQ3.out⟩
  case round =>
    clear HQ3
    obtain ⟨i, hi, rfl, HT, HB⟩ := hrel
    obtain ⟨xs, hx⟩ := id HT.out
    obtain ⟨ua, ud, hu⟩ := Ts7.form HT.out
    rw [List.length_replicate] at hu
    subst hu
    have HX := Lib.hid hx
    have HO : Hid (wr.ownsRow w.heap.size 41 5 (.slice ua i ud) i xs) := by have := hx.1; rw [List.length_replicate] at this; exact this
    have hws := HB.out.size
    clear hx
    by_cases hlt : i < 4095
    · have d1 : decide ((i : Int) < 4095) = true := decide_eq_true (by omega)
      go_wp2_with (first | (go_at_call 16; refine (Ts7.start _ _).mono ?_; rintro e w4 ⟨rfl, b4⟩; have HO4 : Hid (w4.ownsRow w.heap.size 41 5 (.slice ua i ud) i xs) := Rm.own_on HO.out (fun k hk => b4.block k (HO.out.lt k hk).2); have s4 := b4.size; have HB4 := Lib.hid b4; clear b4) | (at_builtin; refine Ro.push rfl _ _ 22 41 5 72 _ rfl Try.underlying22 Rm.infoT rfl (by decide) _ rfl (HO4.out.alloc _) w4.heap.size (Rm.five Fm.br (.slice none 0 0)) rfl (Rm.five_cells w4 Fm.br _ _ rfl) rfl (Rm.five_one _ _ _ _) (by unfold maxLen; omega) (by omega) (by simp; omega) ?_))
      intro v5 w5 R5 hg5 hf5
      have hq5 : Below wr.heap.size wr (w4.alloc (.cells #[.int .i64 1, .string ⟨#[98, 114]⟩, .string ⟨#[]⟩, .slice none 0 0, .bool false] 41)) := HB4.out.alloc HB4.out.size _
      have HT5 : Hid (Rm.Toks w.heap.size (List.replicate (i + 1) Fm.br) w5 v5 none) := by
        unfold Hid
        rw [List.replicate_succ']
        exact Ts7.push HT.out hq5 rfl xs HX.out (by rw [List.length_replicate]; exact R5) hg5 (by simpa using hf5)
      have HB5 := Lib.hid ((HB.out.trans (hq5.mono hws)).grown hg5 (by simp; omega) (fun k hk => (HO.out.lt k hk).1))
      clear R5 hg5 hf5 hq5
      go_wp2
      go_roundw
      case rel => exact ⟨i + 1, by omega, by go_num, HT5, HB5⟩
      case measure => simp [intOf]; omega
    · have e : i = 4095 := by omega
      subst e
      have hrun := Fm.run 4095 Bt.start (by decide)
      have hrl : (Bt.run Bt.start (List.replicate 4095 Fm.br)).1.out.length = 4096 := hrun.2
      have bu := Pg.ok (List.replicate 4095 Fm.br) ua ud wr (by have := HT.out.lies; rw [List.length_replicate]; exact this.on fun k hk => ⟨hk.2, rfl⟩) (by rw [Fm.bulk]; decide) (Fm.may 4095) hrun.1
      rw [List.length_replicate, hrl] at bu
      clear hrun hrl
      have d1 : decide (((4095 : Nat) : Int) < 4095) = false := by decide
      go_upto_region 35 with (go_at_call 9; refine bu.mono ?_; rintro e w6 ⟨a6, d6, rfl, l6, b6⟩; clear bu l6; have HB6 := Lib.hid b6; clear b6)
      have HT6 : Hid (Rm.Toks w.heap.size (List.replicate 4095 Fm.br) w6 (.slice ua 4095 ud) none) := HT.out.on HB6.out.size (fun k hk => HB6.out.block k (HO.out.lt k hk).2) (fun k _ h2 _ h4 => ⟨h4, HB6.out.block k h2⟩)
      obtain ⟨xs6, hx6⟩ := id HT6.out
      have HX6 := Lib.hid hx6
      have HO6 : Hid (w6.ownsRow w.heap.size 41 5 (.slice ua 4095 ud) 4095 xs6) := by have := hx6.1; rw [List.length_replicate] at this; exact this
      have HQ6 : Hid (Below w.heap.size w w6) := HB.out.trans (HB6.out.mono hws)
      have hws6 := HQ6.out.size
      clear hx6 HT HX HO HB HB6 hws
      go_wp2_with (first | (go_at_call 16; refine (Ts7.start _ _).mono ?_; rintro e w7 ⟨rfl, b7⟩; have HO7 : Hid (w7.ownsRow w.heap.size 41 5 (.slice ua 4095 ud) 4095 xs6) := Rm.own_on HO6.out (fun k hk => b7.block k (HO6.out.lt k hk).2); have s7 := b7.size; have HB7 := Lib.hid b7; clear b7) | (at_builtin; refine Ro.push rfl _ _ 22 41 5 72 _ rfl Try.underlying22 Rm.infoT rfl (by decide) _ rfl (HO7.out.alloc _) w7.heap.size (Rm.five Fm.br (.slice none 0 0)) rfl (Rm.five_cells w7 Fm.br _ _ rfl) rfl (Rm.five_one _ _ _ _) (by unfold maxLen; omega) (by omega) (by simp; omega) ?_))
      intro v8 w8 R8 hg8 hf8
      have hq8 : Below w6.heap.size w6 (w7.alloc (.cells #[.int .i64 1, .string ⟨#[98, 114]⟩, .string ⟨#[]⟩, .slice none 0 0, .bool false] 41)) := HB7.out.alloc HB7.out.size _
      have hT8 : Rm.Toks w.heap.size (List.replicate 4096 Fm.br) w8 v8 none := by
        rw [show (4096 : Nat) = 4095 + 1 from rfl, List.replicate_succ']
        exact Ts7.push HT6.out hq8 rfl xs6 HX6.out (by rw [List.length_replicate]; exact R8) hg8 (by simpa using hf8)
      have HB8 := Lib.hid ((HQ6.out.trans (hq8.mono hws6)).grown hg8 (by simp; omega) (fun k hk => (HO6.out.lt k hk).1))
      obtain ⟨va, vd, hv8⟩ := Ts7.form hT8
      have bf := Pg.full (List.replicate 4096 Fm.br) va vd w8 (by rw [← hv8]; exact hT8.lies.on fun k hk => ⟨hk.2, rfl⟩) (by rw [Fm.bulk]; decide) (Fm.may 4096) (Fm.full 4096 Bt.start (by decide) (by decide))
      rw [List.length_replicate] at hv8 bf
      subst hv8
      clear R8 hg8 hf8 hq8 hT8
      go_wp2_with (first | (go_at_call 9; refine bf.mono ?_; rintro e w9 ⟨rfl, b9⟩; clear bf; have HB9 := Lib.hid (HB8.out.trans (b9.mono HB8.out.size)); clear b9) | (go_at_call 12; refine (Ta.num _ _).mono ?_; rintro e w' ⟨rfl, hw⟩; have hw := hw.symm; subst hw))
      go_ret
      exact ⟨rfl, HB9.out⟩
end Go.Proofs.Ythfobjkdcncoiaa

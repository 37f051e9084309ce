/-
  THE WALK of stolelaw4.ValueDeep.
-/
import Derived.Test.YtmiabkoodoekdaaDoorVRow
import Derived.Test.YtmiabkoodoekdaaDoorVPlain2
namespace Go.Proofs.YtmiabkoodoekdaaDoor
open Go.RowKit

/-- lists in one another, a number at the end -/
def Vt.chain : Nat → Vt
  | 0 => Vt.leaf 2 1 0 ⟨#[]⟩
  | i + 1 => .mk 5 0 0 ⟨#[]⟩ 1 (fun _ => Vt.chain i) 0 (fun _ => ⟨#[]⟩)
theorem Vd.stand : ∀ (i : Nat) (deep L : Int), (i : Int) < L → ((Vt.chain i).stand deep L).1 = decide (deep + i ≤ 8)
  | 0, deep, L, h => by
    by_cases hd : 8 < deep
    · rw [decide_eq_false (by omega)]
      simp [Vt.chain, Vt.leaf, Vt.stand, hd]
    · have h1 : ¬ L - 1 < 0 := by omega
      rw [decide_eq_true (by omega)]
      simp [Vt.chain, Vt.leaf, Vt.stand, Vt.formed, Vt.run, hd, h1]
  | i + 1, deep, L, h => by
    by_cases hd : 8 < deep
    · rw [decide_eq_false (by omega)]
      simp [Vt.chain, Vt.stand, hd]
    · have h1 : ¬ L - 1 < 0 := by omega
      have := Vd.stand i (deep + 1) (L - 1) (by omega)
      rw [show deep + 1 + (i : Int) = deep + ((i + 1 : Nat) : Int) by omega] at this
      rw [← this]
      simp [Vt.chain, Vt.stand, Vt.formed, Vt.run, hd, h1]
theorem Vd.may (i : Nat) (hi : i < 12) : (Vt.chain i).may = decide (1 + (i : Int) ≤ 8) := by
  unfold Vt.may
  rw [Vd.stand i 1 1024 (by omega)]
/-- a row of numbers, rows of rows -/
def Vt.nums (n : Nat) : Vt := .mk 5 0 0 ⟨#[]⟩ n (fun i => Vt.leaf 2 i 0 ⟨#[]⟩) 0 (fun _ => ⟨#[]⟩)
def Vt.wide (m : Nat) : Vt := .mk 5 0 0 ⟨#[]⟩ m (fun _ => Vt.nums 60) 0 (fun _ => ⟨#[]⟩)
theorem Vd.sum {f g : Nat → Int} {n : Nat} (h : ∀ i, i < n → f i = g i) : Vt.sum f n = Vt.sum g n := by
  induction n with
  | zero => rfl
  | succ n ih =>
    have := ih (fun i hi => h i (by omega))
    simp only [Vt.sum]
    rw [this, h n (by omega)]
theorem Vd.nums : (Vt.nums 60).count 7 = 61 := by
  have h : Vt.sum (fun i => (Vt.leaf 2 i 0 ⟨#[]⟩).count 6) 60 = Vt.sum (fun _ => 1) 60 := by
    refine Vd.sum fun i hi => ?_
    have h1 : (-9007199254740991 : Int) ≤ i := by omega
    have h2 : (i : Int) ≤ 9007199254740991 := by omega
    simp [Vt.leaf, Vt.count, Vt.formed, Vt.sum, h1, h2]
    decide
  simp only [Vt.nums, Vt.count]
  rw [if_neg (by simp [Vt.formed]), show (7 : Int) - 1 = 6 by rfl, h]
  decide +kernel
theorem Vd.wide0 (m : Nat) (hm : m < 21) : (Vt.wide m).may = decide (1 + 61 * (m : Int) ≤ 1024) := by
  rw [Vt.may_count]
  have h : Vt.sum (fun _ => (Vt.nums 60).count 7) m = Vt.sum (fun _ => 61) m := Vd.sum fun _ _ => Vd.nums
  have e : (Vt.wide m).count 8 = min (Vt.sum (fun _ => 61) m) 1025 := by
    simp only [Vt.wide, Vt.count]
    rw [if_neg (by simp [Vt.formed]; omega), show (8 : Int) - 1 = 7 by rfl, h]
  rw [e]
  have key : ∀ m, m < 21 → decide (min (Vt.sum (fun _ => 61) m) 1025 ≤ 1024) = decide (1 + 61 * (m : Int) ≤ 1024) := by decide +kernel
  exact key m hm
theorem Vd.wide (q : Nat) (hq : q < 20) : (Vt.wide (q + 1)).may = decide (1 + 61 * (1 + (q : Int)) ≤ 1024) := by
  rw [Vd.wide0 (q + 1) (by omega), show ((q + 1 : Nat) : Int) = 1 + (q : Int) by omega]

theorem Vd.num (a : Int) (n : Nat) (h0 : 0 < n) (hn : n ≤ 100) : ∃ r : Nat, r < n ∧ (IntKind.u64.wrap a).tmod n = (r : Int) ∧ wrap64 (r : Int) = r ∧ wrap64 (1 + (r : Int)) = ((r + 1 : Nat) : Int) := by
  refine ⟨((IntKind.u64.wrap a).tmod n).toNat, ?_⟩
  rw [IntKind.wrap_u64]
  have h1 : 0 ≤ a % 18446744073709551616 := by omega
  rw [Int.tmod_eq_emod_of_nonneg h1]
  have h2 : 0 ≤ a % 18446744073709551616 % (n : Int) := Int.emod_nonneg _ (by omega)
  have h3 : a % 18446744073709551616 % (n : Int) < n := Int.emod_lt_of_pos _ (by omega)
  generalize a % 18446744073709551616 % (n : Int) = r at *
  refine ⟨by omega, by omega, ?_, ?_⟩
  · rw [wrap64]; omega
  · rw [wrap64]; omega
/-- a variable that holds a tree, which lies elsewhere -/
structure Vd.V (W : World) (gV : Nat) (t : Vt) : Prop where
  all : ∃ (k x : Int) (b : Nat) (s : ByteArray) (ai : Option Addr) (n c : Nat) (ak : Option Addr) (m d : Nat), Vm.Box W gV (.int .i64 k) (.int .i64 x) (.int .u64 (b : Int)) (.string s) (.slice ai n c) (.slice ak m d) ∧ t.Lies W (fun g => g < W.heap.size ∧ g ≠ gV) (.agg #[.int .i64 k, .int .i64 x, .int .u64 (b : Int), .string s, .slice ai n c, .slice ak m d])
theorem Vd.V.on {W W' : World} {gV : Nat} {t : Vt} (h : Vd.V W gV t) (hb : Below W.heap.size W W') : Vd.V W' gV t := by
  obtain ⟨k, x, b, s, ai, n, c, ak, m, d, hB, hl⟩ := h.all
  exact ⟨k, x, b, s, ai, n, c, ak, m, d, hB.on hB.lt hb, hl.on fun g hg => ⟨⟨Nat.lt_of_lt_of_le hg.1 hb.size, hg.2⟩, hb.block g hg.1⟩⟩
theorem Vd.V.lies {W : World} {gV : Nat} {t : Vt} (h : Vd.V W gV t) : ∃ (k x : Int) (b : Nat) (s : ByteArray) (ai : Option Addr) (n c : Nat) (ak : Option Addr) (m d : Nat), Vm.Box W gV (.int .i64 k) (.int .i64 x) (.int .u64 (b : Int)) (.string s) (.slice ai n c) (.slice ak m d) ∧ t.Lies W (· < W.heap.size) (.agg #[.int .i64 k, .int .i64 x, .int .u64 (b : Int), .string s, .slice ai n c, .slice ak m d]) := by
  obtain ⟨k, x, b, s, ai, n, c, ak, m, d, hB, hl⟩ := h.all
  exact ⟨k, x, b, s, ai, n, c, ak, m, d, hB, hl.on fun g hg => ⟨hg.1, rfl⟩⟩
/-- the list of what the variable held, in the variable -/
theorem Vd.next {W : World} {gV gN : Nat} {t : Vt} {v0 v1 v2 v3 v4 v5 : Value} (hne : gN ≠ gV) (hB : Vm.Box W gV v0 v1 v2 v3 v4 v5) (hN : Vm.Has W gN (.cells #[v0, v1, v2, v3, v4, v5] 26)) (hl : t.Lies W (fun g => g < W.heap.size ∧ g ≠ gV) (.agg #[v0, v1, v2, v3, v4, v5])) :
    Vd.V ((((((W.setCell ⟨gV, 0, none⟩ (.int .i64 5)).setCell ⟨gV, 1, none⟩ (.int .i64 0)).setCell ⟨gV, 2, none⟩ (.int .u64 0)).setCell ⟨gV, 3, none⟩ (.string ⟨#[]⟩)).setCell ⟨gV, 4, none⟩ (.slice (some ⟨gN, 0, none⟩) 1 1)).setCell ⟨gV, 5, none⟩ (.slice none 0 0)) gV (.mk 5 0 0 ⟨#[]⟩ 1 (fun _ => t) 0 (fun _ => ⟨#[]⟩)) ∧
    Vm.Wrote gV W ((((((W.setCell ⟨gV, 0, none⟩ (.int .i64 5)).setCell ⟨gV, 1, none⟩ (.int .i64 0)).setCell ⟨gV, 2, none⟩ (.int .u64 0)).setCell ⟨gV, 3, none⟩ (.string ⟨#[]⟩)).setCell ⟨gV, 4, none⟩ (.slice (some ⟨gN, 0, none⟩) 1 1)).setCell ⟨gV, 5, none⟩ (.slice none 0 0)) := by
  have WR := Vm.set6 W gV 0 (.int .i64 5) (.int .i64 0) (.int .u64 0) (.string ⟨#[]⟩) (.slice (some ⟨gN, 0, none⟩) 1 1) (.slice none 0 0)
  have BX := Vm.set6_row hB.all 0 (.int .i64 5) (.int .i64 0) (.int .u64 0) (.string ⟨#[]⟩) (.slice (some ⟨gN, 0, none⟩) 1 1) (.slice none 0 0)
  simp only [Nat.zero_add] at WR BX
  have hlt := hN.lt
  generalize (((((W.setCell ⟨gV, 0, none⟩ (.int .i64 5)).setCell ⟨gV, 1, none⟩ (.int .i64 0)).setCell ⟨gV, 2, none⟩ (.int .u64 0)).setCell ⟨gV, 3, none⟩ (.string ⟨#[]⟩)).setCell ⟨gV, 4, none⟩ (.slice (some ⟨gN, 0, none⟩) 1 1)).setCell ⟨gV, 5, none⟩ (.slice none 0 0) = W' at *
  have hs := WR.size
  have R' : Vm.Has W' gN (.cells #[v0, v1, v2, v3, v4, v5] 26) := (WR.block _ hne).trans hN
  refine ⟨⟨5, 0, 0, ⟨#[]⟩, _, 1, 1, _, 0, 0, ⟨BX⟩, _, _, _, _, rfl, by decide, Nat.le_refl _, by decide, ⟨Nat.le_refl _, by decide, fun j hj => absurd hj (by omega)⟩, fun i hi => ?_⟩, WR⟩
  have : i = 0 := by omega
  subst this
  exact ⟨gN, 0, _, _, _, _, _, _, rfl, ⟨by omega, hne⟩, R'.cell _ rfl, R'.cell _ rfl, R'.cell _ rfl, R'.cell _ rfl, R'.cell _ rfl, R'.cell _ rfl, hl.on fun g hg => ⟨⟨by omega, hg.2⟩, WR.block g hg.2⟩⟩

set_option maxRecDepth 100000 in
set_option maxHeartbeats 8000000 in
theorem Vx.deep (a : Int) (_ : -9223372036854775808 ≤ a ∧ a ≤ 9223372036854775807) (b : Int) (_ : -9223372036854775808 ≤ b ∧ b ≤ 9223372036854775807) (w : World) (ht : Re.Tabs w) :
    Calls Tryd.prog 7 #[.int .i64 a, .int .i64 b] w fun e w' => e = .returned (.bool true) ∧ Below w.heap.size w w' := by
  obtain ⟨r, hr, r1, r2, r3⟩ := Vd.num a 12 (by decide) (by decide)
  obtain ⟨q, hq, q1, q2, q3⟩ := Vd.num b 20 (by decide) (by decide)
  simp only [Int.cast_ofNat_Int] at r1 q1
  go_enter Tryd.func7, Tryd.ntmps7
  go_wp2_with fail
  refine (Vw.awake w ht).mono ?_
  rintro e w0 ⟨rfl, B⟩
  go_wp2_with fail
  refine (Vn.num 1 _).mono ?_
  rintro e w1 ⟨rfl, hb'⟩
  replace B := Vm.then B hb'
  clear hb' r1 r2 r3
  have hsz := B.size
  go_wp2
  have V0 : Vd.V (w1.alloc (.cells #[.int .i64 2, .int .i64 1, .int .u64 0, .string ⟨#[]⟩, .slice none 0 0, .slice none 0 0] 26)) w1.heap.size (Vt.chain 0) :=
    ⟨_, _, _, _, _, _, _, _, _, _, ⟨Vm.Has.new w1 _ _ rfl⟩, Vw.iLies 1 _ _⟩
  replace B := B.alloc hsz (.cells #[.int .i64 2, .int .i64 1, .int .u64 0, .string ⟨#[]⟩, .slice none 0 0, .slice none 0 0] 26)
  generalize w1.alloc (.cells #[.int .i64 2, .int .i64 1, .int .u64 0, .string ⟨#[]⟩, .slice none 0 0, .slice none 0 0] 26) = W0 at *
  generalize w1.heap.size = gV at *
  have hgV : w.heap.size ≤ gV := hsz
  go_loopw [7] (fun ix wr => ∃ j : Nat, j ≤ r ∧ ix = .int .i64 ((j : Int) + 1) ∧ Below w.heap.size w wr ∧ Vd.V wr gV (Vt.chain j)) (fun ix _ => 12 - (intOf ix).toNat)
  case atStart => exact ⟨0, Nat.zero_le _, by go_num, B, V0⟩
  case round =>
    obtain ⟨j, hj, rfl, hbr, V⟩ := hrel
    clear B V0
    obtain ⟨k1, x1, b1, s1, ai1, n1, c1, ak1, m1, e1, hB, hl⟩ := V.all
    by_cases hlt : j < r
    · have d1 : decide ((j : Int) + 1 < 1 + (r : Int)) = true := decide_eq_true (by omega)
      obtain ⟨z0, z1, z2, z3, z4, z5⟩ := hB.cells
      have hgl := hB.lt
      go_wp2_with (refine Vm.stop 28 ?_)
      clear z0 z1 z2 z3 z4 z5
      have hN := Vm.Has.new wr (.cells #[.int .i64 k1, .int .i64 x1, .int .u64 (b1 : Int), .string s1, .slice ai1 n1 c1, .slice ak1 m1 e1] 26) _ rfl
      replace hB := hB.alloc hgl (.cells #[.int .i64 k1, .int .i64 x1, .int .u64 (b1 : Int), .string s1, .slice ai1 n1 c1, .slice ak1 m1 e1] 26)
      have hl' : (Vt.chain j).Lies (wr.alloc (.cells #[.int .i64 k1, .int .i64 x1, .int .u64 (b1 : Int), .string s1, .slice ai1 n1 c1, .slice ak1 m1 e1] 26)) (fun g => g < (wr.alloc (.cells #[.int .i64 k1, .int .i64 x1, .int .u64 (b1 : Int), .string s1, .slice ai1 n1 c1, .slice ak1 m1 e1] 26)).heap.size ∧ g ≠ gV) _ := hl.on fun g hg => ⟨⟨by simp; omega, hg.2⟩, Below.heap_alloc _ _ _ hg.1⟩
      have hbr' := hbr.alloc hbr.size (.cells #[.int .i64 k1, .int .i64 x1, .int .u64 (b1 : Int), .string s1, .slice ai1 n1 c1, .slice ak1 m1 e1] 26)
      have hne : wr.heap.size ≠ gV := by omega
      clear hl V hbr
      generalize wr.alloc (.cells #[.int .i64 k1, .int .i64 x1, .int .u64 (b1 : Int), .string s1, .slice ai1 n1 c1, .slice ak1 m1 e1] 26) = W1 at *
      generalize wr.heap.size = gN at *
      have HNX := Lib.hid (Vd.next hne hB hN hl')
      have ff := fun i => hB.frozen i
      obtain ⟨z0, z1, z2, z3, z4, z5⟩ := hB.cells
      clear hl' hN
      constructor
      go_wp2
      refine ⟨⟨j + 1, hlt, by go_num, HNX.out.2.below hbr' hgV, HNX.out.1⟩, ?_⟩
      simp [intOf]
      omega
    · have e : j = r := by omega
      subst e
      have d1 : decide ((j : Int) + 1 < 1 + (j : Int)) = false := decide_eq_false (by omega)
      clear hB hl
      go_wp2
      have hgR : wr.heap.size < (wr.alloc (.cells #[.int .i64 5, .int .i64 0, .int .u64 0, .string ⟨#[]⟩, .slice none 0 0, .slice none 0 0] 26)).heap.size := by simp
      have V2 := V.on ((Below.refl _ _).alloc (Nat.le_refl _) (.cells #[.int .i64 5, .int .i64 0, .int .u64 0, .string ⟨#[]⟩, .slice none 0 0, .slice none 0 0] 26))
      have hbR := hbr.alloc hbr.size (.cells #[.int .i64 5, .int .i64 0, .int .u64 0, .string ⟨#[]⟩, .slice none 0 0, .slice none 0 0] 26)
      have BR : Vm.Box _ _ _ _ _ _ _ _ := ⟨Vm.Has.new wr (.cells #[.int .i64 5, .int .i64 0, .int .u64 0, .string ⟨#[]⟩, .slice none 0 0, .slice none 0 0] 26) _ rfl⟩
      have hwR : w.heap.size ≤ wr.heap.size := hbr.size
      have HV : Hid (∀ W' : World, Vr.Lo (wr.alloc (.cells #[.int .i64 5, .int .i64 0, .int .u64 0, .string ⟨#[]⟩, .slice none 0 0, .slice none 0 0] 26)) W' wr.heap.size → Vd.V W' gV (Vt.chain j)) := by
        intro W' hL
        obtain ⟨k1, x1, b1, s1, ai1, n1, c1, ak1, m1, e1, hB, hl⟩ := V.all
        have hlt := hB.lt
        refine ⟨k1, x1, b1, s1, ai1, n1, c1, ak1, m1, e1, ⟨?_⟩, hl.on fun g hg => ⟨⟨by have := hL.size; simp at this; omega, hg.2⟩, ?_⟩⟩
        · rw [hL.block gV (by simp; omega) (by omega), Below.heap_alloc _ _ _ hlt]
          exact hB.all
        · rw [hL.block g (by simp; omega) (by omega), Below.heap_alloc _ _ _ hg.1]
      clear V V2 hbr d1
      generalize wr.alloc (.cells #[.int .i64 5, .int .i64 0, .int .u64 0, .string ⟨#[]⟩, .slice none 0 0, .slice none 0 0] 26) = W2 at *
      generalize wr.heap.size = gR at *
      go_loopw [10] (fun ix wr => ∃ i : Nat, i ≤ 60 ∧ ix = .int .i64 (i : Int) ∧ Vr.Lo W2 wr gR ∧ ∃ ai c, Vm.Box wr gR (.int .i64 5) (.int .i64 0) (.int .u64 0) (.string ⟨#[]⟩) (.slice ai i c) (.slice none 0 0) ∧ Vr.Row (fun _ => False) W2.heap.size (fun i => Vt.leaf 2 i 0 ⟨#[]⟩) i wr (.slice ai i c)) (fun ix _ => 60 - (intOf ix).toNat)
      case atStart => exact ⟨0, Nat.zero_le _, by go_num, Vr.Lo.refl _ _, _, _, BR, Vr.Row.nil _ _ _ _⟩
      case round =>
        obtain ⟨i, hi, rfl, hL, ai, c, hB, hRow⟩ := hrel
        clear BR
        by_cases hlt : i < 60
        · have d1 : decide ((i : Int) < 60) = true := decide_eq_true (by omega)
          obtain ⟨z0, z1, z2, z3, z4, z5⟩ := hB.cells
          clear z0 z1 z2 z3 z5
          have HB := Lib.hid hB
          have HRow := Lib.hid hRow
          have HL := Lib.hid hL
          clear hB hRow hL
          go_wp2_with fail
          go_region_law (first | (refine Vr.step_push rfl (.tmp 40) (.tmp 43) rfl (.slice ai i c) (by simp [Act.eval]) (HR3.out.alloc hgR (fun h => h) _) w3.heap.size 2 (i : Int) 0 ⟨#[]⟩ none 0 0 none 0 0 (by simp [Act.eval]) (Vm.Has.new w3 _ _ rfl) (Vw.iLies (i : Int) _ _) (by omega) (by have := HL3.out.size; simp; omega) ?_; intro v' w4 R4 hb4; obtain ⟨a4, d4, rfl, _, _⟩ := R4.form; have B4 : Vm.Box w4 gR _ _ _ _ _ _ := ⟨(hb4.block gR hgR).trans (HB3.out.alloc HB3.out.lt _).all⟩; have c4 := B4.cells.2.2.2.2.1; have f4 := B4.frozen 4; have HB4 := Lib.hid B4; have HR4 := Lib.hid R4; have HL4 := Lib.hid hb4; clear B4 R4 hb4) | (rw [if_pos (by simp [Region.wanted])]; go_simp; go_at_call 30; refine (Vn.num (i : Int) _).mono ?_; rintro e w3 ⟨rfl, hb'⟩; replace hb' := Vs.back hb'; have B3 := HB.out.on HB.out.lt hb'; have R3 := HRow.out.then (gB := gR) hgR (fun h => h) hb'; have L3 := HL.out.on hb'; have c3 := B3.cells.2.2.2.2.1; have c3a := fun o => (B3.alloc B3.lt o).cells.2.2.2.2.1; have HB3 := Lib.hid B3; have HR3 := Lib.hid R3; have HL3 := Lib.hid L3; clear B3 R3 L3 hb'))
          all_goals go_wp2
          all_goals refine ⟨⟨i + 1, hlt, by go_num, ((HL3.out.alloc _).low HL4.out).set 4 _, _, _, HB4.out.set4 _, HR4.out.set hgR (fun h => h) 4 _⟩, ?_⟩
          all_goals simp [intOf]
          all_goals omega
        · have e : i = 60 := by omega
          subst e
          rw [show ((60 : Nat) : Int) = 60 from rfl]
          have hV := HV.out wr hL
          have hbr := hL.below hbR hwR
          have hwW : w.heap.size ≤ wr.heap.size := hbr.size
          have hl60 : (Vt.nums 60).Lies wr (fun k => k < wr.heap.size) _ := hRow.lies (fun k h _ => h.elim) (fun k _ h => h) 5 0 0 ⟨#[]⟩ (by decide) 0 (fun _ => ⟨#[]⟩) none 0 ⟨Nat.le_refl _, by decide, fun j hj => absurd hj (by omega)⟩
          have hgR3 : gR < wr.heap.size := hB.lt
          have HB2 := Lib.hid hB
          have HL60 := Lib.hid hl60
          have HV2 := Lib.hid hV
          clear hB hRow hL hV hl60 HV
          go_wp2
          have hgW : wr.heap.size < (wr.alloc (.cells #[.int .i64 5, .int .i64 0, .int .u64 0, .string ⟨#[]⟩, .slice none 0 0, .slice none 0 0] 26)).heap.size := by simp
          have BW : Vm.Box _ _ _ _ _ _ _ _ := ⟨Vm.Has.new wr (.cells #[.int .i64 5, .int .i64 0, .int .u64 0, .string ⟨#[]⟩, .slice none 0 0, .slice none 0 0] 26) _ rfl⟩
          have HLB : Hid (∀ W', Vr.Lo (wr.alloc (.cells #[.int .i64 5, .int .i64 0, .int .u64 0, .string ⟨#[]⟩, .slice none 0 0, .slice none 0 0] 26)) W' wr.heap.size → Below wr.heap.size wr W') := fun W' hL => hL.below ((Below.refl _ _).alloc (Nat.le_refl _) _) (Nat.le_refl _)
          generalize wr.alloc (.cells #[.int .i64 5, .int .i64 0, .int .u64 0, .string ⟨#[]⟩, .slice none 0 0, .slice none 0 0] 26) = W3 at *
          obtain ⟨wq, hwq⟩ : ∃ wq, wq = wr := ⟨wr, rfl⟩
          subst hwq
          generalize hgg : wq.heap.size = gW at *
          have HGG := Lib.hid hgg
          clear hgg
          go_loopw [12] (fun ix w5 => ∃ i : Nat, i ≤ q + 1 ∧ ix = .int .i64 (i : Int) ∧ Vr.Lo W3 w5 gW ∧ ∃ ai c, Vm.Box w5 gW (.int .i64 5) (.int .i64 0) (.int .u64 0) (.string ⟨#[]⟩) (.slice ai i c) (.slice none 0 0) ∧ Vr.Row (fun k => k < gW) W3.heap.size (fun _ => Vt.nums 60) i w5 (.slice ai i c)) (fun ix _ => 21 - (intOf ix).toNat)
          case atStart => exact ⟨0, Nat.zero_le _, by go_num, Vr.Lo.refl _ _, _, _, BW, Vr.Row.nil _ _ _ _⟩
          case round =>
            obtain ⟨i, hi, rfl, hL, ai', c', hB, hRow⟩ := hrel
            clear BW
            have hb5 := HLB.out _ hL
            have hB5 : Vm.Box wr gR _ _ _ _ _ _ := ⟨(hb5.block gR hgR3).trans HB2.out.all⟩
            by_cases hlt : i < q + 1
            · have d1 : decide ((i : Int) < 1 + (q : Int)) = true := decide_eq_true (by omega)
              have hlc : (Vt.nums 60).Lies wr (fun k => k < gW ∧ k < wr.heap.size ∧ (Value.slice ai' i c').ownBlock ≠ some k) _ := HL60.out.on fun k hk => ⟨⟨hk, by have := hb5.size; have := HGG.out; omega, hRow.ne (by omega)⟩, hb5.block k hk⟩
              obtain ⟨z0, z1, z2, z3, z4, z5⟩ := hB5.cells
              have y4 := hB.cells.2.2.2.2.1
              have HB := Lib.hid hB
              have HRow := Lib.hid hRow
              have HL := Lib.hid hL
              have HLC := Lib.hid hlc
              clear hB hRow hL hlc hb5 hB5
              have HLA : Hid (∀ o, (Vt.nums 60).Lies (wr.alloc o) (fun k => k < gW ∧ k < (wr.alloc o).heap.size ∧ (Value.slice ai' i c').ownBlock ≠ some k) (.agg #[.int .i64 5, .int .i64 0, .int .u64 ((0 : Nat) : Int), .string ⟨#[]⟩, .slice ai 60 c, .slice none 0 0])) := fun o => HLC.out.on fun k hk => ⟨⟨hk.1, by simp; omega, hk.2.2⟩, Below.heap_alloc _ _ _ hk.2.1⟩
              go_wp2_with (at_builtin; refine Vr.push rfl _ _ rfl (.slice ai' i c') rfl (HRow.out.alloc (gB := gW) hgW (by omega) _) wr.heap.size 5 0 0 ⟨#[]⟩ ai 60 c none 0 0 rfl (Vm.Has.new wr _ _ rfl) (HLA.out _) (by omega) (by have := HL.out.size; simp; omega) ?_)
              intro v' w6 R6 hb6
              obtain ⟨a6, d6, rfl, _, _⟩ := R6.form
              have B6 : Vm.Box w6 gW _ _ _ _ _ _ := ⟨(hb6.block gW hgW).trans (HB.out.alloc HB.out.lt _).all⟩
              have c6 := B6.cells.2.2.2.2.1
              have f6 := B6.frozen 4
              have HB6 := Lib.hid B6
              have HR6 := Lib.hid R6
              have HL6 := Lib.hid hb6
              clear B6 R6 hb6 z0 z1 z2 z3 z4 z5 y4
              go_wp2
              refine ⟨⟨i + 1, by omega, by go_num, ((HL.out.alloc _).low HL6.out).set 4 _, _, _, HB6.out.set4 _, HR6.out.set (gB := gW) hgW (by omega) 4 _⟩, ?_⟩
              simp [intOf]
              omega
            · have e : i = q + 1 := by omega
              subst e
              have d1 : decide ((q : Int) + 1 < 1 + (q : Int)) = false := decide_eq_false (by omega)
              have hV := HV2.out.on (W' := wr) (by rw [HGG.out]; exact hb5)
              obtain ⟨k1, x1, b1, s1, ai1, n1, c1, ak1, m1, e1, hBv, hlv⟩ := hV.lies
              have hB := hB
              have hlw : (Vt.wide (q + 1)).Lies wr (fun k => k < wr.heap.size) _ := hRow.lies (fun k _ h => h) (fun k _ h => h) 5 0 0 ⟨#[]⟩ (by decide) 0 (fun _ => ⟨#[]⟩) none 0 ⟨Nat.le_refl _, by decide, fun j hj => absurd hj (by omega)⟩
              have hbF := Vm.then hbr (by rw [HGG.out]; exact hb5)
              have HLW := Lib.hid hlw
              have HLV := Lib.hid hlv
              obtain ⟨z0, z1, z2, z3, z4, z5⟩ := hBv.cells
              have HBW := Lib.hid hB
              clear hV hBv hlv hlw hRow hB hL hB5 hb5 hbr
              go_wp2_with fail
              clear z0 z1 z2 z3 z4 z5
              refine (Vm.may (Vt.chain j) _ _ HLV.out).mono ?_
              rintro e w7 ⟨rfl, hb7⟩
              rw [Vd.may j hr]
              obtain ⟨z0, z1, z2, z3, z4, z5⟩ := (HBW.out.on HBW.out.lt hb7).cells
              have HLW7 := Lib.hid (HLW.out.on' hb7)
              have hbG := Vm.then hbF hb7
              clear hb7 hbF HLW HLV
              go_wp2_with fail
              clear z0 z1 z2 z3 z4 z5
              refine (Vm.may (Vt.wide (q + 1)) _ _ HLW7.out).mono ?_
              rintro e w8 ⟨rfl, hb8⟩
              rw [Vd.wide q hq]
              have hbH := Vm.then hbG hb8
              clear hb8 hbG HLW7
              go_wp2
              go_ret
              exact ⟨rfl, hbH⟩
end Go.Proofs.YtmiabkoodoekdaaDoor

/-
  THE WALK of stolelaw7.TreeDeep: whatever the number, the call returns true.
-/
import Derived.Test.YthfobjkdcncoiaaUTs
import Derived.Test.YthfobjkdcncoiaaUPlain2
namespace Go.Proofs.Ythfobjkdcncoiaa
open Go.RowKit
theorem Dp.and6 (n : Int) : bits .and .i64 n 63 = n % 64 := by
  have hm : (BitVec.ofInt 64 63).toNat = 2 ^ 6 - 1 := by decide
  have key : (BitVec.ofInt 64 n &&& BitVec.ofInt 64 63).toNat = (n % ((2 ^ 64 : Nat) : Int)).toNat % 2 ^ 6 := by
    rw [BitVec.toNat_and, BitVec.toNat_ofInt, hm, Nat.and_two_pow_sub_one_eq_mod]
  show IntKind.i64.wrap ((BitVec.ofInt 64 n &&& BitVec.ofInt 64 63).toNat : Nat) = n % 64
  rw [key, IntKind.wrap_i64]
  omega
def Dp.p : Tk := ⟨1, ⟨#[112]⟩, Ts.e, [], false⟩
/-- as many begins one within the other: their parents -/
theorem Dp.run : ∀ k, k < 65 → (Bt.run Bt.start (List.replicate k Dp.p)).2 = true ∧ (Bt.run Bt.start (List.replicate k Dp.p)).1.out.map (·.parent) = (-1) :: (List.range k).map (fun i : Nat => (min (i : Int) 32)) := by decide +kernel
theorem Dp.may (k : Nat) : ∀ t ∈ List.replicate k Dp.p, t.May := fun t ht => by
  rw [List.eq_of_mem_replicate ht]
  exact Tk.may_tag (.inl rfl) (by decide)
theorem Dp.bulk (k : Nat) : Bt.bulk (List.replicate k Dp.p) = 0 := by
  unfold Bt.bulk
  rw [List.map_replicate]
  show (List.replicate k 0).sum = 0
  induction k with
  | zero => rfl
  | succ k ih => rw [List.replicate_succ, List.sum_cons, ih]
theorem Dp.parent {k i : Nat} (hk : k < 65) (hi : i < k) {x : Nd} (hx : (Bt.run Bt.start (List.replicate k Dp.p)).1.out[i + 1]? = some x) : x.parent = min (i : Int) 32 := by
  have h := (Dp.run k hk).2
  have h2 : ((Bt.run Bt.start (List.replicate k Dp.p)).1.out.map (·.parent))[i + 1]? = some x.parent := by rw [List.getElem?_map, hx]; rfl
  rw [h, List.getElem?_cons_succ, List.getElem?_map, List.getElem?_range hi] at h2
  injection h2 with h2
  exact h2.symm
theorem Dp.len {k : Nat} (hk : k < 65) : (Bt.run Bt.start (List.replicate k Dp.p)).1.out.length = k + 1 := by
  have h := congrArg List.length (Dp.run k hk).2
  rw [List.length_map, List.length_cons, List.length_map, List.length_range] at h
  exact h
set_option maxRecDepth 100000 in
set_option maxHeartbeats 4000000 in
theorem Law.treeDeep (n : Int) (w : World) (_hn : -9223372036854775808 ≤ n ∧ n ≤ 9223372036854775807) :
    Calls Try.prog 7 #[.int .i64 n] w fun e w' => e = .returned (.bool true) ∧ Below w.heap.size w w' := by
  obtain ⟨k, hk, hk65, hk1⟩ : ∃ k : Nat, 1 + n % 64 = (k : Int) ∧ k < 65 ∧ 1 ≤ k := ⟨(1 + n % 64).toNat, by omega, by omega, by omega⟩
  have h6 := Dp.and6 n
  have hw1 : IntKind.i64.wrap (1 + n % 64) = (k : Int) := by rw [IntKind.wrap_i64]; omega
  have aw := Ta.awake w
  clear hk
  go_enter Try.func7, Try.ntmps7
  go_wp2_with (go_at_call 15; refine aw.mono ?_; rintro e w1 ⟨rfl, q1⟩; clear aw)
  have HQ1 := Lib.hid q1
  clear q1 h6 hw1
  go_loopw [4, 5] (fun out ix wr => ∃ (i : Nat), i ≤ k ∧ ix = .int .i64 (i : Int) ∧ Hid (Rm.Toks w.heap.size (List.replicate i Dp.p) wr out none) ∧ Hid (Below w.heap.size w wr)) (fun _ ix _ => k - (intOf ix).toNat)
  case atStart => exact ⟨0, Nat.zero_le _, rfl, Um.toks_nil _ _, HQ1.out⟩
  case round =>
    clear HQ1
    obtain ⟨i, hi, rfl, HT, HB⟩ := hrel
    by_cases hlt : i < k
    · have d1 : decide ((i : Int) < (k : Int)) = true := decide_eq_true (by omega)
      obtain ⟨xs, hx⟩ := id HT.out
      obtain ⟨ua, ud, hu⟩ := Ts7.form HT.out
      rw [List.length_replicate] at hu
      subst hu
      have HX := Lib.hid hx
      have HO : Hid (wr.ownsRow w.heap.size 41 5 (.slice ua i ud) i xs) := by have := hx.1; rw [List.length_replicate] at this; exact this
      have hws := HB.out.size
      clear hx
      go_wp2_with (first | (go_at_call 16; refine (Ts7.start _ _).mono ?_; rintro e w2 ⟨rfl, b2⟩; have HO2 : Hid (w2.ownsRow w.heap.size 41 5 (.slice ua i ud) i xs) := Rm.own_on HO.out (fun k hk => b2.block k (HO.out.lt k hk).2); have s2 := b2.size; have HB2 := Lib.hid b2; clear b2) | (at_builtin; refine Ro.push rfl _ _ 22 41 5 72 _ rfl Try.underlying22 Rm.infoT rfl (by decide) _ rfl (HO2.out.alloc _) w2.heap.size (Rm.five Dp.p (.slice none 0 0)) rfl (Rm.five_cells w2 Dp.p _ _ rfl) rfl (Rm.five_one _ _ _ _) (by unfold maxLen; omega) (by omega) (by simp; omega) ?_))
      intro v5 w5 R5 hg5 hf5
      have hq5 : Below wr.heap.size wr (w2.alloc (.cells #[.int .i64 1, .string ⟨#[112]⟩, .string ⟨#[]⟩, .slice none 0 0, .bool false] 41)) := HB2.out.alloc HB2.out.size _
      have HT5 : Hid (Rm.Toks w.heap.size (List.replicate (i + 1) Dp.p) w5 v5 none) := by
        unfold Hid
        rw [List.replicate_succ']
        exact Ts7.push HT.out hq5 rfl xs HX.out (by rw [List.length_replicate]; exact R5) hg5 (by simpa using hf5)
      have HB5 := Lib.hid ((HB.out.trans (hq5.mono hws)).grown hg5 (by simp; omega) (fun k hk => (HO.out.lt k hk).1))
      clear R5 hg5 hf5 hq5
      go_wp2
      go_roundw
      case rel => exact ⟨i + 1, by omega, by go_num, HT5, HB5⟩
      case measure => simp [intOf]; omega
    · have e : i = k := by omega
      subst e
      have d1 : decide ((i : Int) < (i : Int)) = false := decide_eq_false (by omega)
      obtain ⟨ua, ud, hu⟩ := Ts7.form HT.out
      have bu := Pg.ok (List.replicate i Dp.p) ua ud wr (by rw [← hu]; exact HT.out.lies.on fun k hk => ⟨hk.2, rfl⟩) (by rw [Dp.bulk]; decide) (Dp.may i) (Dp.run i hk65).1
      have hlen := Dp.len hk65
      rw [List.length_replicate] at hu bu
      rw [hlen] at bu
      subst hu
      have hw2 : IntKind.i64.wrap ((i : Int) + 1) = (i : Int) + 1 := by rw [IntKind.wrap_i64]; omega
      have t1 : (((i : Int) + 1) != ((i : Int) + 1)) = false := by simp
      have HP : Hid (∀ j x, j < i → (Bt.run Bt.start (List.replicate i Dp.p)).1.out[j + 1]? = some x → x.parent = min (j : Int) 32) := fun j x hj hx => Dp.parent hk65 hj hx
      have HLEN := Lib.hid hlen
      generalize (Bt.run Bt.start (List.replicate i Dp.p)).1.out = ns at *
      clear hlen HT
      go_wp2_with (first | (go_at_call 9; refine bu.mono ?_; rintro e w6 ⟨a6, d6, rfl, l6, b6⟩; clear bu; have HL6 := Lib.hid l6; have HB6 := Lib.hid (HB.out.trans (b6.mono HB.out.size)); clear l6 b6) | (go_at_call 12; refine (Ta.num _ _).mono ?_; rintro e w' ⟨rfl, hw⟩; have hw := hw.symm; subst hw))
      go_loopw [8] (fun ix wr => ∃ j : Nat, 1 ≤ j ∧ j ≤ i + 1 ∧ ix = .int .i64 (j : Int) ∧ wr = w6) (fun ix _ => i + 1 - (intOf ix).toNat)
      case atStart => exact ⟨1, by omega, by omega, rfl, rfl⟩
      case round =>
        obtain ⟨j, hj1, hj2, rfl, rfl⟩ := hrel
        by_cases hlt2 : j ≤ i
        · have d3 : decide ((j : Int) ≤ (i : Int)) = true := decide_eq_true (by omega)
          obtain ⟨a', d', e, h1, h2, hx⟩ := id HL6.out
          injection e with e1 e2 e3
          subst e1
          subst e3
          obtain ⟨y, hy⟩ : ∃ y, ns[j]? = some y := ⟨_, List.getElem?_eq_getElem (by have := HLEN.out; omega)⟩
          obtain ⟨b, o, av, rfl, _, c0, c1, c2, c3, c4, _⟩ := hx j y hy
          have hpar := HP.out (j - 1) y (by omega) (by rw [show j - 1 + 1 = j by omega]; exact hy)
          have hjd : j < d6 := by have := HLEN.out; omega
          have hw3 : IntKind.i64.wrap ((j : Int) - 1) = ((j - 1 : Nat) : Int) := by rw [IntKind.wrap_i64]; omega
          rw [hpar] at c4
          clear hx hy hpar c0 c1 c2 c3 h1 h2 e2
          go_wp2
          go_roundw
          case rel => exact ⟨j + 1, by omega, by omega, by go_num, trivial⟩
          case measure => simp [intOf]; omega
        · have d3 : decide ((j : Int) ≤ (i : Int)) = false := decide_eq_false (by omega)
          go_wp2
          go_ret
          exact ⟨rfl, HB6.out⟩
end Go.Proofs.Ythfobjkdcncoiaa

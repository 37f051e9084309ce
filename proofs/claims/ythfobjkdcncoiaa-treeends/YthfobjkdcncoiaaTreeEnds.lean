/-
  THE WALK of stolelaw7.TreeEnds.
-/
import Derived.Test.YthfobjkdcncoiaaUEndsGood
namespace Go.Proofs.Ythfobjkdcncoiaa
open Go.RowKit
set_option maxRecDepth 100000 in
set_option maxHeartbeats 4000000 in
theorem Law.treeEnds (a0 : Option Addr) (n0 c0 : Nat) (w : World) (hc0 : n0 ≤ c0 ∧ c0 ≤ 9223372036854775807) (hN : ∀ i, i < n0 → ∃ b o x, a0 = some ⟨b, o, none⟩ ∧ b < w.heap.size ∧ w.cell? ⟨b, o + i, none⟩ = some (.int .i64 x) ∧ -9223372036854775808 ≤ x ∧ x ≤ 9223372036854775807) :
    Calls Try.prog 5 #[.slice a0 n0 c0] w fun e w' => e = .returned (.bool true) ∧ Below w.heap.size w w' := by
  have aw := Ta.awake w
  have HN := Lib.hid hN
  obtain ⟨hc1, hc2⟩ := hc0
  clear hN
  go_enter Try.func5, Try.ntmps5
  go_wp2_with (go_at_call 15; refine aw.mono ?_; rintro e w1 ⟨rfl, q1⟩; clear aw)
  have HAll : Hid (∀ k, k < 5 → (w1.alloc (.cells #[.string ⟨#[97]⟩, .string ⟨#[98]⟩, .string ⟨#[99]⟩, .string ⟨#[98, 114]⟩, .string ⟨#[105, 109, 103]⟩] 9)).cell? ⟨w1.heap.size, k, none⟩ = some (.string (Te.nm k))) := fun k hk => by
    have hh : (w1.alloc (.cells #[.string ⟨#[97]⟩, .string ⟨#[98]⟩, .string ⟨#[99]⟩, .string ⟨#[98, 114]⟩, .string ⟨#[105, 109, 103]⟩] 9)).heap[w1.heap.size]? = some (.cells #[.string ⟨#[97]⟩, .string ⟨#[98]⟩, .string ⟨#[99]⟩, .string ⟨#[98, 114]⟩, .string ⟨#[105, 109, 103]⟩] 9) := Array.getElem?_push_size
    generalize w1.alloc _ = W at *
    unfold World.cell?
    rw [hh]
    have : k = 0 ∨ k = 1 ∨ k = 2 ∨ k = 3 ∨ k = 4 := by omega
    rcases this with rfl | rfl | rfl | rfl | rfl <;> rfl
  have HQ : Hid (Below w.heap.size w (w1.alloc (.cells #[.string ⟨#[97]⟩, .string ⟨#[98]⟩, .string ⟨#[99]⟩, .string ⟨#[98, 114]⟩, .string ⟨#[105, 109, 103]⟩] 9))) := q1.alloc q1.size _
  have hws : w1.heap.size < (w1.alloc (.cells #[.string ⟨#[97]⟩, .string ⟨#[98]⟩, .string ⟨#[99]⟩, .string ⟨#[98, 114]⟩, .string ⟨#[105, 109, 103]⟩] 9)).heap.size := by simp
  clear q1
  generalize w1.alloc _ = W at *
  generalize w1.heap.size = g at *
  go_loopw [4, 5, 6, 7] (fun tv ov av ix wr => ∃ (i : Nat) (ts : List Tk) (op wa : List Nat), i ≤ n0 ∧ i ≤ 40 ∧ ix = .int .i64 (i : Int) ∧ Hid (Te.Mem W.heap.size wr tv ov av ts op wa) ∧ Hid (Te.Good ts op wa i) ∧ Hid (Below W.heap.size W wr)) (fun _ _ _ ix _ => 40 - (intOf ix).toNat)
  case atStart => exact ⟨0, [], [], [], Nat.zero_le _, Nat.zero_le _, rfl, Te.Mem.nil _ _, Te.Good.start, Below.refl _ _⟩
  case round =>
    obtain ⟨i, ts, op, wa, hi0, hi40, rfl, HM, HG, HB⟩ := hrel
    have e := HG.out.len
    subst e
    by_cases hlt : ts.length < n0 ∧ ts.length < 40
    · obtain ⟨hlt, hl40⟩ := hlt
      have d1 : decide ((ts.length : Int) < (n0 : Int)) = true := decide_eq_true (by omega)
      have d2 : decide ((ts.length : Int) < 40) = true := decide_eq_true (by omega)
      obtain ⟨b, o, x, rfl, hb, hx, hx1, hx2⟩ := HN.out ts.length hlt
      have hic : ts.length < c0 := by omega
      have cx : wr.cell? ⟨b, o + ts.length, none⟩ = some (.int .i64 x) := by rw [HB.out.cell (Nat.lt_of_lt_of_le hb HQ.out.size), HQ.out.cell hb]; exact hx
      clear hx
      by_cases hneg : x.tmod 5 < 0
      · have d3 : decide (x.tmod 5 < 0) = true := decide_eq_true hneg
        clear hneg
        go_wp2
        go_ret
        exact ⟨rfl, HQ.out.trans (HB.out.mono HQ.out.size)⟩
      · obtain ⟨kk, hkk⟩ : ∃ kk : Nat, x.tmod 5 = (kk : Int) := ⟨(x.tmod 5).toNat, by omega⟩
        have hk5 : kk < 5 := by have := Int.tmod_lt_of_pos x (show (0 : Int) < 5 by decide); omega
        have d3 : decide ((kk : Int) < 0) = false := decide_eq_false (by omega)
        obtain ⟨ta, td, hta⟩ := Um.form HM.out.t
        subst hta
        have hca : ∀ u : World, Below W.heap.size W u → u.cell? ⟨g, kk, none⟩ = some (.string (Te.nm kk)) := fun u hu => by rw [hu.cell hws]; exact HAll.out kk hk5
        have ck := hca wr HB.out
        have HCA := Lib.hid hca
        have hne := Te.nm_ne kk
        have hkd := Te.nm_kind kk hk5
        have HKD := Lib.hid hkd
        have HNE := Lib.hid hne
        generalize Te.nm kk = nm at *
        clear hneg hca hkd hne
        by_cases hbit : bits .and .i64 (x / 16) 1 = 0
        · have HO := Lib.hid HM.out.t
          have hbs := HB.out.size
          go_upto_region 15 with (first | (go_at_call 16; refine (Ts7.start _ _).mono ?_; rintro e w2 ⟨rfl, b2⟩; have HO2 : Hid (w2.ownsRow W.heap.size 41 5 (.slice ta ts.length td) ts.length (Te.cells ts)) := Rm.own_on HO.out (fun k hk => b2.block k (HO.out.lt k hk).2); have s2 := b2.size; have HB2 := Lib.hid b2; clear b2) | (at_builtin; refine Ro.push rfl _ _ 22 41 5 72 _ rfl Try.underlying22 Rm.infoT rfl (by decide) _ rfl (HO2.out.alloc _) w2.heap.size (Rm.five (Te.beg nm) (.slice none 0 0)) rfl (Rm.five_cells w2 (Te.beg nm) _ _ rfl) rfl (Rm.five_one _ _ _ _) (by unfold maxLen; omega) (by omega) (by simp; omega) ?_; intro v5 w5 R5 hg5 hf5))
          have hq5 : Below wr.heap.size wr (w2.alloc (.cells #[.int .i64 1, .string nm, .string ⟨#[]⟩, .slice none 0 0, .bool false] 41)) := HB2.out.alloc HB2.out.size _
          have HM5 : Hid (Te.Mem W.heap.size w5 v5 u5 u6 (ts ++ [Te.beg nm]) op wa) := HM.out.pushT hq5 (.inl rfl) hg5 (hf5.imp id fun e => ⟨_, e, by simp; omega⟩) (by rw [Te.cells_snoc, List.length_append]; exact R5)
          have HB5 : Hid (Below W.heap.size W w5) := (HB.out.trans (hq5.mono hbs)).grown hg5 (by simp; omega) (fun k hk => (HO.out.lt k hk).1)
          clear R5 hg5 hf5 hq5 HO2 HB2 s2 HO
          obtain ⟨oa, od, hoa⟩ := Um.form HM5.out.o
          subst hoa
          obtain ⟨aa, ad, haa⟩ := Um.form HM5.out.a
          subst haa
          have HGN := Lib.hid (HG.out.begin hl40 nm HNE.out)
          have hop := HG.out.op
          have hwa := HG.out.wa
          have HAO := Lib.hid HM5.out.a
          have s5 : W.heap.size ≤ w5.heap.size := HB5.out.size
          clear ck cx hbit
          by_cases hz : op.length = 0
          · have hz2 := List.eq_nil_of_length_eq_zero hz
            subst hz2
            have HPL : Hid (([] : List Nat).getLastD 0 = 0) := rfl
            clear hz
            go_upto_region 19 with (at_builtin; refine Ro.push rfl _ _ 39 3 1 8 _ rfl Try.underlying39 Um.infoI rfl (by decide) _ rfl (HAO.out.alloc _) w5.heap.size [.int .i64 0] rfl (Um.one_int _ _ _ rfl) rfl (by simp [Value.oneCell']) (by unfold maxLen; omega) (by omega) (by simp; omega) ?_; intro v6 w6 R6 hg6 hf6)
            have hq6 : Below w5.heap.size w5 (w5.alloc (.cells #[.int .i64 0] 3)) := (Below.refl _ _).alloc (Nat.le_refl _) _
            have HM6 : Hid (Te.Mem W.heap.size w6 v5 (.slice oa ([] : List Nat).length od) v6 (ts ++ [Te.beg nm]) [] (wa ++ [([] : List Nat).getLastD 0])) := HM5.out.pushA hq6 (.inl rfl) hg6 (hf6.imp id fun e => ⟨_, e, by simp⟩) (by rw [List.length_append, Um.ints_append, HPL.out]; exact R6)
            have HB6 : Hid (Below W.heap.size W w6) := (HB5.out.trans (hq6.mono s5)).grown hg6 (by simp; omega) (fun k hk => (HAO.out.lt k hk).1)
            clear R6 hg6 hf6 hq6
            obtain ⟨a6, d6, ha6⟩ := Um.form HM6.out.a
            rw [List.length_append] at ha6
            subst ha6
            have HOO := Lib.hid HM6.out.o
            have s6 : W.heap.size ≤ w6.heap.size := HB6.out.size
            by_cases q3 : kk < 3
            · have e3 : decide ((kk : Int) < 3) = true := decide_eq_true (by omega)
              by_cases q4 : ([] : List Nat).length < 32
              · skip
                have HGN2 := HGN.out
                rw [if_pos ⟨HKD.out.2 q3, q4⟩] at HGN2
                have HGN2 := Lib.hid HGN2
                clear q3 q4
                go_wp2_with (at_builtin; refine Ro.push rfl _ _ 39 3 1 8 _ rfl Try.underlying39 Um.infoI rfl (by decide) _ rfl (HOO.out.alloc _) w6.heap.size [.int .i64 ((wa.length : Int) + 1)] rfl (Um.one_int _ _ _ rfl) rfl (by simp [Value.oneCell']) (by unfold maxLen; omega) (by omega) (by simp; omega) ?_; intro v7 w7 R7 hg7 hf7)
                have hq7 : Below w6.heap.size w6 (w6.alloc (.cells #[.int .i64 ((wa.length : Int) + 1)] 3)) := (Below.refl _ _).alloc (Nat.le_refl _) _
                have HM7 : Hid (Te.Mem W.heap.size w7 v5 v7 (.slice a6 (wa.length + 1) d6) (ts ++ [Te.beg nm]) (([] : List Nat) ++ [wa.length + 1]) (wa ++ [([] : List Nat).getLastD 0])) := HM6.out.pushO hq7 (.inl rfl) hg7 (hf7.imp id fun e => ⟨_, e, by simp⟩) (by rw [List.length_append, Um.ints_append]; exact R7)
                have HB7 : Hid (Below W.heap.size W w7) := (HB6.out.trans (hq7.mono s6)).grown hg7 (by simp; omega) (fun k hk => (HOO.out.lt k hk).1)
                clear R7 hg7 hf7 hq7
                go_wp2
                go_roundw
                case rel => exact ⟨ts.length + 1, _, _, _, by omega, by omega, by go_num, HM7, HGN2, HB7⟩
                case measure => simp [intOf]; omega
              · exact absurd (by decide) q4
            · have e3 : decide ((kk : Int) < 3) = false := decide_eq_false (by omega)
              have HGN2 := HGN.out
              rw [if_neg (fun q => q3 (HKD.out.1 q.1))] at HGN2
              have HGN2 := Lib.hid HGN2
              clear q3
              go_wp2
              go_roundw
              case rel => exact ⟨ts.length + 1, _, _, _, by omega, by omega, by go_num, HM6, HGN2, HB6⟩
              case measure => simp [intOf]; omega
          · have d5 : decide ((0 : Int) < (op.length : Int)) = true := decide_eq_true (by omega)
            obtain ⟨pl, hpl⟩ : ∃ pl, op[op.length - 1]? = some pl := ⟨_, List.getElem?_eq_getElem (by omega)⟩
            have HPL : Hid (op.getLastD 0 = pl) := by unfold Hid; rw [List.getLastD_eq_getLast?, List.getLast?_eq_getElem?, hpl]; rfl
            obtain ⟨ob, rfl, cp, hod⟩ := Te.int HM5.out.o hpl
            have hw5 : IntKind.i64.wrap ((op.length : Int) - 1) = ((op.length - 1 : Nat) : Int) := by rw [IntKind.wrap_i64]; omega
            have hlo : op.length - 1 < op.length := by omega
            have hld : op.length - 1 < od := by omega
            clear hz hpl
            go_upto_region 19 with (at_builtin; refine Ro.push rfl _ _ 39 3 1 8 _ rfl Try.underlying39 Um.infoI rfl (by decide) _ rfl (HAO.out.alloc _) w5.heap.size [.int .i64 (pl : Int)] rfl (Um.one_int _ _ _ rfl) rfl (by simp [Value.oneCell']) (by unfold maxLen; omega) (by omega) (by simp; omega) ?_; intro v6 w6 R6 hg6 hf6)
            have hq6 : Below w5.heap.size w5 (w5.alloc (.cells #[.int .i64 (pl : Int)] 3)) := (Below.refl _ _).alloc (Nat.le_refl _) _
            have HM6 : Hid (Te.Mem W.heap.size w6 v5 (.slice (some ⟨ob, 0, none⟩) op.length od) v6 (ts ++ [Te.beg nm]) op (wa ++ [op.getLastD 0])) := HM5.out.pushA hq6 (.inl rfl) hg6 (hf6.imp id fun e => ⟨_, e, by simp⟩) (by rw [List.length_append, Um.ints_append, HPL.out]; exact R6)
            have HB6 : Hid (Below W.heap.size W w6) := (HB5.out.trans (hq6.mono s5)).grown hg6 (by simp; omega) (fun k hk => (HAO.out.lt k hk).1)
            clear R6 hg6 hf6 hq6
            obtain ⟨a6, d6, ha6⟩ := Um.form HM6.out.a
            rw [List.length_append] at ha6
            subst ha6
            have HOO := Lib.hid HM6.out.o
            have s6 : W.heap.size ≤ w6.heap.size := HB6.out.size
            by_cases q3 : kk < 3
            · have e3 : decide ((kk : Int) < 3) = true := decide_eq_true (by omega)
              by_cases q4 : op.length < 32
              · have e4 : decide ((op.length : Int) < 32) = true := decide_eq_true (by omega)
                have HGN2 := HGN.out
                rw [if_pos ⟨HKD.out.2 q3, q4⟩] at HGN2
                have HGN2 := Lib.hid HGN2
                clear q3 q4
                go_wp2_with (at_builtin; refine Ro.push rfl _ _ 39 3 1 8 _ rfl Try.underlying39 Um.infoI rfl (by decide) _ rfl (HOO.out.alloc _) w6.heap.size [.int .i64 ((wa.length : Int) + 1)] rfl (Um.one_int _ _ _ rfl) rfl (by simp [Value.oneCell']) (by unfold maxLen; omega) (by omega) (by simp; omega) ?_; intro v7 w7 R7 hg7 hf7)
                have hq7 : Below w6.heap.size w6 (w6.alloc (.cells #[.int .i64 ((wa.length : Int) + 1)] 3)) := (Below.refl _ _).alloc (Nat.le_refl _) _
                have HM7 : Hid (Te.Mem W.heap.size w7 v5 v7 (.slice a6 (wa.length + 1) d6) (ts ++ [Te.beg nm]) (op ++ [wa.length + 1]) (wa ++ [op.getLastD 0])) := HM6.out.pushO hq7 (.inl rfl) hg7 (hf7.imp id fun e => ⟨_, e, by simp⟩) (by rw [List.length_append, Um.ints_append]; exact R7)
                have HB7 : Hid (Below W.heap.size W w7) := (HB6.out.trans (hq7.mono s6)).grown hg7 (by simp; omega) (fun k hk => (HOO.out.lt k hk).1)
                clear R7 hg7 hf7 hq7
                go_wp2
                go_roundw
                case rel => exact ⟨ts.length + 1, _, _, _, by omega, by omega, by go_num, HM7, HGN2, HB7⟩
                case measure => simp [intOf]; omega
              · have e4 : decide ((op.length : Int) < 32) = false := decide_eq_false (by omega)
                have HGN2 := HGN.out
                rw [if_neg (fun q => q4 q.2)] at HGN2
                have HGN2 := Lib.hid HGN2
                clear q3 q4
                go_wp2
                go_roundw
                case rel => exact ⟨ts.length + 1, _, _, _, by omega, by omega, by go_num, HM6, HGN2, HB6⟩
                case measure => simp [intOf]; omega
            · have e3 : decide ((kk : Int) < 3) = false := decide_eq_false (by omega)
              have HGN2 := HGN.out
              rw [if_neg (fun q => q3 (HKD.out.1 q.1))] at HGN2
              have HGN2 := Lib.hid HGN2
              clear q3
              go_wp2
              go_roundw
              case rel => exact ⟨ts.length + 1, _, _, _, by omega, by omega, by go_num, HM6, HGN2, HB6⟩
              case measure => simp [intOf]; omega
        · have q0 : (bits .and .i64 (x / 16) 1 == 0) = false := by rw [beq_eq_false_iff_ne]; exact hbit
          have HO := Lib.hid HM.out.t
          have hbs := HB.out.size
          go_upto_region 22 with (first | (go_at_call 17; refine (Ts7.end _ _).mono ?_; rintro e w2 ⟨rfl, b2⟩; have HO2 : Hid (w2.ownsRow W.heap.size 41 5 (.slice ta ts.length td) ts.length (Te.cells ts)) := Rm.own_on HO.out (fun k hk => b2.block k (HO.out.lt k hk).2); have s2 := b2.size; have HB2 := Lib.hid b2; clear b2) | (at_builtin; refine Ro.push rfl _ _ 22 41 5 72 _ rfl Try.underlying22 Rm.infoT rfl (by decide) _ rfl (HO2.out.alloc _) w2.heap.size (Rm.five (Te.fin nm) (.slice none 0 0)) rfl (Rm.five_cells w2 (Te.fin nm) _ _ rfl) rfl (Rm.five_one _ _ _ _) (by unfold maxLen; omega) (by omega) (by simp; omega) ?_; intro v5 w5 R5 hg5 hf5))
          have hq5 : Below wr.heap.size wr (w2.alloc (.cells #[.int .i64 2, .string nm, .string ⟨#[]⟩, .slice none 0 0, .bool false] 41)) := HB2.out.alloc HB2.out.size _
          have HM5 : Hid (Te.Mem W.heap.size w5 v5 u5 u6 (ts ++ [Te.fin nm]) op wa) := HM.out.pushT hq5 (.inl rfl) hg5 (hf5.imp id fun e => ⟨_, e, by simp; omega⟩) (by rw [Te.cells_snoc, List.length_append]; exact R5)
          have HB5 : Hid (Below W.heap.size W w5) := (HB.out.trans (hq5.mono hbs)).grown hg5 (by simp; omega) (fun k hk => (HO.out.lt k hk).1)
          obtain ⟨a5, d5, ha5⟩ := Um.form R5
          subst ha5
          clear R5 hg5 hf5 hq5 HO2 HB2 s2 HO
          obtain ⟨oa, od, hoa⟩ := Um.form HM5.out.o
          subst hoa
          obtain ⟨aa, ad, haa⟩ := Um.form HM5.out.a
          subst haa
          have hop := HG.out.op
          have hwa := HG.out.wa
          have HBR : Hid (∀ t ∈ ts ++ [Te.fin nm], t.attrs = []) := Te.snoc HG.out.bare rfl
          have HTL : Hid (Tk.Lies w5 (fun k => W.heap.size ≤ k ∧ k < w5.heap.size) (ts ++ [Te.fin nm]) (.slice a5 (ts.length + 1) d5)) := (Te.toks HM5.out.t HBR.out).lies
          have ck5 := HCA.out w5 HB5.out
          have hw0 : IntKind.i64.wrap ((op.length : Int) - 1) = (op.length : Int) - 1 := by rw [IntKind.wrap_i64]; omega
          clear ck cx hbit q0
          go_wp2_with fail
          go_loopw [5, 10] (fun ov2 jx wn => ∃ j1 n : Nat, j1 ≤ op.length ∧ ov2 = .slice oa op.length od ∧ jx = .int .i64 ((j1 : Int) - 1) ∧ Hid ((Bt.run Bt.start ts).1.find nm (op.length + 1) = (Bt.run Bt.start ts).1.find nm (j1 + 1)) ∧ wn = w5.drewN n) (fun _ jx _ => (intOf jx + 1).toNat)
          case atStart => exact ⟨op.length, 0, Nat.le_refl _, rfl, by first | rfl | go_num, rfl, rfl⟩
          case round =>
            obtain ⟨j1, n, hj1, rfl, rfl, HF, rfl⟩ := hrel
            have HMn : Hid (Te.Mem W.heap.size (w5.drewN n) (.slice a5 (ts.length + 1) d5) (.slice oa op.length od) (.slice aa wa.length ad) (ts ++ [Te.fin nm]) op wa) := HM5.out.on ⟨rfl, rfl, rfl, Nat.le_refl _, fun _ _ => rfl⟩
            have HBn : Hid (Below W.heap.size W (w5.drewN n)) := Um.drews HB5.out n
            cases j1 with
            | zero =>
              have e0 : (((0 : Nat) : Int) - 1) = -1 := rfl
              rw [e0]
              have HGN := Lib.hid (HG.out.keep hl40 nm HNE.out (HF.out.trans rfl))
              clear e0
              go_wp2
              go_roundw
              case rel => exact ⟨ts.length + 1, _, _, _, by omega, by omega, by go_num, HMn, HGN, HBn⟩
              case measure => simp [intOf]; omega
            | succ j =>
              have ej : (((j + 1 : Nat) : Int) - 1) = (j : Int) := by omega
              rw [ej]
              have d4 : decide ((0 : Int) ≤ (j : Int)) = true := decide_eq_true (by omega)
              obtain ⟨k, hk⟩ : ∃ k, op[j]? = some k := ⟨_, List.getElem?_eq_getElem (by omega)⟩
              obtain ⟨ob, rfl, co, hod⟩ := Te.int HM5.out.o hk
              obtain ⟨i, t, h1, h2, h3, h4⟩ := HG.out.rel.step nm hk
              obtain ⟨i', t', g1, g2, g3, g4⟩ := Te.old (t := Te.fin nm) ⟨i, t, h1, h2, h3, rfl⟩
              have hti : i' < ts.length + 1 := by have := (List.getElem?_eq_some_iff.1 g1).1; simpa using this
              have hlt5 : (ts ++ [Te.fin nm]).length = ts.length + 1 := by simp
              have at5 := fun n2 => Te.at (ts ++ [Te.fin nm]) a5 d5 (w5.drewN n2) (fun _ => True) (by rw [hlt5]; exact HTL.out.on fun _ _ => ⟨trivial, rfl⟩) (by rw [hlt5]; omega) g1 g2 g3
              rw [hlt5] at at5
              obtain ⟨a', d', e', _, _, hx⟩ := id HTL.out
              injection e' with e1 e2 e3
              subst e1
              subst e3
              obtain ⟨tb, tof, tav, rfl, _, c0, c1, _⟩ := hx i' t' g1
              rw [g4] at c1
              have hi5 : i' < d5 := by
                obtain ⟨a'', d'', e'', hh1, hh2, _⟩ := id HTL.out
                injection e'' with _ _ e5
                omega
              have hjd : j < od := by omega
              have hjo : j < op.length := by omega
              have HK := Lib.hid h4
              clear hx c0 g1 g2 g3 g4 h1 h2 h3 h4 e2 hk hlt5
              by_cases hn : t.name = nm
              · have e6 : (t.name.toList == nm.toList) = true := by rw [hn]; simp
                have HFJ : Hid ((Bt.run Bt.start ts).1.find nm (op.length + 1) = j + 1) := by
                  unfold Hid
                  rw [HF.out, HK.out, if_pos hn]
                have HGN := Lib.hid (HG.out.cut hl40 nm HNE.out j HFJ.out)
                rw [hn] at c1
                have e6 : (nm.toList == nm.toList) = true := by simp
                clear hn HK HF HFJ
                go_upto_region 25 with fail
                go_quiet ((go_at_call 18; refine (at5 _).mono ?_; rintro e w' ⟨rfl, rfl⟩; exact ⟨rfl, _, rfl⟩))
                obtain ⟨U, hU⟩ : ∃ U, (w5.drewN n).drewN nq = U := ⟨_, rfl⟩
                have hbU : Below w5.heap.size w5 U := by rw [← hU]; exact ⟨rfl, rfl, rfl, Nat.le_refl _, fun _ _ => rfl⟩
                rw [hU]
                have HMU := Lib.hid (HM5.out.on hbU)
                have HBU : Hid (Below W.heap.size W U) := by unfold Hid; rw [← hU]; exact Um.drews (Um.drews HB5.out n) nq
                have hbsU : W.heap.size ≤ U.heap.size := HBU.out.size
                have hobU : ob < U.heap.size := (HMU.out.o.lt ob rfl).2
                have HKC : Hid (∀ o j2 y, (Um.ints (op.take j))[j2]? = some y → ∃ b, some (⟨ob, 0, none⟩ : Addr) = some b ∧ (U.alloc o).cell? (b.add j2) = some y) := fun o j2 y hj => by
                  refine ⟨_, rfl, ?_⟩
                  rw [Ro.add, Nat.zero_add, World.cell?_alloc_lt _ _ _ hobU]
                  have hjl : j2 < j := by
                    have := (List.getElem?_eq_some_iff.1 hj).1
                    rw [Um.ints_length, List.length_take] at this
                    omega
                  rw [HMU.out.o.cellAt j2 (by omega), ← hj]
                  unfold Um.ints
                  rw [List.getElem?_map, List.getElem?_map, List.getElem?_take, if_pos hjl]
                have HLN : Hid ((Um.ints (op.take j)).length = j * 1) := by unfold Hid; rw [Um.ints_length, List.length_take]; omega
                have hjd2 : j ≤ od := by omega
                clear hU hbU c1 co at5 ck5
                go_wp2_with (at_builtin; refine Um.copy rfl _ _ 39 3 1 8 _ rfl Try.underlying39 Um.infoI rfl (by decide) (base := W.heap.size) U.heap.size rfl (Um.noInts U W.heap.size hbsU) j (Um.ints (op.take j)) (some ⟨ob, 0, none⟩) od rfl (HKC.out _) HLN.out (Um.ints_one _) (by unfold maxLen; omega) (by omega) (by simp; omega) ?_; intro v7 w7 R7 hg7 hf7)
                have hq7 : Below U.heap.size U (U.alloc (.cells #[] 3)) := (Below.refl _ _).alloc (Nat.le_refl _) _
                have hl7 : (op.take j).length = j := by rw [List.length_take]; omega
                have HM7 : Hid (Te.Mem W.heap.size w7 (.slice (some ⟨tb, tof, none⟩) (ts.length + 1) d5) v7 (.slice aa wa.length ad) (ts ++ [Te.fin nm]) (op.take j) wa) := HMU.out.pushO hq7 (.inr ⟨_, rfl, Nat.le_refl _⟩) hg7 (by
                  rcases hf7 with q | q
                  · exact .inr ⟨_, q, Nat.le_refl _⟩
                  · exact .inr ⟨_, q, by simp⟩) (by rw [hl7]; exact R7)
                have HB7 : Hid (Below W.heap.size W w7) := (HBU.out.trans (hq7.mono hbsU)).grown hg7 (by simp; omega) (fun k hk => by have := Option.some.inj hk; omega)
                clear R7 hg7 hf7 hq7 hl7
                go_wp2
                go_roundw
                case rel => exact ⟨ts.length + 1, _, _, _, by omega, by omega, by go_num, HM7, HGN, HB7⟩
                case measure => simp [intOf]; omega
              · have e6 := Um.toList_ne hn
                have HF2 : Hid ((Bt.run Bt.start ts).1.find nm (op.length + 1) = (Bt.run Bt.start ts).1.find nm (j + 1)) := by
                  unfold Hid
                  rw [HF.out, HK.out, if_neg hn]
                have hw1 : IntKind.i64.wrap ((j : Int) - 1) = (j : Int) - 1 := by rw [IntKind.wrap_i64]; omega
                clear hn HK HF
                go_upto_region 25 with fail
                go_quiet ((go_at_call 18; refine (at5 _).mono ?_; rintro e w' ⟨rfl, rfl⟩; exact ⟨rfl, _, rfl⟩))
                go_wp2
                go_roundw
                case rel => exact ⟨j, _, by omega, rfl, by first | rfl | go_num, HF2, rfl⟩
                case measure => simp [intOf]
    · obtain ⟨ta, td, hta⟩ := Um.form HM.out.t
      subst hta
      have bu := Pg.ok ts ta td wr ((Te.toks HM.out.t HG.out.bare).lies.on fun k hk => ⟨hk.2, rfl⟩) (by rw [HG.out.bulk]; decide) HG.out.may HG.out.room
      have hlen := HG.out.rel.len
      have HP : Hid (∀ (j : Nat) (x : Nd) (q : Nat), (Bt.run Bt.start ts).1.out[j + 1]? = some x → wa[j]? = some q → x.parent = (q : Int)) := fun j x q hx hq => by
        have h2 : ((Bt.run Bt.start ts).1.out.map (·.parent))[j + 1]? = some x.parent := by rw [List.getElem?_map, hx]; rfl
        rw [HG.out.rel.par, List.getElem?_cons_succ, List.getElem?_map, hq] at h2
        injection h2 with h2
        exact h2.symm
      have hwa := HG.out.wa
      have hts : ts.length ≤ 40 := hi40
      rw [hlen] at bu
      have HLEN := Lib.hid hlen
      have HD : Hid (ts.length < n0 → ts.length = 40) := fun q => by omega
      have hwa40 : wa.length ≤ 40 := by omega
      clear HG hlen hlt
      generalize (Bt.run Bt.start ts).1.out = ns at *
      obtain ⟨aa, ad, haa⟩ := Um.form HM.out.a
      subst haa
      have hw2 : IntKind.i64.wrap ((wa.length : Int) + 1) = (wa.length : Int) + 1 := by rw [IntKind.wrap_i64]; omega
      have t1 : (((wa.length : Int) + 1) != ((wa.length : Int) + 1)) = false := by simp
      by_cases q : ts.length < n0
      · have e40 : ts.length = 40 := HD.out q
        rw [e40] at q bu hts ⊢
        have d1 : decide ((40 : Int) < (n0 : Int)) = true := decide_eq_true (by omega)
        rw [show ((40 : Nat) : Int) = 40 from rfl]
        clear e40 hi40 hi0
        go_wp2_with (first | (go_at_call 9; refine bu.mono ?_; rintro e w6 ⟨a6, d6, rfl, l6, b6⟩; clear bu; have HL6 := Lib.hid l6; have HB6 := Lib.hid (HB.out.trans (b6.mono HB.out.size)); have HA6 := Lib.hid (HM.out.on b6).a; clear l6 b6) | (go_at_call 12; refine (Ta.num _ _).mono ?_; rintro e w' ⟨rfl, hw⟩; have hw := hw.symm; subst hw))
        go_loopw [13] (fun ix wn => ∃ j n6 : Nat, j ≤ wa.length ∧ ix = .int .i64 (j : Int) ∧ wn = w6.drewN n6) (fun ix _ => wa.length - (intOf ix).toNat)
        case atStart => exact ⟨0, 0, Nat.zero_le _, rfl, rfl⟩
        case round =>
          obtain ⟨j, n6, hj, rfl, rfl⟩ := hrel
          by_cases hlt2 : j < wa.length
          · have d3 : decide ((j : Int) < (wa.length : Int)) = true := decide_eq_true (by omega)
            obtain ⟨q, hq⟩ : ∃ q, wa[j]? = some q := ⟨_, List.getElem?_eq_getElem hlt2⟩
            obtain ⟨ab, rfl, ca, had⟩ := Te.int HA6.out hq
            obtain ⟨y, hy⟩ : ∃ y, ns[j + 1]? = some y := ⟨_, List.getElem?_eq_getElem (by have := HLEN.out; omega)⟩
            obtain ⟨a', d', e, h1, h2, hx⟩ := id HL6.out
            injection e with e1 e2 e3
            subst e1
            subst e3
            obtain ⟨b, o, av, rfl, _, c0, c1, c2, c3, c4, _⟩ := hx (j + 1) y hy
            rw [HP.out j y q hy hq] at c4
            have hw3 : IntKind.i64.wrap ((j : Int) + 1) = ((j + 1 : Nat) : Int) := by rw [IntKind.wrap_i64]; omega
            have hjd : j + 1 < d6 := by have := HLEN.out; omega
            have hja : j < ad := by omega
            have hj1 : j + 1 < wa.length + 1 := by omega
            have t2 : ((q : Int) != (q : Int)) = false := by simp
            clear hx hy hq c0 c1 c2 c3 h1 h2 e2
            go_upto_region 33 with fail
            go_quiet (fail)
            go_wp2
            go_roundw
            case rel => exact ⟨j + 1, _, by omega, by go_num, rfl⟩
            case measure => simp [intOf]; omega
          · have d3 : decide ((j : Int) < (wa.length : Int)) = false := decide_eq_false (by omega)
            go_wp2
            go_ret
            exact ⟨rfl, Um.drews (HQ.out.trans (HB6.out.mono HQ.out.size)) n6⟩
      · have d1 : decide ((ts.length : Int) < (n0 : Int)) = false := decide_eq_false (by omega)
        go_wp2_with (first | (go_at_call 9; refine bu.mono ?_; rintro e w6 ⟨a6, d6, rfl, l6, b6⟩; clear bu; have HL6 := Lib.hid l6; have HB6 := Lib.hid (HB.out.trans (b6.mono HB.out.size)); have HA6 := Lib.hid (HM.out.on b6).a; clear l6 b6) | (go_at_call 12; refine (Ta.num _ _).mono ?_; rintro e w' ⟨rfl, hw⟩; have hw := hw.symm; subst hw))
        go_loopw [13] (fun ix wn => ∃ j n6 : Nat, j ≤ wa.length ∧ ix = .int .i64 (j : Int) ∧ wn = w6.drewN n6) (fun ix _ => wa.length - (intOf ix).toNat)
        case atStart => exact ⟨0, 0, Nat.zero_le _, rfl, rfl⟩
        case round =>
          obtain ⟨j, n6, hj, rfl, rfl⟩ := hrel
          by_cases hlt2 : j < wa.length
          · have d3 : decide ((j : Int) < (wa.length : Int)) = true := decide_eq_true (by omega)
            obtain ⟨q, hq⟩ : ∃ q, wa[j]? = some q := ⟨_, List.getElem?_eq_getElem hlt2⟩
            obtain ⟨ab, rfl, ca, had⟩ := Te.int HA6.out hq
            obtain ⟨y, hy⟩ : ∃ y, ns[j + 1]? = some y := ⟨_, List.getElem?_eq_getElem (by have := HLEN.out; omega)⟩
            obtain ⟨a', d', e, h1, h2, hx⟩ := id HL6.out
            injection e with e1 e2 e3
            subst e1
            subst e3
            obtain ⟨b, o, av, rfl, _, c0, c1, c2, c3, c4, _⟩ := hx (j + 1) y hy
            rw [HP.out j y q hy hq] at c4
            have hw3 : IntKind.i64.wrap ((j : Int) + 1) = ((j + 1 : Nat) : Int) := by rw [IntKind.wrap_i64]; omega
            have hjd : j + 1 < d6 := by have := HLEN.out; omega
            have hja : j < ad := by omega
            have hj1 : j + 1 < wa.length + 1 := by omega
            have t2 : ((q : Int) != (q : Int)) = false := by simp
            clear hx hy hq c0 c1 c2 c3 h1 h2 e2
            go_upto_region 33 with fail
            go_quiet (fail)
            go_wp2
            go_roundw
            case rel => exact ⟨j + 1, _, by omega, by go_num, rfl⟩
            case measure => simp [intOf]; omega
          · have d3 : decide ((j : Int) < (wa.length : Int)) = false := decide_eq_false (by omega)
            go_wp2
            go_ret
            exact ⟨rfl, Um.drews (HQ.out.trans (HB6.out.mono HQ.out.size)) n6⟩
end Go.Proofs.Ythfobjkdcncoiaa

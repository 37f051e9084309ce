/-
  THE WALK of the landed own.
-/
import Derived.Test.YtjmobhohfcieoaaKOwn1
import Derived.Test.YtjmobhohfcieoaaKCopy
import Derived.Test.YtjmobhohfcieoaaKCmds
namespace Go.Proofs.Ytjmobhohfcieoaa
open Go.RowKit
def Ko.Fine (x : Ar) : Prop := x.name.length ≤ 1048576 ∧ x.text.length ≤ 1048576 ∧ x.path.length ≤ 1048576 ∧ ∀ t ∈ x.path, t.length ≤ 1048576
theorem Ko.size {t : List UInt8} (h : t.length ≤ 1048576) : (⟨t.toArray⟩ : ByteArray).size ≤ 281474976710656 := by show t.toArray.size ≤ _; rw [List.size_toArray]; omega
set_option maxRecDepth 100000 in
set_option maxHeartbeats 8000000 in
theorem Ko.own {w0 u0 : World} {base : Nat} {cs : List Cm} {v : Value} {xs : List Value} {av : Nat → Value} {ys : Nat → List Value} (hC : Kr.Cmds u0 base (Kr.In w0) cs v xs av ys) (hle : base ≤ u0.heap.size) (hb0 : w0.heap.size ≤ base) (hlow : Below w0.heap.size w0 u0) (hz : ∀ c ∈ cs, c.fn.length ≤ 1048576 ∧ ∀ x ∈ c.args, Ko.Fine x) :
    Calls Try.prog 20 #[v] u0 fun e w' => e = .returned v ∧ Dt.Lies w' (fun b => w0.heap.size ≤ b ∧ b < w'.heap.size ∧ Rm.Ub w' b) (Cm.rows cs) v ∧ Below w0.heap.size w0 w' := by
  obtain ⟨a, d, rfl⟩ := Gr.form hC.own
  have hm := Kr.len hC.own
  have hml : cs.length ≤ 9223372036854775807 := by unfold maxLen at hm; omega
  have HZ := Lib.hid hz
  have HS0 := Lib.hid (Ko.St.start hle hC)
  have HL := Lib.hid hlow
  clear hC hz hm hlow
  go_enter Try.func20, Try.ntmps20
  go_wp2_with fail
  go_loopw [9] (fun iv wr => ∃ (i : Nat) (ys : Nat → List Value), i ≤ cs.length ∧ iv = .int .i64 (i : Int) ∧ Hid (Ko.St w0 u0 wr base cs (.slice a cs.length d) xs av ys i 0)) (fun iv _ => cs.length - (intOf iv).toNat)
  case atStart => exact ⟨0, ys, Nat.zero_le _, rfl, HS0⟩
  case round =>
    clear HS0
    obtain ⟨i, ys, hi, rfl, HS⟩ := hrel
    by_cases hlt : i < cs.length
    · have dlt : decide ((i : Int) < (cs.length : Int)) = true := decide_eq_true (by omega)
      obtain ⟨vb, e1, hid, hvf, hcell⟩ := HS.out.vform (by omega)
      subst e1
      obtain ⟨x0, x1⟩ := hcell i cs[i] (List.getElem?_eq_getElem hlt)
      have hzc := HZ.out cs[i] (List.getElem_mem hlt)
      have HC := Lib.hid (List.getElem?_eq_getElem hlt)
      have hid2 : i < d := by omega
      generalize cs[i] = c at *
      obtain ⟨a5, d5, ea⟩ := Gr.form (HS.out.rows.args i c HC.out).own
      have hcm := Kr.len (HS.out.rows.args i c HC.out).own
      have hcl : c.args.length ≤ 9223372036854775807 := by unfold maxLen at hcm; omega
      have HEA := Lib.hid ea
      rw [ea] at x1
      have hF := Ko.size hzc.1
      have HZC := Lib.hid hzc.2
      clear hcell ea hzc hcm
      generalize (⟨c.fn.toArray⟩ : ByteArray) = F at *
      have cl := fun u => Tp.clone F u hF
      go_upto_region 4 with fail
      have HX1 : Hid (Bs.Box (wr.alloc (.cells #[.string F, .slice a5 c.args.length d5] 38)) wr.heap.size #[.string F, .slice a5 c.args.length d5] 38) := Bs.Box.new wr _ _ _ rfl
      have hb1 := (Below.refl wr.heap.size wr).alloc (Nat.le_refl _) (.cells #[.string F, .slice a5 c.args.length d5] 38)
      have HS1 := Lib.hid (HS.out.below hb1)
      have hcb : u0.heap.size ≤ wr.heap.size := HS.out.low.size
      have x0 := Tp.keep hb1 x0
      have hvb : vb < wr.heap.size := World.block_lt_of_cell? _ _ x1
      clear hb1 HS x1 hvf
      generalize wr.alloc (.cells #[.string F, .slice a5 c.args.length d5] 38) = w1 at *
      generalize wr.heap.size = cb at *
      have y0 := HX1.out.cell 0 rfl
      have y1 := HX1.out.cell 1 rfl
      go_wp2_with (go_at_call 30; refine (cl _).mono ?_; rintro e w2 ⟨rfl, b2⟩; have HS2 := Lib.hid (HS1.out.below b2); have HX2 := Lib.hid (HX1.out.on b2 HX1.out.lt); have z1 := HX2.out.cell 1 rfl; have z0 := Tp.keep b2 x0; have zf := HS2.out.vfz; clear b2 cl)
      rw [Ko.same z0]
      clear HS1 HX1 x0 y0 y1 z0 z1 zf hvb
      go_loopw [24] (fun jv wr => ∃ (n : Nat) (ys : Nat → List Value), n ≤ c.args.length ∧ jv = .int .i64 (n : Int) ∧ Hid (Ko.St w0 u0 wr base cs (.slice (some ⟨vb, 0, none⟩) cs.length d) xs av ys i n) ∧ Hid (Bs.Box wr cb #[.string F, .slice a5 c.args.length d5] 38)) (fun jv _ => c.args.length - (intOf jv).toNat)
      case atStart => exact ⟨0, ys, Nat.zero_le _, rfl, HS2, HX2⟩
      case round =>
        clear HS2 HX2
        obtain ⟨n, ys, hn, rfl, HS, HX⟩ := hrel
        by_cases hlt2 : n < c.args.length
        · have dlt2 : decide ((n : Int) < (c.args.length : Int)) = true := decide_eq_true (by omega)
          have dln2 : decide (n < c.args.length) = true := decide_eq_true hlt2
          obtain ⟨ab, e5, hnd, haf, hac⟩ := HS.out.aform HC.out HEA.out (by omega)
          subst e5
          obtain ⟨pv, hP, hx⟩ := hac n c.args[n] (List.getElem?_eq_getElem hlt2)
          have hpv : St.Lies w0 (fun _ => True) c.args[n].path pv := by
            unfold Ko.P at hP
            rw [if_neg (by omega)] at hP
            exact hP
          have x0 := hx 0 _ rfl
          have x1 := hx 1 _ rfl
          have x2 := hx 2 _ rfl
          have x3 := hx 3 _ rfl
          have x4 := hx 4 _ rfl
          rw [Nat.add_zero] at x0
          have hnd2 : n < d5 := by omega
          have HN := Lib.hid (List.getElem?_eq_getElem hlt2)
          obtain ⟨hz1, hz2, hz3, hz4⟩ := HZC.out c.args[n] (List.getElem_mem hlt2)
          have hz1 := Ko.size hz1
          have hz2 := Ko.size hz2
          have HZ4 := Lib.hid hz4
          have hau : ab < u0.heap.size := HS.out.alt i hlt ab (by rw [HEA.out]; rfl)
          have hub := HS.out.low.size
          clear hac hx hP hz4
          generalize c.args[n] = x at *
          obtain ⟨ap, dp, rfl, hp1, hp2, hp3⟩ := hpv
          have HP := Lib.hid (show St.Lies w0 (fun _ => True) x.path (.slice ap x.path.length dp) from ⟨ap, dp, rfl, hp1, hp2, hp3⟩)
          clear hp1 hp2 hp3
          obtain ⟨N, hN⟩ : ∃ N : ByteArray, ⟨x.name.toArray⟩ = N := ⟨_, rfl⟩
          obtain ⟨T, hT⟩ : ∃ T : ByteArray, ⟨x.text.toArray⟩ = T := ⟨_, rfl⟩
          rw [hN] at hz1 x1
          rw [hT] at hz2 x4
          have HNN := Lib.hid hN
          have HTT := Lib.hid hT
          clear hN hT
          go_upto_region 8 with fail
          have hb1 := (Below.refl wr.heap.size wr).alloc (Nat.le_refl _) (.cells #[.int .i64 x.kind, .string N, .slice ap x.path.length dp, .int .i64 x.num, .string T] 41)
          have HA5 : Hid (av i = .slice (some ⟨ab, 0, none⟩) c.args.length d5) := HEA
          have HS1 := Lib.hid (HS.out.below hb1)
          have HX1 := Lib.hid (HX.out.alloc (.cells #[.int .i64 x.kind, .string N, .slice ap x.path.length dp, .int .i64 x.num, .string T] 41))
          have HQ1 : Hid (Bs.Box (wr.alloc (.cells #[.int .i64 x.kind, .string N, .slice ap x.path.length dp, .int .i64 x.num, .string T] 41)) wr.heap.size #[.int .i64 x.kind, .string N, .slice ap x.path.length dp, .int .i64 x.num, .string T] 41) := Bs.Box.new wr _ _ _ rfl
          have hqb : u0.heap.size ≤ wr.heap.size := hub
          have hw0 : Below w0.heap.size w0 wr := HL.out.trans (HS.out.low.mono hb0)
          have HP1 := Lib.hid (HP.out.later (hw0.trans (hb1.mono hw0.size)))
          have s1 := Tp.keep hb1 x1
          clear hb1 HS HX x0 x1 x2 x3 x4 haf hub hw0
          generalize wr.alloc (.cells #[.int .i64 x.kind, .string N, .slice ap x.path.length dp, .int .i64 x.num, .string T] 41) = W1 at *
          generalize wr.heap.size = qb at *
          go_cut [] from 29 to 53 (fun wx => Hid (Below W1.heap.size W1 wx))
          case first =>
            have c1 := HX1.out.cell 1 rfl
            have q1 := HQ1.out.cell 1 rfl
            have hlc := HX1.out.lt
            have hlq := HQ1.out.lt
            have cl := fun u => Tp.clone N u hz1
            clear HEA HZC HNN HTT HZ4 HP1
            go_region_with (go_at_call 30; refine (cl _).mono ?_; rintro e w5 ⟨rfl, b5⟩; have B5 : Hid (Below W1.heap.size W1 w5) := ((Below.refl W1.heap.size W1).drew.trans (b5.mono (by simp))); clear b5; have c1 := (HX1.out.on B5.out hlc).cell 1 rfl; have s1 := Tp.keep B5.out s1; have sf := (HS1.out.below B5.out).afz HC.out HA5.out; have B6 : Hid (Below W1.heap.size W1 (w5.setCell ⟨ab, n * 5 + 1, none⟩ (.string N))) := (by unfold Hid; rw [Ko.same s1]; exact B5.out))
            all_goals go_wp2_with fail
            all_goals go_meet
            all_goals exact B6
          case rest =>
            have B1 := hcut
            have HS2 := Lib.hid (HS1.out.below B1.out)
            have HX2 := Lib.hid (HX1.out.on B1.out HX1.out.lt)
            have HQ2 := Lib.hid (HQ1.out.on B1.out HQ1.out.lt)
            have HP2 := Lib.hid (HP1.out.later B1.out)
            clear hcut B1 HS1 HX1 HQ1 HP1 s1
            generalize wc = W2 at *
            go_upto_region 9 with fail
            have hla : ab < W2.heap.size := by have := HS2.out.low.size; omega
            go_cut [] from 29 to 53 (fun wx => ∃ wq a9 d9, Hid (Below W2.heap.size W2 wq) ∧ Hid (St.Lies wq (fun b => W2.heap.size ≤ b ∧ b < wq.heap.size ∧ Rm.Ub wq b) x.path (.slice a9 x.path.length d9)) ∧ wx = wq.setCell ⟨ab, n * 5 + 2, none⟩ (.slice a9 x.path.length d9))
            case first =>
              have c1 := HX2.out.cell 1 rfl
              have q1 := HQ2.out.cell 2 rfl
              have hlc := HX2.out.lt
              have cp := fun u (hu : Below W2.heap.size W2 u) => Ko.copied x.path _ _ u (HP2.out.later hu) hz3 HZ4.out
              obtain ⟨s2v, s2⟩ := HS2.out.acell2 HC.out HA5.out HN.out
              clear HEA HZC HZ4 HNN HTT HP2
              go_region_with (go_at_call 31; refine (cp _ (by first | exact Below.refl _ _ | exact (Below.refl _ _).drew)).mono ?_; rintro e w5 ⟨v9, rfl, h9, b5⟩; obtain ⟨a9, d9, rfl, hr1, hr2, hr3⟩ := h9; have H9 := Lib.hid (show St.Lies w5 (fun b => W2.heap.size ≤ b ∧ b < w5.heap.size ∧ Rm.Ub w5 b) x.path (.slice a9 x.path.length d9) from ⟨a9, d9, rfl, hr1, hr2, hr3⟩); clear hr1 hr2 hr3; have B5 : Hid (Below W2.heap.size W2 w5) := ((Below.refl W2.heap.size W2).drew.trans (b5.mono (by simp))); clear b5; have c1 := (HX2.out.on B5.out hlc).cell 1 rfl; have s2 := Tp.keep B5.out s2; have sf := (HS2.out.below B5.out).afz HC.out HA5.out)
              all_goals go_wp2_with fail
              all_goals go_meet
              all_goals exact ⟨w5, a9, d9, B5, H9, rfl⟩
            case rest =>
              obtain ⟨wq, a9, d9, B2, H9, hw⟩ := hcut
              have hcn : cb ≠ ab := by omega
              have hqn : qb ≠ ab := by omega
              have hs2 := HS2.out.low.size
              have HS3 := Lib.hid ((HS2.out.below B2.out).path (pv := .slice a9 x.path.length d9) HC.out HN.out HA5.out rfl (H9.out.on fun b hb => ⟨⟨by have := hb.1; omega, hb.2.1, hb.2.2⟩, rfl⟩))
              have HX3 : Hid (Bs.Box (wq.setCell ⟨ab, n * 5 + 2, none⟩ (.slice a9 x.path.length d9)) cb #[.string F, .slice (some ⟨ab, 0, none⟩) c.args.length d5] 38) := (Below.heap_setCell _ _ _ _ (by exact hcn)).trans (HX2.out.on B2.out HX2.out.lt)
              have HQ3 : Hid (Bs.Box (wq.setCell ⟨ab, n * 5 + 2, none⟩ (.slice a9 x.path.length d9)) qb #[.int .i64 x.kind, .string N, .slice ap x.path.length dp, .int .i64 x.num, .string T] 41) := (Below.heap_setCell _ _ _ _ (by exact hqn)).trans (HQ2.out.on B2.out HQ2.out.lt)
              rw [← hw] at HS3 HX3 HQ3
              clear hw HS2 HX2 HQ2 B2 H9 HP2 HZ4 hla hs2
              generalize wc = W3 at *
              obtain ⟨_, s4⟩ := HS3.out.acell HC.out HA5.out HN.out
              rw [HTT.out] at s4
              go_upto_region 10 with fail
              have c1 := HX3.out.cell 1 rfl
              have q1 := HQ3.out.cell 4 rfl
              have hlc := HX3.out.lt
              have hlq := HQ3.out.lt
              have cl := fun u => Tp.clone T u hz2
              clear HEA HZC HNN HTT
              go_region_with (go_at_call 30; refine (cl _).mono ?_; rintro e w5 ⟨rfl, b5⟩; have B5 : Hid (Below W3.heap.size W3 w5) := ((Below.refl W3.heap.size W3).drew.trans (b5.mono (by simp))); clear b5; have c1 := (HX3.out.on B5.out hlc).cell 1 rfl; have s1 := Tp.keep B5.out s4; have sf := (HS3.out.below B5.out).afz HC.out HA5.out; have HS6 : Hid (Ko.St w0 u0 (w5.setCell ⟨ab, n * 5 + 4, none⟩ (.string T)) base cs (.slice (some ⟨vb, 0, none⟩) cs.length d) xs av _ i (n + 1)) := (by unfold Hid; rw [Ko.same s1]; exact HS3.out.below B5.out); have HX6 : Hid (Bs.Box (w5.setCell ⟨ab, n * 5 + 4, none⟩ (.string T)) cb #[.string F, .slice (some ⟨ab, 0, none⟩) c.args.length d5] 38) := (by unfold Hid; rw [Ko.same s1]; exact HX3.out.on B5.out hlc))
              all_goals go_wp2_with fail
              all_goals go_roundw
              all_goals try (case rel => exact ⟨n + 1, _, by omega, by go_num, HS6, HX6⟩)
              all_goals try (case measure => simp [intOf]; omega)
        · have en : n = c.args.length := by omega
          have dlt2 : decide ((n : Int) < (c.args.length : Int)) = false := decide_eq_false (by omega)
          have dln2 : decide (n < c.args.length) = false := decide_eq_false hlt2
          have HS3 := Lib.hid (HS.out.next HC.out (by omega))
          clear HS HX HEA HZC en hlt2
          go_wp2_with fail
          go_roundw
          case rel => exact ⟨i + 1, ys, by omega, by go_num, HS3⟩
          case measure => simp [intOf]; omega
    · have ei : i = cs.length := by omega
      have dlt : decide ((i : Int) < (cs.length : Int)) = false := decide_eq_false (by omega)
      have dln : decide (i < cs.length) = false := decide_eq_false hlt
      have HFI := Lib.hid (HS.out.fin (by omega) hb0)
      have HB := Lib.hid (HL.out.trans (HS.out.low.mono hb0))
      clear HS HZ ei hlt
      go_wp2_with fail
      go_ret
      exact ⟨rfl, HFI.out, HB.out⟩
end Go.Proofs.Ytjmobhohfcieoaa

/-
  THE WALK of the landed own.
-/
import Derived.Test.YtjppobeomocgbaaGreatDoorTKOwn1toLSh0
import Derived.Test.YtjppobeomocgbaaGreatDoorTLLibtoKCopy
import Derived.Test.YtjppobeomocgbaaGreatDoorTKCmdtoKCmds
import Derived.Test.YtjppobeomocgbaaGreatDoorTMPlaintoISame
namespace Go.Proofs.YtjppobeomocgbaaGreatDoor
open Go.RowKit
def Ko.Fine (x : Ar) : Prop := x.name.length ≤ 1048576 ∧ x.text.length ≤ 1048576 ∧ x.path.length ≤ 1048576 ∧ ∀ t ∈ x.path, t.length ≤ 1048576
theorem Ko.size {t : List UInt8} (h : t.length ≤ 1048576) : (⟨t.toArray⟩ : ByteArray).size ≤ 281474976710656 := by show t.toArray.size ≤ _; rw [List.size_toArray]; omega
set_option maxRecDepth 100000 in
set_option maxHeartbeats 8000000 in
theorem Ko.own {w0 u0 : World} {base : Nat} {cs : List Cm} {v : Value} {xs : List Value} {av : Nat → Value} {ys : Nat → List Value} (hC : Kr.Cmds u0 base (Kr.In w0) cs v xs av ys) (hle : base ≤ u0.heap.size) (hb0 : w0.heap.size ≤ base) (hlow : Below w0.heap.size w0 u0) (hz : ∀ c ∈ cs, c.fn.length ≤ 1048576 ∧ ∀ x ∈ c.args, Ko.Fine x) :
    Calls Tryz.prog 117 #[v] u0 fun e w' => e = .returned v ∧ Dt.Lies w' (fun b => w0.heap.size ≤ b ∧ b < w'.heap.size ∧ Rm.Ub w' b) (Cm.rows cs) v ∧ Below w0.heap.size w0 w' := by
  obtain ⟨a, d, rfl⟩ := Gr.form hC.own
  have hm := Kr.len hC.own
  have hml : cs.length ≤ 9223372036854775807 := by unfold maxLen at hm; omega
  have HZ := Lib.hid hz
  have HS0 := Lib.hid (Ko.St.start hle hC)
  have HL := Lib.hid hlow
  clear hC hz hm hlow
  go_enter Tryz.func117, Tryz.ntmps117
  go_wp2_with fail
  go_loopw [9] (fun iv wr => ∃ (i : Nat) (ys : Nat → List Value), i ≤ cs.length ∧ iv = .int .i64 (i : Int) ∧ Hid (Ko.St w0 u0 wr base cs (.slice a cs.length d) xs av ys i 0)) (fun iv _ => cs.length - (intOf iv).toNat)
  case atStart => exact ⟨0, ys, Nat.zero_le _, rfl, HS0⟩
  case round =>
    clear HS0
    obtain ⟨i, ys, hi, rfl, HS⟩ := hrel
    by_cases hlt : i < cs.length
    · have dlt : decide ((i : Int) < (cs.length : Int)) = true := decide_eq_true (by omega)
      obtain ⟨vb, e1, hid, hvf, hcell⟩ := HS.out.vform (by omega)
      subst e1
      obtain ⟨x0, x1⟩ := hcell i cs[i] (List.getElem?_eq_getElem hlt)
      have hzc := HZ.out cs[i] (List.getElem_mem hlt)
      have HC := Lib.hid (List.getElem?_eq_getElem hlt)
      have hid2 : i < d := by omega
      generalize cs[i] = c at *
      obtain ⟨a5, d5, ea⟩ := Gr.form (HS.out.rows.args i c HC.out).own
      have hcm := Kr.len (HS.out.rows.args i c HC.out).own
      have hcl : c.args.length ≤ 9223372036854775807 := by unfold maxLen at hcm; omega
      have HEA := Lib.hid ea
      rw [ea] at x1
      have hF := Ko.size hzc.1
      have HZC := Lib.hid hzc.2
      clear hcell ea hzc hcm
      generalize (⟨c.fn.toArray⟩ : ByteArray) = F at *
      have cl := fun u => Tp.clone F u hF
      go_upto_region 4 with fail
      have HX1 : Hid (Bs.Box (wr.alloc (.cells #[.string F, .slice a5 c.args.length d5] 46)) wr.heap.size #[.string F, .slice a5 c.args.length d5] 46) := Bs.Box.new wr _ _ _ rfl
      have hb1 := (Below.refl wr.heap.size wr).alloc (Nat.le_refl _) (.cells #[.string F, .slice a5 c.args.length d5] 46)
      have HS1 := Lib.hid (HS.out.below hb1)
      have hcb : u0.heap.size ≤ wr.heap.size := HS.out.low.size
      have x0 := Tp.keep hb1 x0
      have hvb : vb < wr.heap.size := World.block_lt_of_cell? _ _ x1
      clear hb1 HS x1 hvf
      generalize wr.alloc (.cells #[.string F, .slice a5 c.args.length d5] 46) = w1 at *
      generalize wr.heap.size = cb at *
      have y0 := HX1.out.cell 0 rfl
      have y1 := HX1.out.cell 1 rfl
      go_wp2_with (go_at_call 75; refine (cl _).mono ?_; rintro e w2 ⟨rfl, b2⟩; have HS2 := Lib.hid (HS1.out.below b2); have HX2 := Lib.hid (HX1.out.on b2 HX1.out.lt); have z1 := HX2.out.cell 1 rfl; have z0 := Tp.keep b2 x0; have zf := HS2.out.vfz; clear b2 cl)
      rw [Ko.same z0]
      clear HS1 HX1 x0 y0 y1 z0 z1 zf hvb
      go_loopw [24] (fun jv wr => ∃ (n : Nat) (ys : Nat → List Value), n ≤ c.args.length ∧ jv = .int .i64 (n : Int) ∧ Hid (Ko.St w0 u0 wr base cs (.slice (some ⟨vb, 0, none⟩) cs.length d) xs av ys i n) ∧ Hid (Bs.Box wr cb #[.string F, .slice a5 c.args.length d5] 46)) (fun jv _ => c.args.length - (intOf jv).toNat)
      case atStart => exact ⟨0, ys, Nat.zero_le _, rfl, HS2, HX2⟩
      case round =>
        clear HS2 HX2
        obtain ⟨n, ys, hn, rfl, HS, HX⟩ := hrel
        by_cases hlt2 : n < c.args.length
        · have dlt2 : decide ((n : Int) < (c.args.length : Int)) = true := decide_eq_true (by omega)
          have dln2 : decide (n < c.args.length) = true := decide_eq_true hlt2
          obtain ⟨ab, e5, hnd, haf, hac⟩ := HS.out.aform HC.out HEA.out (by omega)
          subst e5
          obtain ⟨pv, hP, hx⟩ := hac n c.args[n] (List.getElem?_eq_getElem hlt2)
          have hpv : St.Lies w0 (fun _ => True) c.args[n].path pv := by
            unfold Ko.P at hP
            rw [if_neg (by omega)] at hP
            exact hP
          have x0 := hx 0 _ rfl
          have x1 := hx 1 _ rfl
          have x2 := hx 2 _ rfl
          have x3 := hx 3 _ rfl
          have x4 := hx 4 _ rfl
          rw [Nat.add_zero] at x0
          have hnd2 : n < d5 := by omega
          have HN := Lib.hid (List.getElem?_eq_getElem hlt2)
          obtain ⟨hz1, hz2, hz3, hz4⟩ := HZC.out c.args[n] (List.getElem_mem hlt2)
          have hz1 := Ko.size hz1
          have hz2 := Ko.size hz2
          have HZ4 := Lib.hid hz4
          have hau : ab < u0.heap.size := HS.out.alt i hlt ab (by rw [HEA.out]; rfl)
          have hub := HS.out.low.size
          clear hac hx hP hz4
          generalize c.args[n] = x at *
          obtain ⟨ap, dp, rfl, hp1, hp2, hp3⟩ := hpv
          have HP := Lib.hid (show St.Lies w0 (fun _ => True) x.path (.slice ap x.path.length dp) from ⟨ap, dp, rfl, hp1, hp2, hp3⟩)
          clear hp1 hp2 hp3
          obtain ⟨N, hN⟩ : ∃ N : ByteArray, ⟨x.name.toArray⟩ = N := ⟨_, rfl⟩
          obtain ⟨T, hT⟩ : ∃ T : ByteArray, ⟨x.text.toArray⟩ = T := ⟨_, rfl⟩
          rw [hN] at hz1 x1
          rw [hT] at hz2 x4
          have HNN := Lib.hid hN
          have HTT := Lib.hid hT
          clear hN hT
          go_upto_region 8 with fail
          have hb1 := (Below.refl wr.heap.size wr).alloc (Nat.le_refl _) (.cells #[.int .i64 x.kind, .string N, .slice ap x.path.length dp, .int .i64 x.num, .string T] 43)
          have HA5 : Hid (av i = .slice (some ⟨ab, 0, none⟩) c.args.length d5) := HEA
          have HS1 := Lib.hid (HS.out.below hb1)
          have HX1 := Lib.hid (HX.out.alloc (.cells #[.int .i64 x.kind, .string N, .slice ap x.path.length dp, .int .i64 x.num, .string T] 43))
          have HQ1 : Hid (Bs.Box (wr.alloc (.cells #[.int .i64 x.kind, .string N, .slice ap x.path.length dp, .int .i64 x.num, .string T] 43)) wr.heap.size #[.int .i64 x.kind, .string N, .slice ap x.path.length dp, .int .i64 x.num, .string T] 43) := Bs.Box.new wr _ _ _ rfl
          have hqb : u0.heap.size ≤ wr.heap.size := hub
          have hw0 : Below w0.heap.size w0 wr := HL.out.trans (HS.out.low.mono hb0)
          have HP1 := Lib.hid (HP.out.later (hw0.trans (hb1.mono hw0.size)))
          have s1 := Tp.keep hb1 x1
          clear hb1 HS HX x0 x1 x2 x3 x4 haf hub hw0
          generalize wr.alloc (.cells #[.int .i64 x.kind, .string N, .slice ap x.path.length dp, .int .i64 x.num, .string T] 43) = W1 at *
          generalize wr.heap.size = qb at *
          go_cut [] from 29 to 53 (fun wx => Hid (Below W1.heap.size W1 wx))
          case first =>
            have c1 := HX1.out.cell 1 rfl
            have q1 := HQ1.out.cell 1 rfl
            have hlc := HX1.out.lt
            have hlq := HQ1.out.lt
            have cl := fun u => Tp.clone N u hz1
            clear HEA HZC HNN HTT HZ4 HP1
            go_region_with (go_at_call 75; refine (cl _).mono ?_; rintro e w5 ⟨rfl, b5⟩; have B5 : Hid (Below W1.heap.size W1 w5) := ((Below.refl W1.heap.size W1).drew.trans (b5.mono (by simp))); clear b5; have c1 := (HX1.out.on B5.out hlc).cell 1 rfl; have s1 := Tp.keep B5.out s1; have sf := (HS1.out.below B5.out).afz HC.out HA5.out; have B6 : Hid (Below W1.heap.size W1 (w5.setCell ⟨ab, n * 5 + 1, none⟩ (.string N))) := (by unfold Hid; rw [Ko.same s1]; exact B5.out))
            all_goals go_wp2_with fail
            all_goals go_meet
            all_goals exact B6
          case rest =>
            have B1 := hcut
            have HS2 := Lib.hid (HS1.out.below B1.out)
            have HX2 := Lib.hid (HX1.out.on B1.out HX1.out.lt)
            have HQ2 := Lib.hid (HQ1.out.on B1.out HQ1.out.lt)
            have HP2 := Lib.hid (HP1.out.later B1.out)
            clear hcut B1 HS1 HX1 HQ1 HP1 s1
            generalize wc = W2 at *
            go_upto_region 9 with fail
            have hla : ab < W2.heap.size := by have := HS2.out.low.size; omega
            go_cut [] from 29 to 53 (fun wx => ∃ wq a9 d9, Hid (Below W2.heap.size W2 wq) ∧ Hid (St.Lies wq (fun b => W2.heap.size ≤ b ∧ b < wq.heap.size ∧ Rm.Ub wq b) x.path (.slice a9 x.path.length d9)) ∧ wx = wq.setCell ⟨ab, n * 5 + 2, none⟩ (.slice a9 x.path.length d9))
            case first =>
              have c1 := HX2.out.cell 1 rfl
              have q1 := HQ2.out.cell 2 rfl
              have hlc := HX2.out.lt
              have cp := fun u (hu : Below W2.heap.size W2 u) => Ko.copied x.path _ _ u (HP2.out.later hu) hz3 HZ4.out
              obtain ⟨s2v, s2⟩ := HS2.out.acell2 HC.out HA5.out HN.out
              clear HEA HZC HZ4 HNN HTT HP2
              go_region_with (go_at_call 140; refine (cp _ (by first | exact Below.refl _ _ | exact (Below.refl _ _).drew)).mono ?_; rintro e w5 ⟨v9, rfl, h9, b5⟩; obtain ⟨a9, d9, rfl, hr1, hr2, hr3⟩ := h9; have H9 := Lib.hid (show St.Lies w5 (fun b => W2.heap.size ≤ b ∧ b < w5.heap.size ∧ Rm.Ub w5 b) x.path (.slice a9 x.path.length d9) from ⟨a9, d9, rfl, hr1, hr2, hr3⟩); clear hr1 hr2 hr3; have B5 : Hid (Below W2.heap.size W2 w5) := ((Below.refl W2.heap.size W2).drew.trans (b5.mono (by simp))); clear b5; have c1 := (HX2.out.on B5.out hlc).cell 1 rfl; have s2 := Tp.keep B5.out s2; have sf := (HS2.out.below B5.out).afz HC.out HA5.out)
              all_goals go_wp2_with fail
              all_goals go_meet
              all_goals exact ⟨w5, a9, d9, B5, H9, rfl⟩
            case rest =>
              obtain ⟨wq, a9, d9, B2, H9, hw⟩ := hcut
              have hcn : cb ≠ ab := by omega
              have hqn : qb ≠ ab := by omega
              have hs2 := HS2.out.low.size
              have HS3 := Lib.hid ((HS2.out.below B2.out).path (pv := .slice a9 x.path.length d9) HC.out HN.out HA5.out rfl (H9.out.on fun b hb => ⟨⟨by have := hb.1; omega, hb.2.1, hb.2.2⟩, rfl⟩))
              have HX3 : Hid (Bs.Box (wq.setCell ⟨ab, n * 5 + 2, none⟩ (.slice a9 x.path.length d9)) cb #[.string F, .slice (some ⟨ab, 0, none⟩) c.args.length d5] 46) := (Below.heap_setCell _ _ _ _ (by exact hcn)).trans (HX2.out.on B2.out HX2.out.lt)
              have HQ3 : Hid (Bs.Box (wq.setCell ⟨ab, n * 5 + 2, none⟩ (.slice a9 x.path.length d9)) qb #[.int .i64 x.kind, .string N, .slice ap x.path.length dp, .int .i64 x.num, .string T] 43) := (Below.heap_setCell _ _ _ _ (by exact hqn)).trans (HQ2.out.on B2.out HQ2.out.lt)
              rw [← hw] at HS3 HX3 HQ3
              clear hw HS2 HX2 HQ2 B2 H9 HP2 HZ4 hla hs2
              generalize wc = W3 at *
              obtain ⟨_, s4⟩ := HS3.out.acell HC.out HA5.out HN.out
              rw [HTT.out] at s4
              go_upto_region 10 with fail
              have c1 := HX3.out.cell 1 rfl
              have q1 := HQ3.out.cell 4 rfl
              have hlc := HX3.out.lt
              have hlq := HQ3.out.lt
              have cl := fun u => Tp.clone T u hz2
              clear HEA HZC HNN HTT
              go_region_with (go_at_call 75; refine (cl _).mono ?_; rintro e w5 ⟨rfl, b5⟩; have B5 : Hid (Below W3.heap.size W3 w5) := ((Below.refl W3.heap.size W3).drew.trans (b5.mono (by simp))); clear b5; have c1 := (HX3.out.on B5.out hlc).cell 1 rfl; have s1 := Tp.keep B5.out s4; have sf := (HS3.out.below B5.out).afz HC.out HA5.out; have HS6 : Hid (Ko.St w0 u0 (w5.setCell ⟨ab, n * 5 + 4, none⟩ (.string T)) base cs (.slice (some ⟨vb, 0, none⟩) cs.length d) xs av _ i (n + 1)) := (by unfold Hid; rw [Ko.same s1]; exact HS3.out.below B5.out); have HX6 : Hid (Bs.Box (w5.setCell ⟨ab, n * 5 + 4, none⟩ (.string T)) cb #[.string F, .slice (some ⟨ab, 0, none⟩) c.args.length d5] 46) := (by unfold Hid; rw [Ko.same s1]; exact HX3.out.on B5.out hlc))
              all_goals go_wp2_with fail
              all_goals go_roundw
              all_goals try (case rel => exact ⟨n + 1, _, by omega, by go_num, HS6, HX6⟩)
              all_goals try (case measure => simp [intOf]; omega)
        · have en : n = c.args.length := by omega
          have dlt2 : decide ((n : Int) < (c.args.length : Int)) = false := decide_eq_false (by omega)
          have dln2 : decide (n < c.args.length) = false := decide_eq_false hlt2
          have HS3 := Lib.hid (HS.out.next HC.out (by omega))
          clear HS HX HEA HZC en hlt2
          go_wp2_with fail
          go_roundw
          case rel => exact ⟨i + 1, ys, by omega, by go_num, HS3⟩
          case measure => simp [intOf]; omega
    · have ei : i = cs.length := by omega
      have dlt : decide ((i : Int) < (cs.length : Int)) = false := decide_eq_false (by omega)
      have dln : decide (i < cs.length) = false := decide_eq_false hlt
      have HFI := Lib.hid (HS.out.fin (by omega) hb0)
      have HB := Lib.hid (HL.out.trans (HS.out.low.mono hb0))
      clear HS HZ ei hlt
      go_wp2_with fail
      go_ret
      exact ⟨rfl, HFI.out, HB.out⟩
end Go.Proofs.YtjppobeomocgbaaGreatDoor
/-
  what is read of words is no longer than they are.
-/
namespace Go.Proofs.YtjppobeomocgbaaGreatDoor
def Kp.Wf (w : Wi) : Prop := w.text.length ≤ 1048576 ∧ w.path.length ≤ 1048576 ∧ ∀ t ∈ w.path, t.length ≤ 1048576
def Kp.Cf (c : Cm) : Prop := c.fn.length ≤ 1048576 ∧ ∀ x ∈ c.args, Ko.Fine x
theorem Ka.fine {w : Wi} (h : Kp.Wf w) : Ko.Fine (Ka.arg w).1 := by
  have h0 : Ko.Fine Ka.zero := ⟨Nat.zero_le _, Nat.zero_le _, Nat.zero_le _, fun t ht => by cases ht⟩
  have hn : ∀ t ∈ ([] : List (List UInt8)), t.length ≤ 1048576 := fun t ht => by cases ht
  unfold Ka.arg
  split
  · show Ko.Fine (Ka.const w.text).1
    obtain ⟨h1, h2, h3⟩ := Ka.const_zero w.text
    refine ⟨by rw [h2]; exact Nat.zero_le _, by rw [h3]; exact Nat.zero_le _, by rw [h1]; exact Nat.zero_le _, by rw [h1]; exact hn⟩
  · split
    · exact ⟨Nat.zero_le _, Nat.zero_le _, h.2.1, h.2.2⟩
    · split
      · exact ⟨h.1, Nat.zero_le _, h.2.1, h.2.2⟩
      · split
        · exact ⟨Nat.zero_le _, Nat.zero_le _, Nat.zero_le _, hn⟩
        · split
          · exact ⟨Nat.zero_le _, h.1, Nat.zero_le _, hn⟩
          · exact h0
theorem Kp.args_fine : ∀ l : List Wi, (∀ w ∈ l, Kp.Wf w) → ∀ x ∈ Kp.args l, Ko.Fine x
  | [], _ => fun x hx => by cases hx
  | w :: ws, h => fun x hx => by
    unfold Kp.args at hx
    split at hx
    · rcases List.mem_cons.1 hx with rfl | hx
      · exact Ka.fine (h w (List.mem_cons_self ..))
      · exact Kp.args_fine ws (fun y hy => h y (List.mem_cons_of_mem _ hy)) x hx
    · cases hx
theorem Kp.behind_mem {l : List Wi} : ∀ x ∈ Kp.behind l, x ∈ l := by
  intro x hx
  unfold Kp.behind at hx
  split at hx
  · exact List.mem_of_mem_tail hx
  · exact hx
theorem Kp.cmd_fine {l : List Wi} (h : ∀ w ∈ l, Kp.Wf w) : Kp.Cf (Kp.cmd l) := by
  refine ⟨?_, Kp.args_fine _ fun w hw => h w (Kp.behind_mem w hw)⟩
  show (Kp.fn l).length ≤ _
  cases l with
  | nil => exact Nat.zero_le _
  | cons w ws =>
    show (if Kp.isf (w :: ws) = true then w.text else []).length ≤ _
    split
    · exact (h w (List.mem_cons_self ..)).1
    · exact Nat.zero_le _
theorem Kp.more_fine (n : Nat) : ∀ l : List Wi, (∀ w ∈ l, Kp.Wf w) → ∀ c ∈ (Kp.more n l).1, Kp.Cf c := by
  induction n with
  | zero => exact fun l h c hc => by cases hc
  | succ n ih =>
    intro l h c hc
    have ht : ∀ w ∈ l.tail, Kp.Wf w := fun w hw => h w (List.mem_of_mem_tail hw)
    unfold Kp.more at hc
    split at hc
    · rcases List.mem_cons.1 hc with rfl | hc
      · exact Kp.cmd_fine ht
      · exact ih _ (fun w hw => ht w (Kp.left_mem w hw)) c hc
    · cases hc
theorem Kp.read_fine {ws : List Wi} (h : Wi.Fits ws) : ∀ c ∈ (Kp.read ws).1, Kp.Cf c := by
  intro c hc
  rcases List.mem_cons.1 hc with rfl | hc
  · exact Kp.cmd_fine h.2
  · exact Kp.more_fine _ _ (fun w hw => h.2 w (Kp.left_mem w hw)) c hc
theorem Kp.read_fits {ws : List Wi} (h : Wi.Fits ws) : Cm.Fits (Kp.read ws).1 := fun c hc x hx => by
  obtain ⟨h1, _, _, h4⟩ := (Kp.read_fine h c hc).2 x hx
  exact ⟨by omega, fun t ht => by have := h4 t ht; omega⟩
end Go.Proofs.YtjppobeomocgbaaGreatDoor
/-
  THE WALK of stolelaw0.CopyPipe: the same commands, in blocks of their own.
-/
namespace Go.Proofs.YtjppobeomocgbaaGreatDoor
open Go.RowKit
/-- rows that a machine can copy -/
def Cm.Small (cs : List Cm) : Prop := cs.length ≤ 1048576 ∧ ∀ c ∈ cs, c.args.length ≤ 1048576 ∧ ∀ x ∈ c.args, x.path.length ≤ 1048576
end Go.Proofs.YtjppobeomocgbaaGreatDoor
/-
  THE CONTRACTS of the landed pipe.Parse and pipe.May.
-/
namespace Go.Proofs.YtjppobeomocgbaaGreatDoor
open Go.RowKit
/-- what the program reads of package variables: nothing -/
structure Ip.T (w : World) : Prop where
  out : True
theorem Ip.T.on {w w' : World} (_h : Ip.T w) (_hb : Below w.heap.size w w') : Ip.T w' := ⟨trivial⟩
set_option maxRecDepth 100000 in
set_option maxHeartbeats 4000000 in
theorem Ip.parse (ws : List Wi) (v : Value) (R : Nat → Prop) (w : World) (_hT : Ip.T w) (h : Dt.Lies w R (Wi.rows ws) v) (hz : Wi.Fits ws) : Calls Tryz.prog 84 #[v] w fun e w' => ∃ v', e = .returned (.tuple #[v', .int .i64 (Pi.parse ws).2]) ∧ Dt.Lies w' (fun b => w.heap.size ≤ b ∧ b < w'.heap.size ∧ Rm.Ub w' b) (Cm.rows (Pi.parse ws).1) v' ∧ Below w.heap.size w w' := by
  have hpa := Kp.parse ws
  have hfi := Kp.read_fine hz
  have hft := Kp.read_fits hz
  have hne : decide (0 < (Kp.read ws).1.length) = true := rfl
  have hat : Kc.At w (w.alloc (.cells #[v, .int .i64 0] 164)) w.heap.size v ws.length 0 := ⟨Bs.Box.new w _ _ _ rfl, (Below.refl _ _).alloc (Nat.le_refl _) _, Nat.le_refl _, Nat.zero_le _⟩
  have cm := Kc.commands hat h hz.1
  obtain ⟨a0, d0, ev, _, _, _⟩ := Wi.get h
  have HT := Lib.hid hat
  have hs1 : (w.alloc (.cells #[v, .int .i64 0] 164)).heap.size = w.heap.size + 1 := by simp
  generalize Kp.read ws = G at *
  obtain ⟨X1, X2, hX⟩ : ∃ X1 X2, Pi.parse ws = (X1, X2) := ⟨_, _, rfl⟩
  rw [hX] at hpa ⊢
  have HX := Lib.hid hpa
  have HFI := Lib.hid hfi
  have HFT := Lib.hid hft
  clear hat h hpa hfi hft hX hz
  simp only
  subst ev
  have hlow : ∀ u, Below w.heap.size w u → Dt.Lies u (fun b => w.heap.size ≤ b ∧ b < u.heap.size ∧ Rm.Ub u b) (Cm.rows []) (.slice none 0 0) := fun u _ => Dt.Lies.nil _ _ _ _
  go_enter Tryz.func84, Tryz.ntmps84
  go_upto_region 3 with (go_at_call 113; refine cm.mono ?_; rintro e w2 ⟨v', xs, av, ys, j, rfl, hr, ha, hd, hk⟩; have HR := Lib.hid hr; have HA := Lib.hid ha; have HD := Lib.hid hd; clear hr ha hd hk cm)
  have ov := Kc.isOver HA.out
  by_cases hj : ws.length ≤ j
  · rw [decide_eq_true hj] at ov
    have hG2 : G.2 = [] := HD.out.symm.trans (Kp.at_end hj)
    have fo := fun u (hu : Below w2.heap.size w2 u) => Kf.areFormed G.1 v' (fun _ => True) u (((HR.out.below hu).imp (Q := fun _ _ => St.Lies u (fun _ => True)) fun _ _ _ _ _ _ _ hp => hp.later (HA.out.low.trans (hu.mono HA.out.low.size))).lies fun _ _ _ _ => trivial) HFT.out
    have fe := fun u (hu : Below w2.heap.size w2 u) => Kf.areFew G.1 v' (fun _ => True) u (((HR.out.below hu).imp (Q := fun _ _ => St.Lies u (fun _ => True)) fun _ _ _ _ _ _ _ hp => hp.later (HA.out.low.trans (hu.mono HA.out.low.size))).lies fun _ _ _ _ => trivial)
    have ow := fun u (hu : Below w2.heap.size w2 u) => Ko.own (w0 := w) (HR.out.below hu) (Nat.le_trans (by have := HA.out.lt; omega) hu.size) (by omega) (HA.out.low.trans (hu.mono HA.out.low.size)) HFI.out
    have hne2 := hne
    cases hrow : Kf.row 0 G.1 with
    | false =>
      have hXX := HX.out
      rw [if_neg (fun q => by rw [hrow] at q; cases q.2)] at hXX
      injection hXX with e1 e2
      subst e1 e2
      rw [hrow] at fo
      have hlw := HA.out.low
      have hs2 := hlw.size
      clear HX hG2 HD fe ow hne2 hrow
      go_wp2_with (first | (go_at_call 114; refine ov.mono ?_; rintro e w3 ⟨rfl, n1, rfl⟩; have B3 : Hid (Below w2.heap.size w2 (w2.drewN n1)) := ((Kc.Kept.refl w2 w2.heap.size).drewN n1).low (Below.refl _ _) (Nat.le_refl _)) | (go_at_call 115; refine (fo _ B3.out).mono ?_; rintro e w4 ⟨rfl, b4⟩; have B4 := Lib.hid (B3.out.trans (b4.mono B3.out.size)); clear b4 fo))
      go_ret2
      exact ⟨.slice none 0 0, rfl, Dt.Lies.nil _ _ _ _, hlw.trans (B4.out.mono hs2)⟩
    | true =>
      rw [hrow, hne, Bool.and_true] at fo
      cases hfew : Kf.few G.1 with
      | false =>
        have hXX := HX.out
        rw [if_pos ⟨hG2, hrow⟩, hfew, if_neg (by decide)] at hXX
        injection hXX with e1 e2
        subst e1 e2
        rw [hfew] at fe
        have hlw := HA.out.low
        have hs2 := hlw.size
        clear HX hG2 HD ow hne2 hrow hfew
        go_wp2_with (first | (go_at_call 114; refine ov.mono ?_; rintro e w3 ⟨rfl, n1, rfl⟩; have B3 : Hid (Below w2.heap.size w2 (w2.drewN n1)) := ((Kc.Kept.refl w2 w2.heap.size).drewN n1).low (Below.refl _ _) (Nat.le_refl _)) | (go_at_call 115; refine (fo _ B3.out).mono ?_; rintro e w4 ⟨rfl, b4⟩; have B4 := Lib.hid (B3.out.trans (b4.mono B3.out.size)); clear b4 fo) | (go_at_call 116; refine (fe _ B4.out).mono ?_; rintro e w5 ⟨rfl, b5⟩; have B5 := Lib.hid (B4.out.trans (b5.mono B4.out.size)); clear b5 fe))
        go_ret2
        exact ⟨.slice none 0 0, rfl, Dt.Lies.nil _ _ _ _, hlw.trans (B5.out.mono hs2)⟩
      | true =>
        have hXX := HX.out
        rw [if_pos ⟨hG2, hrow⟩, hfew, if_pos rfl] at hXX
        injection hXX with e1 e2
        subst e1 e2
        rw [hfew] at fe
        obtain ⟨a9, d9, rfl⟩ := Gr.form HR.out.own
        clear HX hG2 HD hne2 hrow hfew
        go_wp2_with (first | (go_at_call 114; refine ov.mono ?_; rintro e w3 ⟨rfl, n1, rfl⟩; have B3 : Hid (Below w2.heap.size w2 (w2.drewN n1)) := ((Kc.Kept.refl w2 w2.heap.size).drewN n1).low (Below.refl _ _) (Nat.le_refl _)) | (go_at_call 115; refine (fo _ B3.out).mono ?_; rintro e w4 ⟨rfl, b4⟩; have B4 := Lib.hid (B3.out.trans (b4.mono B3.out.size)); clear b4 fo) | (go_at_call 116; refine (fe _ B4.out).mono ?_; rintro e w5 ⟨rfl, b5⟩; have B5 := Lib.hid (B4.out.trans (b5.mono B4.out.size)); clear b5 fe) | (go_at_call 117; refine (ow _ B5.out).mono ?_; rintro e w6 ⟨rfl, h6, b6⟩; have H6 := Lib.hid h6; have B6 := Lib.hid b6; clear h6 b6 ow))
        go_ret2
        exact ⟨_, rfl, H6.out, B6.out⟩
  · rw [decide_eq_false hj] at ov
    have hG2 : ¬ G.2 = [] := fun e => hj (by have := HD.out.trans e; rwa [List.drop_eq_nil_iff] at this)
    have hXX := HX.out
    rw [if_neg (fun q => hG2 q.1)] at hXX
    injection hXX with e1 e2
    subst e1 e2
    clear HX hG2 HD
    go_wp2_with (go_at_call 114; refine ov.mono ?_; rintro e w3 ⟨rfl, n1, rfl⟩)
    go_ret2
    exact ⟨.slice none 0 0, rfl, Dt.Lies.nil _ _ _ _, (HA.out.drewN n1).low⟩
theorem Cm.Held.small {cs : List Cm} (h : Cm.Held cs) : Cm.Small cs := ⟨h.1, fun c hc => ⟨(h.2 c hc).2.1, fun x hx => ((h.2 c hc).2.2 x hx).2.2.1⟩⟩
end Go.Proofs.YtjppobeomocgbaaGreatDoor

/-
  THE WALK of stoleref13.Words.
-/
import Derived.Test.YtnophkbbeipaaaaOWord
import Derived.Test.YtnophkbbeipaaaaOMem
import Derived.Test.YtnophkbbeipaaaaOLt
namespace Go.Proofs.Ytnophkbbeipaaaa
open Go.RowKit
def Wr.ans (G : Except Int (List Wo)) : List Wo × Int :=
  match G with
  | .error e => ([], e)
  | .ok ws => (ws, 0)
theorem Wx.skip_step {s : ByteArray} {i : Nat} (h : i < s.size) : Lx.skip i (s.data.toList.drop i) = if Lx.blank s[i] = true then Lx.skip (i + 1) (s.data.toList.drop (i + 1)) else i := by
  rw [Rl.drop s i h]
  rfl
theorem Wx.skip_end {s : ByteArray} {i : Nat} (h : s.size ≤ i) : Lx.skip i (s.data.toList.drop i) = i := by
  rw [Wx.drop_none h]
  rfl
theorem Wx.go_end {S : List UInt8} {i n p : Nat} {out : List Wo} (hn : 0 < n) (hp : Lx.skip i (S.drop i) = p) (h : S.length ≤ p) : Wx.go n S i out = .ok out := by
  obtain ⟨n, rfl⟩ : ∃ m, n = m + 1 := ⟨n - 1, by omega⟩
  unfold Wx.go
  simp only [hp, if_pos h]
theorem Wx.go_word {S : List UInt8} {i n p : Nat} {out : List Wo} (hn : 0 < n) (hp : Lx.skip i (S.drop i) = p) (h : p < S.length) : Wx.go n S i out = match Wx.word S p with | .error e => .error e | .ok (w, j) => if Wx.ends S w.kind j = true then Wx.go (n - 1) S j (out ++ [w]) else .error 1400 := by
  obtain ⟨n, rfl⟩ : ∃ m, n = m + 1 := ⟨n - 1, by omega⟩
  conv => lhs; unfold Wx.go
  simp only [hp, if_neg (Nat.not_le.2 h)]
  rfl
theorem Cu.Kept.below {B : Nat} {w wr w' : World} {g : Nat} (h : Cu.Kept wr w' g) (hb : Below B w wr) (hB : B ≤ g) (hw : B ≤ w.heap.size) : Below B w w' :=
  ⟨h.os.trans hb.os, h.tape.trans hb.tape, h.output.trans hb.output, Nat.le_trans hb.size h.size, fun k hk => (h.block k (by have := hb.size; omega) (by omega)).trans (hb.block k hk)⟩
set_option maxRecDepth 100000 in
set_option maxHeartbeats 4000000 in
theorem Lr.words (s : ByteArray) (w : World) (hs : s.size ≤ 1099511627776) : Calls Try.prog 8 #[.string s] w fun e w' => ∃ v, e = .returned (.tuple #[v, .int .i64 (Wx.words s).2]) ∧ Wo.Lies w' (fun k => w.heap.size ≤ k ∧ k < w'.heap.size ∧ Rm.Ub w' k) (Wx.words s).1 v ∧ Below w.heap.size w w' := by
  obtain ⟨G, hG⟩ : ∃ G, Wx.go (s.size + 1) s.data.toList 0 [] = G := ⟨_, rfl⟩
  have e : Wx.words s = Wr.ans G := by unfold Wx.words; rw [hG]; rfl
  rw [e]
  have HG := Lib.hid hG
  clear hG e
  go_enter Try.func8, Try.ntmps8
  go_wp2_with fail
  have HA0 : Hid (Cu.At (w.alloc (.cells #[.string s, .int .i64 0, .int .i64 0] 47)) w.heap.size s 0 0) := Bs.Box.new _ _ _ _ rfl
  have HB0 : Hid (Below w.heap.size w (w.alloc (.cells #[.string s, .int .i64 0, .int .i64 0] 47))) := (Below.refl _ _).alloc (Nat.le_refl _) _
  generalize w.alloc (.cells #[.string s, .int .i64 0, .int .i64 0] 47) = w1 at *
  obtain ⟨g, hg⟩ : ∃ g, w.heap.size = g := ⟨_, rfl⟩
  have HGG := Lib.hid hg
  rw [hg] at HA0 ⊢
  clear hg
  go_loopw [5] (fun v wr => ∃ (p n : Nat) (ws : List Wo), p ≤ s.size ∧ s.size < p + n ∧ ws.length ≤ p ∧ Hid (Cu.At wr g s p 0) ∧ Hid (Below w.heap.size w wr) ∧ Hid (Wo.Row w.heap.size g ws wr v) ∧ Hid (v.ownBlock ≠ some g) ∧ Hid (Wx.go n s.data.toList p ws = G)) (fun _ wr => s.size - (intOf ((wr.cell? ⟨g, 1, none⟩).getD undef)).toNat)
  case atStart => exact ⟨0, s.size + 1, [], Nat.zero_le _, by omega, Nat.zero_le _, HA0, HB0, Wo.Row.nil _ _ _, (by unfold Hid; intro q; cases q), HG⟩
  case round =>
    clear HA0 HB0 HG
    obtain ⟨p, n, ws, hp, hn, hws, HA, HB, HR, HV, HG⟩ := hrel
    have c1 := HA.out.c1
    have HM : Hid ((intOf ((wr.cell? ⟨g, 1, none⟩).getD undef)).toNat = p) := by unfold Hid; rw [c1]; rfl
    have hgw : w.heap.size ≤ g := by have := HGG.out; omega
    obtain ⟨q, hq⟩ : ∃ q, Lx.skip p (s.data.toList.drop p) = q := ⟨_, rfl⟩
    have hpq : p ≤ q ∧ q ≤ s.size := by
      have := Lx.skip_ge (s.data.toList.drop p) p
      rw [hq, List.length_drop, Wk.len_data] at this
      omega
    obtain ⟨hpq, hqs⟩ := hpq
    have HQ := Lib.hid hq
    clear hq
    generalize wr = wz at *
    go_upto_block 2 with fail
    go_cut [] from 10 to 95 (fun wx => Hid (Cu.At wx g s q 0) ∧ Hid (Cu.Kept wz wx g))
    case first =>
      clear HR HG HV HB HM
      go_wp2_with fail
      go_loopw [] (fun wx => ∃ j : Nat, p ≤ j ∧ j ≤ s.size ∧ Hid (Cu.At wx g s j 0) ∧ Hid (Cu.Kept wz wx g) ∧ Hid (Lx.skip p (s.data.toList.drop p) = Lx.skip j (s.data.toList.drop j))) (fun wx => s.size - (intOf ((wx.cell? ⟨g, 1, none⟩).getD undef)).toNat)
      case atStart => exact ⟨p, Nat.le_refl _, hp, HA, Cu.Kept.refl _ _, rfl⟩
      case round =>
        clear c1 HA
        obtain ⟨j, hpj, hj, HA, HK, HN⟩ := hrel
        have c0 := HA.out.c0
        have c1 := HA.out.c1
        have f := HA.out.fz
        have HM2 : Hid ((intOf ((wr.cell? ⟨g, 1, none⟩).getD undef)).toNat = j) := by unfold Hid; rw [c1]; rfl
        by_cases hlt : j < s.size
        · have d1 : decide ((j : Int) < (s.size : Int)) = true := decide_eq_true (by omega)
          have bl := fun u => Lr.blank s[j] u
          have HS := Lib.hid (HN.out.trans (Wx.skip_step hlt))
          cases hb : Lx.blank s[j] with
          | true =>
            rw [hb] at bl
            rw [if_pos hb] at HS
            have HA3 := Lib.hid (HA.out.set1 (j + 1))
            have HK3 := Lib.hid (HK.out.set 1 (.int .i64 ((j + 1 : Nat) : Int)))
            rw [show ((j + 1 : Nat) : Int) = (j : Int) + 1 by omega] at HA3 HK3
            clear hb HN HQ
            go_wp2_with (go_at_call 16; refine (bl _).mono ?_; rintro e w9 ⟨rfl, hw⟩; have hw := hw.symm; subst hw)
            go_roundw
            case rel => exact ⟨j + 1, by omega, by omega, HA3, HK3, HS⟩
            case measure => rw [HM2.out, HA3.out.c1]; simp [intOf]; omega
          | false =>
            rw [hb] at bl
            rw [if_neg (by rw [hb]; decide), HQ.out] at HS
            clear hb HN HQ
            go_wp2_with (go_at_call 16; refine (bl _).mono ?_; rintro e w9 ⟨rfl, hw⟩; have hw := hw.symm; subst hw)
            go_meet
            case rel => exact ⟨by rw [HS.out]; exact HA, HK⟩
        · have d1 : decide ((j : Int) < (s.size : Int)) = false := decide_eq_false (by omega)
          have HS := Lib.hid (HN.out.trans (Wx.skip_end (by omega)))
          rw [HQ.out] at HS
          clear HN HQ
          go_wp2_with fail
          go_meet
          case rel => exact ⟨by rw [HS.out]; exact HA, HK⟩
    case rest =>
      obtain ⟨HA2, HK2⟩ := hcut
      have HB2 := Lib.hid (HK2.out.below HB.out hgw (Nat.le_refl _))
      have HR2 := Lib.hid (HR.out.on HV.out HK2.out)
      clear HA HB HR HK2 c1
      generalize wc = wb at *
      have c0 := HA2.out.c0
      have c1 := HA2.out.c1
      by_cases hlt : q < s.size
      · have d1 : decide ((s.size : Int) ≤ (q : Int)) = false := decide_eq_false (by omega)
        have HGO := Lib.hid (Wx.go_word (n := n) (out := ws) (by omega) HQ.out (by rw [Wk.len_data]; exact hlt))
        rw [HG.out] at HGO
        have wd := Cu.word s q g wb HA2.out hlt (by omega)
        clear HG HQ
        go_upto_region 8 with (go_at_call 17; refine wd.mono ?_; rintro e w5 ⟨⟨k, t, v5, m, j, x, rfl, ⟨va, vn, vd, rfl⟩, hqj, hjs, a5, k5, hc5⟩⟩; have HA5 := Lib.hid a5; have HK5 := Lib.hid k5; have HC5 := Lib.hid hc5; clear a5 k5 hc5 wd)
        have HX6 : Hid (Bs.Box (w5.alloc (.cells #[.int .i64 (k : Int), .string t, .slice va vn vd, .int .i64 m] 37)) w5.heap.size #[.int .i64 (k : Int), .string t, .slice va vn vd, .int .i64 m] 37) := Bs.Box.new _ _ _ _ rfl
        have HK6 := Lib.hid (HK5.out.alloc (.cells #[.int .i64 (k : Int), .string t, .slice va vn vd, .int .i64 m] 37))
        have HA6 := Lib.hid (HA5.out.then ((Below.refl w5.heap.size w5).alloc (Nat.le_refl _) (.cells #[.int .i64 (k : Int), .string t, .slice va vn vd, .int .i64 m] 37)))
        have HL6 : Hid (∀ ts, St.Lies w5 (fun b => wb.heap.size ≤ b ∧ b < w5.heap.size ∧ Rm.Ub w5 b) ts (.slice va vn vd) → St.Lies (w5.alloc (.cells #[.int .i64 (k : Int), .string t, .slice va vn vd, .int .i64 m] 37)) (fun b => w.heap.size ≤ b ∧ b < (w5.alloc (.cells #[.int .i64 (k : Int), .string t, .slice va vn vd, .int .i64 m] 37)).heap.size ∧ Value.ownBlock u5 ≠ some b ∧ b ≠ g ∧ Rm.Ub (w5.alloc (.cells #[.int .i64 (k : Int), .string t, .slice va vn vd, .int .i64 m] 37)) b) ts (.slice va vn vd)) := fun ts hl => hl.on fun b hb => by
          have e := Below.heap_alloc w5 (.cells #[.int .i64 (k : Int), .string t, .slice va vn vd, .int .i64 m] 37) b hb.2.1
          have hgb := Bs.Box.lt HA2.out
          have hbs := HB2.out.size
          obtain ⟨xs, ho, _⟩ := HR2.out
          exact ⟨⟨by omega, by simp; omega, fun z => by have := (ho.lt b z).2; omega, by omega, hb.2.2.on e⟩, e⟩
        have hr6 : g < w5.heap.size := by have := Bs.Box.lt HA2.out; have := HK5.out.size; omega
        clear HA5 HK5 c0 c1
        generalize w5.alloc (.cells #[.int .i64 (k : Int), .string t, .slice va vn vd, .int .i64 m] 37) = w6 at *
        generalize w5.heap.size = r at *
        have HB6 := Lib.hid (HK6.out.below HB2.out hgw (Nat.le_refl _))
        have HR6 := Lib.hid (HR2.out.on HV.out HK6.out)
        clear HR2 HB2 HK6
        have c0 := HA6.out.c0
        have c1 := HA6.out.c1
        have c2 := HA6.out.c2
        have f := HA6.out.fz
        have x0 : w6.cell? ⟨r, 0, none⟩ = some (.int .i64 (k : Int)) := HX6.out.cell 0 rfl
        have x1 : w6.cell? ⟨r, 1, none⟩ = some (.string t) := HX6.out.cell 1 rfl
        have x2 : w6.cell? ⟨r, 2, none⟩ = some (.slice va vn vd) := HX6.out.cell 2 rfl
        have x3 : w6.cell? ⟨r, 3, none⟩ = some (.int .i64 m) := HX6.out.cell 3 rfl
        rcases HC5.out with ⟨rfl, ts, h5, l5⟩ | ⟨hx, h5⟩
        · have HLL := Lib.hid (HL6.out ts l5)
          have HGE : Hid (G = if Wx.ends s.data.toList k j = true then Wx.go (n - 1) s.data.toList j (ws ++ [⟨k, t.data.toList, ts, m⟩]) else .error 1400) := by unfold Hid; rw [HGO.out, h5]
          have hj1 : q < j := Wx.word_lt h5
          clear HL6 HC5 HGO h5 l5
          obtain ⟨E, hE⟩ : ∃ E, Wx.ends s.data.toList k j = E := ⟨_, rfl⟩
          rw [hE] at HGE
          have HE := Lib.hid hE
          clear hE
          go_cut [80] from 10 to 95 (fun cv wx => cv = .bool (!E) ∧ wx = w6)
          case first =>
            have hE := HE.out
            clear HE HGE HLL HR6 HB6 HX6 HM
            unfold Wx.ends at hE
            by_cases hk5 : k = 5
            · have tk : ((k : Int) == 5) = true := beq_iff_eq.2 (by omega)
              have tkb : ((k : Int) != 5) = false := by rw [bne, tk]; rfl
              have hE2 : true = E := by rw [← hE, decide_eq_true hk5]; rfl
              subst hE2
              clear hE hk5
              go_wp2_with fail
              go_meet
              case rel => exact ⟨rfl, by first | rfl | trivial⟩
            · have tk : ((k : Int) == 5) = false := beq_eq_false_iff_ne.2 (by omega)
              have tkb : ((k : Int) != 5) = true := by rw [bne, tk]; rfl
              rw [decide_eq_false hk5, Bool.false_or, Wk.len_data] at hE
              clear hk5
              by_cases hlj : j < s.size
              · have d2 : decide ((j : Int) < (s.size : Int)) = true := decide_eq_true (by omega)
                rw [decide_eq_false (by omega), Bool.false_or, show s.data.toList.getD j 0 = s[j] by rw [List.getD_eq_getElem?_getD, Wx.get hlj]; rfl] at hE
                have bl := fun u => Lr.blank s[j] u
                cases hb : Lx.blank s[j] with
                | true =>
                  rw [hb] at bl hE
                  have hE2 : true = E := by rw [← hE]; rfl
                  subst hE2
                  clear hE hb
                  go_wp2_with (go_at_call 16; refine (bl _).mono ?_; rintro e w9 ⟨rfl, hw⟩; have hw := hw.symm; subst hw)
                  go_meet
                  case rel => exact ⟨rfl, by first | rfl | trivial⟩
                | false =>
                  rw [hb] at bl hE
                  by_cases h124 : s[j] = 124
                  · have t124 : ((s[j].toNat : Int) == 124) = true := Tp.eq_true (d := 124) h124
                    have t124b : ((s[j].toNat : Int) != 124) = false := by rw [bne, t124]; rfl
                    have hE2 : true = E := by rw [← hE, decide_eq_true h124]; rfl
                    subst hE2
                    clear hE hb h124
                    go_wp2_with (go_at_call 16; refine (bl _).mono ?_; rintro e w9 ⟨rfl, hw⟩; have hw := hw.symm; subst hw)
                    go_meet
                    case rel => exact ⟨rfl, by first | rfl | trivial⟩
                  · have t124 : ((s[j].toNat : Int) == 124) = false := Tp.eq_false (d := 124) h124
                    have t124b : ((s[j].toNat : Int) != 124) = true := by rw [bne, t124]; rfl
                    have hE2 : false = E := by rw [← hE, decide_eq_false h124]; rfl
                    subst hE2
                    clear hE hb h124
                    go_wp2_with (go_at_call 16; refine (bl _).mono ?_; rintro e w9 ⟨rfl, hw⟩; have hw := hw.symm; subst hw)
                    go_meet
                    case rel => exact ⟨rfl, by first | rfl | trivial⟩
              · have d2 : decide ((j : Int) < (s.size : Int)) = false := decide_eq_false (by omega)
                have hE2 : true = E := by rw [← hE, decide_eq_true (by omega)]; rfl
                subst hE2
                clear hE
                go_wp2_with fail
                go_meet
                case rel => exact ⟨rfl, by first | rfl | trivial⟩
          case rest =>
            obtain ⟨rfl, hw⟩ := hcut
            have hw := hw.symm
            subst hw
            cases E with
            | true =>
              have HG2 : Hid (Wx.go (n - 1) s.data.toList j (ws ++ [⟨k, t.data.toList, ts, m⟩]) = G) := by unfold Hid; rw [HGE.out, if_pos rfl]
              clear HGE HE
              obtain ⟨xs, ho, hxs⟩ := id HR6.out
              have hgw6 := Bs.Box.lt HA6.out
              clear hxs
              go_wp2_with (at_builtin; refine Ro.push rfl _ _ 22 37 4 56 _ rfl Try.underlying22 Wm.info rfl (by decide) _ rfl (ho.alloc _) w6.heap.size (Wo.four ⟨k, t.data.toList, ts, m⟩ (.slice va vn vd)) rfl (Wo.cell4 w6 ⟨k, t.data.toList, ts, m⟩ (.slice va vn vd)) rfl (Wo.ones _ _ _ _) (by unfold maxLen; omega) (by omega) (by have := HB6.out.size; simp; omega) ?_)
              intro v8 w8 R8 hg8 hf8
              have hup := Wo.Row.push (x := ⟨k, t.data.toList, ts, m⟩) HR6.out HV.out hgw6 HLL.out (fun ys hy => by
                have e := Wm.own_unique hy ho
                rw [e]
                exact R8) hg8 hf8
              have HR8 := Lib.hid hup.1
              have HV8 := Lib.hid hup.2
              have HB8 : Hid (Below w.heap.size w w8) := Lib.hid ((HB6.out.alloc HB6.out.size _).grown hg8 (by have := HB6.out.size; simp; omega) (fun k hk => (ho.lt k hk).1))
              have HA8 : Hid (Cu.At w8 g s j 0) := (hg8.block g (by simp; omega) (fun e => HV.out e.symm)).trans ((Below.heap_alloc _ _ _ hgw6).trans HA6.out)
              clear hup R8 hg8 hf8 HR6 HB6 HA6
              go_wp2_with fail
              go_roundw
              case rel => exact ⟨j, n - 1, ws ++ [⟨k, t.data.toList, ts, m⟩], hjs, by omega, by simp; omega, HA8, HB8, HR8, HV8, HG2⟩
              case measure => rw [HM.out, HA8.out.c1]; simp [intOf]; omega
            | false =>
              have hG : .error 1400 = G := by rw [HGE.out, if_neg (by decide)]
              subst hG
              have fl := fun u z => Cu.fail 1400 g s j u z
              clear HGE HE HLL HR6 HM
              go_upto_region 11 with (go_at_call 18; refine (fl _ HA6.out).mono ?_; rintro e w7 ⟨rfl, a7, k7⟩; have HA7 := Lib.hid a7; have HB7 := Lib.hid (k7.below HB6.out hgw (Nat.le_refl _)); clear a7 k7 fl c0 c1 c2 f x0 x1 x2 x3; have c2 := HA7.out.c2)
              go_quiet (fail)
              go_wp2
              go_ret2
              exact ⟨_, rfl, Wo.Lies.nil _ _, ⟨HB7.out.os, HB7.out.tape, HB7.out.output, HB7.out.size, HB7.out.block⟩⟩
        · have hG : .error x = G := by rw [HGO.out, h5]
          subst hG
          clear HL6 HC5 HGO h5 HR6 HM
          go_upto_region 11 with fail
          go_quiet (fail)
          go_wp2
          go_ret2
          exact ⟨_, rfl, Wo.Lies.nil _ _, ⟨HB6.out.os, HB6.out.tape, HB6.out.output, HB6.out.size, HB6.out.block⟩⟩
      · have d1 : decide ((s.size : Int) ≤ (q : Int)) = true := decide_eq_true (by omega)
        have hG : .ok ws = G := by rw [← HG.out, Wx.go_end (by omega) HQ.out (by rw [Wk.len_data]; omega)]
        subst hG
        have HL := Lib.hid HR2.out.lies
        clear HG HQ
        go_wp2_with fail
        go_ret2
        exact ⟨_, rfl, HL.out, HB2.out⟩
end Go.Proofs.Ytnophkbbeipaaaa

/-
  THE WALK of stolelaw14.WordBack: it returns true.
-/
import Derived.Test.YtnophkbbeipaaaaOWr
import Derived.Test.YtnophkbbeipaaaaOLine
import Derived.Deep.CutRange
namespace Go.Proofs.Ytnophkbbeipaaaa
open Go.RowKit
theorem Lb.and15 (x : Int) : Go.bits .and .i64 x 15 = x % 16 := Lb.and 4 (by decide) x
theorem Wo.Lies.at {w : World} {R : Nat → Prop} {ws : List Wo} {a : Option Addr} {n d i : Nat} {x : Wo} (h : Wo.Lies w R ws (.slice a n d)) (hx : ws[i]? = some x) : ∃ b o pv, a = some ⟨b, o, none⟩ ∧ R b ∧ w.cell? ⟨b, o + i * 4, none⟩ = some (.int .i64 (x.kind : Int)) ∧ w.cell? ⟨b, o + i * 4 + 1, none⟩ = some (.string ⟨x.text.toArray⟩) ∧ w.cell? ⟨b, o + i * 4 + 2, none⟩ = some pv ∧ w.cell? ⟨b, o + i * 4 + 3, none⟩ = some (.int .i64 x.num) ∧ St.Lies w R x.path pv := by
  obtain ⟨a', d', e, h1, h2, h3⟩ := h
  injection e with e1 e2 e3
  subst e1
  exact h3 i x hx
set_option maxRecDepth 100000 in
set_option maxHeartbeats 4000000 in
theorem Law.wordBack (s : ByteArray) (gap : Int) (w : World) (hT : Op.T w) (hs : s.size ≤ 17179869184) : Calls Try.prog 4 #[.string s, .int .i64 gap] w fun e w' => e = .returned (.bool true) ∧ Below w.heap.size w w' := by
  have aw := fun u h => Ow.awake u h
  have HT := Lib.hid hT
  have nm := fun x u => Ow.num x u
  have c1 := fun u h => Op.words s u h (by omega)
  have a15 := fun y => Lb.and15 y
  have a3 := fun y => Lb.and3 y
  obtain ⟨gd, gb, gl⟩ := Wx.words_is s
  have hbad := Wx.words_bad s
  generalize (Wx.words s).1 = WS at *
  generalize (Wx.words s).2 = E at *
  clear hT
  by_cases hE : E = 0
  · subst hE
    have GD := Lib.hid gd
    clear hbad gd
    have gb : Wx.bulk WS ≤ 400000000000 := by omega
    have gl : WS.length ≤ 17179869184 := by omega
    go_enter Try.func4, Try.ntmps4
    go_wp2_with (first | (go_at_call 12; refine (aw _ HT.out).mono ?_; rintro e w1 ⟨rfl, b1⟩; have HB1 := Lib.hid b1; clear b1 aw) | (go_at_call 7; refine (c1 _ (HT.out.on HB1.out)).mono ?_; rintro e w2 ⟨v2, rfl, l2, b2⟩; obtain ⟨ga, gd2, rfl, hgd, hgm, _⟩ := id l2; have HL2 := Lib.hid l2; have HB2 := Lib.hid (Wk.below_step HB1.out b2); clear b2 c1 l2) | (go_at_call 10; refine (nm _ _).mono ?_; rintro e w' ⟨rfl, hw⟩; have hw := hw.symm; subst hw))
    go_loopw [7, 8] (fun sv iv wx => ∃ (R : ByteArray) (i : Nat), sv = .string R ∧ iv = .int .i64 (i : Int) ∧ i ≤ WS.length ∧ Hid (Ow.Line WS i R) ∧ Hid (Below w2.heap.size w2 wx)) (fun _ iv _ => WS.length - (intOf iv).toNat)
    case atStart => exact ⟨⟨#[]⟩, 0, rfl, rfl, Nat.zero_le _, Ow.Line.nil WS, Below.refl _ _⟩
    case round =>
      obtain ⟨R, i, rfl, rfl, hi, HR, HW⟩ := hrel
      have zR : R.size ≤ 400000000000 := Nat.le_trans HR.out.size gb
      by_cases hlt : i < WS.length
      · have d1 : decide ((i : Int) < (WS.length : Int)) = true := decide_eq_true (by omega)
        have hid : i < gd2 := by omega
        obtain ⟨b, o, pv, rfl, hb, y0, y1, y2, y3, hpl⟩ := (HL2.out.below HW.out).at (List.getElem?_eq_getElem hlt)
        have hbl := hb.2.1
        have hgx := GD.out WS[i] (List.getElem_mem hlt)
        obtain ⟨x, hx⟩ : ∃ x, WS[i] = x := ⟨_, rfl⟩
        rw [hx] at y0 y1 y3 hpl hgx
        have htl : x.text.length ≤ 1099511627776 := by have q1 := Wx.text_le hgx; have q2 := Wx.mem_bulk (List.getElem_mem hlt); rw [hx] at q2; omega
        have hwl : (Wx.wr x).length ≤ 400000000000 := by have q2 := Wx.mem_bulk (List.getElem_mem hlt); rw [hx] at q2; omega
        have HIX : Hid (WS[i]? = some x) := by unfold Hid; rw [← hx]; exact List.getElem?_eq_getElem hlt
        have wt := fun (u : World) (hu : Below wr.heap.size wr u) => Ow.written x pv (fun k => True) u hgx (hpl.on fun k hk => ⟨trivial, hu.block k hk.2.1⟩) htl
        clear hx hgx htl
        obtain ⟨T, hT⟩ : ∃ T : ByteArray, (⟨(Wx.wr x).toArray⟩ : ByteArray) = T := ⟨_, rfl⟩
        have zT : T.size ≤ 400000000000 := by rw [← hT]; exact hwl
        have HTD : Hid (T.data.toList = Wx.wr x) := by unfold Hid; rw [← hT]
        rw [hT] at wt
        obtain ⟨pa, pd, rfl, _⟩ := hpl
        obtain ⟨xk, xt, xp, xn⟩ := x
        simp only at y0 y1 y2 y3 wt
        generalize (⟨xt.toArray⟩ : ByteArray) = xb at *
        generalize (xk : Int) = xki at *
        obtain ⟨m, hm, hm16⟩ : ∃ m : Nat, (i : Int) % 16 = (m : Int) ∧ m < 16 := ⟨((i : Int) % 16).toNat, by omega, by omega⟩
        have a15i : Go.bits .and .i64 (i : Int) 15 = (m : Int) := (a15 _).trans hm
        obtain ⟨q, hq, hq4⟩ : ∃ q : Nat, gap / 2 ^ m % 4 = (q : Int) ∧ q < 4 := ⟨(gap / 2 ^ m % 4).toNat, by omega, by omega⟩
        have a3i : Go.bits .and .i64 (gap / 2 ^ m) 3 = (q : Int) := (a3 _).trans hq
        have hbr := Below.refl wr.heap.size wr
        have hwm : IntKind.u64.wrap (m : Int) = (m : Int) := by rw [IntKind.wrap_u64]; omega
        obtain ⟨GQ, hGQ, hGm⟩ : ∃ GQ : ByteArray, (#[.string ⟨#[32]⟩, .string ⟨#[10]⟩, .string ⟨#[9, 32]⟩, .string ⟨#[32, 32]⟩] : Array Value)[q]? = some (.string GQ) ∧ GQ ∈ ([⟨#[32]⟩, ⟨#[10]⟩, ⟨#[9, 32]⟩, ⟨#[32, 32]⟩] : List ByteArray) := by
          rcases (show q = 0 ∨ q = 1 ∨ q = 2 ∨ q = 3 by omega) with rfl | rfl | rfl | rfl
          · exact ⟨_, rfl, by simp⟩
          · exact ⟨_, rfl, by simp⟩
          · exact ⟨_, rfl, by simp⟩
          · exact ⟨_, rfl, by simp⟩
        have HGQ := Lib.hid (Ow.gaps GQ hGm)
        have zGQ : GQ.size ≤ 2 := by rw [← Wk.len_data]; exact HGQ.out.2
        have hcW : ∀ W : World, (W.alloc (.cells #[.string ⟨#[32]⟩, .string ⟨#[10]⟩, .string ⟨#[9, 32]⟩, .string ⟨#[32, 32]⟩] 9)).cell? ⟨W.heap.size, q, none⟩ = some (.string GQ) := fun W => (Bs.Box.new W _ 9 _ rfl).cell q hGQ
        have hcD : ∀ W : World, (W.drew.alloc (.cells #[.string ⟨#[32]⟩, .string ⟨#[10]⟩, .string ⟨#[9, 32]⟩, .string ⟨#[32, 32]⟩] 9)).cell? ⟨W.heap.size, q, none⟩ = some (.string GQ) := fun W => (Bs.Box.new W.drew _ 9 _ rfl).cell q hGQ
        clear a15 a3 hm hq hT HL2 hwl hGm hGQ
        go_upto_region 10 with fail
        have HNL : Hid (Ow.Line WS (i + 1) (R ++ GQ ++ T)) := HR.out.step HIX.out HTD.out HGQ.out
        clear HR HIX HTD HGQ
        go_region_with (go_at_call 13; refine (wt _ (by first | exact hbr.drew | exact (hbr.drew.alloc (Nat.le_refl _) _) | exact (hbr.drew.alloc (by simp) _))).mono ?_; rintro e w4 ⟨rfl, b4⟩; (try have z4 : w4.cell? ⟨wr.heap.size, q, none⟩ = some (.string GQ) := Tp.keep b4 (hcD wr)); have HB4 : Hid (Below wr.heap.size wr w4) := (by first | exact Wk.below_step hbr.drew b4 | exact Wk.below_step (hbr.drew.alloc (Nat.le_refl _) _) b4); clear b4)
        all_goals
          go_wp2_with fail
          go_roundw
          case rel => exact ⟨_, i + 1, rfl, by go_num, by omega, HNL, by first | exact Wk.below_step HW.out HB4.out | exact Wk.below_step HW.out (HB4.out.alloc HB4.out.size _)⟩
          case measure => simp [intOf]; omega
      · have d1 : decide ((i : Int) < (WS.length : Int)) = false := decide_eq_false (by omega)
        have hfin := HR.out.fin (by omega) GD.out
        have c4 := fun u h => Op.words (R ++ ⟨#[32]⟩) u h (by rw [ByteArray.size_append]; show R.size + 1 ≤ _; omega)
        rw [hfin] at c4
        have HL3 := Lib.hid (HL2.out.below HW.out)
        have HB3 := Lib.hid (Wk.below_step HB2.out HW.out)
        clear hfin HR HL2 a15 a3
        go_wp2_with (first | (go_at_call 7; refine (c4 _ (HT.out.on HB3.out)).mono ?_; rintro e w4 ⟨v4, rfl, l4, b4⟩; have HL4 := Lib.hid (HL3.out.below b4); have HM4 := Lib.hid l4; have HB4 := Lib.hid (Wk.below_step HB3.out b4); clear b4 c4 l4) | (go_at_call 10; refine (nm _ _).mono ?_; rintro e w' ⟨rfl, hw⟩; have hw := hw.symm; subst hw) | (go_at_call 9; refine (Sa.words WS _ _ _ _ _ HM4.out HL4.out).mono ?_; rintro e w5 ⟨rfl, n5, rfl⟩))
        go_ret
        exact ⟨rfl, Ow.drewN HB4.out _⟩
  · have hW := hbad hE
    subst hW
    have hne : (E != 0) = true := bne_iff_ne.2 hE
    clear hbad gd gb gl hE a15 a3
    go_enter Try.func4, Try.ntmps4
    go_wp2_with (first | (go_at_call 12; refine (aw _ HT.out).mono ?_; rintro e w1 ⟨rfl, b1⟩; have HB1 := Lib.hid b1; clear b1 aw) | (go_at_call 7; refine (c1 _ (HT.out.on HB1.out)).mono ?_; rintro e w2 ⟨v2, rfl, l2, b2⟩; obtain ⟨ga, gd2, rfl, -, -, -⟩ := l2; have HB2 := Lib.hid (Wk.below_step HB1.out b2); clear b2 c1) | (go_at_call 10; refine (nm _ _).mono ?_; rintro e w' ⟨rfl, hw⟩; have hw := hw.symm; subst hw))
    go_ret
    exact ⟨rfl, HB2.out⟩
end Go.Proofs.Ytnophkbbeipaaaa

/-
  THE WALK of page.walk, at each of the two functions that it is handed.
-/
import Derived.Test.YtblpkjlodncpeaaGreatDoorBPMay
import Derived.Test.YtblpkjlodncpeaaGreatDoorBUNdtoUMay
namespace Go.Proofs.YtblpkjlodncpeaaGreatDoor
open Go.RowKit
set_option maxRecDepth 100000 in
set_option maxHeartbeats 4000000 in
theorem Pq.walkS (ns : List Nd) (a : Option Addr) (d : Nat) (bt bl bn : Nat) (w0 w : World) (I : Nat → World → Prop) (h : Nd.Lies w0 (· < w0.heap.size) ns (.slice a ns.length d)) (hI0 : I 0 w)
  (hon : ∀ i u u', I i u → Below u.heap.size u u' → I i u') (hbel : ∀ i u, I i u → Below w0.heap.size w0 u)
  (hsee : ∀ i x aa ad u, ns[i]? = some x → (∀ j y, j ≤ i → ns[j]? = some y → Sk.At ns j y) → Ak.Lies u (· < w0.heap.size) x.attrs (.slice aa x.attrs.length ad) → I i u →
   Calls Tryz.prog 24 #[.agg #[.int .i64 x.kind, .string x.name, .string x.text, .slice aa x.attrs.length ad, .int .i64 x.parent], .pointer (some ⟨bt, 0, none⟩), .pointer (some ⟨bl, 0, none⟩), .pointer (some ⟨bn, 0, none⟩)] u fun e u' => e = .returned (.tuple #[]) ∧ I (i + 1) u') :
  Calls Tryz.prog 23 #[.slice a ns.length d, .func (.func 24) #[] #[.pointer (some ⟨bt, 0, none⟩), .pointer (some ⟨bl, 0, none⟩), .pointer (some ⟨bn, 0, none⟩)]] w fun e w' => (Sk.May ns ∧ e = .returned (.bool true) ∧ I ns.length w') ∨ (¬ Sk.May ns ∧ e = .returned (.bool false) ∧ ∃ i, I i w') := by
 obtain ⟨hlen, hdm⟩ : ns.length ≤ d ∧ d ≤ maxLen := by
  obtain ⟨a', d', e, h1, h2, hx⟩ := h
  injection e with e1 e2 e3
  omega
 have hm63 : ns.length ≤ 9223372036854775807 := by unfold maxLen at hdm; omega
 have H := Lib.hid h
 have HON := Lib.hid hon
 have HBEL := Lib.hid hbel
 have HSEE := Lib.hid hsee
 have HI0 := Lib.hid hI0
 clear h hdm hon hbel hsee hI0
 go_enter Tryz.func23, Tryz.ntmps23
 go_wp2_with fail
 go_loopw [9] (fun ix wr => ∃ i : Nat, i ≤ ns.length ∧ ix = .int .i64 (i : Int) ∧ Hid (∀ j x, j < i → ns[j]? = some x → Sk.At ns j x) ∧ Hid (I i wr)) (fun ix _ => ns.length - (intOf ix).toNat)
 case atStart => exact ⟨0, Nat.zero_le _, rfl, (fun _ _ q _ => absurd q (Nat.not_lt_zero _)), HI0⟩
 case round =>
  clear HI0
  obtain ⟨i, hi, rfl, HM, HI⟩ := hrel
  by_cases hlt : i < ns.length
  ·
   have d1 : decide ((i : Int) < (ns.length : Int)) = true := decide_eq_true (by omega)
   obtain ⟨x, hx⟩ : ∃ x, ns[i]? = some x := ⟨_, List.getElem?_eq_getElem hlt⟩
   have hbr := HBEL.out _ _ HI.out
   have HL : Hid (Nd.Lies wr (· < w0.heap.size) ns (.slice a ns.length d)) := H.out.on fun k hk => ⟨hk, hbr.block k hk⟩
   obtain ⟨bb, oo, aa, ad, rfl, _, _, _, c0, c1, c2, c3, c4, hal, hat⟩ := Nm.cells HL.out hx
   have hbl : bb < wr.heap.size := World.block_lt_of_cell? _ _ c0
   have n1 : wr.heap.size ≠ bb := by omega
   have n2 : bb ≠ wr.heap.size := by omega
   have hid : i < d := by omega
   have hws := hbr.size
   have HX := Lib.hid hx
   have HAT : Hid (Ak.Lies wr (· < w0.heap.size) x.attrs (.slice aa x.attrs.length ad)) := hat
   clear hx hat hbr
   go_upto_region 4 with fail
   obtain ⟨W, hW⟩ : ∃ W, wr.alloc (.cells #[.int .i64 x.kind, .string x.name, .string x.text, .slice aa x.attrs.length ad, .int .i64 x.parent] 48) = W := ⟨_, rfl⟩
   have hbW : Below wr.heap.size wr W := by rw [← hW]; exact (Below.refl _ _).alloc (Nat.le_refl _) _
   have hbox := Um.five_cells wr x (.slice aa x.attrs.length ad) wr.heap.size rfl
   rw [hW] at hbox
   rw [hW]
   have k0 := hbox 0 _ rfl
   have k1 := hbox 1 _ rfl
   have k2 := hbox 2 _ rfl
   have k3 := hbox 3 _ rfl
   have k4 := hbox 4 _ rfl
   have HIW := Lib.hid (HON.out _ _ _ HI.out hbW)
   have HLW : Hid (Nd.Lies W (· < w0.heap.size) ns (.slice (some ⟨bb, oo, none⟩) ns.length d)) := HL.out.on fun k hk => ⟨hk, hbW.block k (by omega)⟩
   have HAW : Hid (Ak.Lies W (· < w0.heap.size) x.attrs (.slice aa x.attrs.length ad)) := HAT.out.on fun k hk => ⟨hk, hbW.block k (by omega)⟩
   have hBW : w0.heap.size ≤ W.heap.size := Nat.le_trans hws hbW.size
   clear hW hbW hbox HL HAT HI c0 c1 c2 c3 c4 n1 n2 hbl hws
   generalize wr.heap.size = g at *
   obtain ⟨b, hb⟩ : ∃ b : Bool, b = true ↔ Sk.At ns i x := Pq.dec _
   have mb := fun n => Pq.mayBe ns (some ⟨bb, oo, none⟩) d i x aa ad w0.heap.size (W.drewN n) (HLW.out.on fun k hk => ⟨hk, rfl⟩) (by simpa using hBW) hi hal b hb
   have mb1 : Calls _ _ _ W.drew _ := mb 1
   clear mb hal
   cases b with
   | true =>
    have HM2 : Hid (∀ j y, j ≤ i → ns[j]? = some y → Sk.At ns j y) := fun j y hj hy => by
     by_cases e : j = i
     ·
      subst e
      rw [HX.out] at hy
      injection hy with hy
      rw [← hy]
      exact hb.1 rfl
     ·
      exact HM.out j y (by omega) hy
    clear hb
    go_region_with (go_at_call 47; refine mb1.mono ?_; rintro e w1 ⟨rfl, hb1⟩; have y0 := Tp.keep hb1 (show W.drew.cell? _ = _ from k0); have y1 := Tp.keep hb1 (show W.drew.cell? _ = _ from k1); have y2 := Tp.keep hb1 (show W.drew.cell? _ = _ from k2); have y3 := Tp.keep hb1 (show W.drew.cell? _ = _ from k3); have y4 := Tp.keep hb1 (show W.drew.cell? _ = _ from k4); have HB1 := Lib.hid hb1; clear hb1 mb1 k0 k1 k2 k3 k4)
    all_goals
     have hb1 : Below W.heap.size W w1 := (Below.refl W.heap.size W).drew.trans HB1.out
     have se := HSEE.out i x aa ad w1 HX.out HM2.out (HAW.out.on fun k hk => ⟨hk, hb1.block k (by omega)⟩) (HON.out _ _ _ HIW.out hb1)
     clear hb1 HB1 HIW HLW HAW
     go_wp2_with (go_at_call 24; refine se.mono ?_; rintro e w2 ⟨rfl, hI2⟩; have HI2 := Lib.hid hI2; clear se hI2)
     go_roundw
     case rel => exact ⟨i + 1, by omega, by go_num, (fun j y hj hy => HM2.out j y (by omega) hy), HI2⟩
     case measure => simp [intOf]; omega
   | false =>
    have HNA : Hid (¬ Sk.At ns i x) := fun q => absurd (hb.2 q) (by decide)
    clear hb
    go_region_with (go_at_call 47; refine mb1.mono ?_; rintro e w1 ⟨rfl, hb1⟩; have y0 := Tp.keep hb1 (show W.drew.cell? _ = _ from k0); have y1 := Tp.keep hb1 (show W.drew.cell? _ = _ from k1); have y2 := Tp.keep hb1 (show W.drew.cell? _ = _ from k2); have y3 := Tp.keep hb1 (show W.drew.cell? _ = _ from k3); have y4 := Tp.keep hb1 (show W.drew.cell? _ = _ from k4); have HB1 := Lib.hid hb1; clear hb1 mb1 k0 k1 k2 k3 k4)
    all_goals
     go_wp2
     go_ret
     have hb1 : Below W.heap.size W w1 := (Below.refl W.heap.size W).drew.trans HB1.out
     exact .inr ⟨fun q => HNA.out (q.2 i x HX.out), rfl, i, HON.out _ _ _ HIW.out hb1⟩
  ·
   have e : i = ns.length := by omega
   subst e
   have d1 : decide ((ns.length : Int) < (ns.length : Int)) = false := decide_eq_false (by omega)
   have HALL : Hid (∀ j x, ns[j]? = some x → Sk.At ns j x) := fun j x hx => HM.out j x (List.getElem?_eq_some_iff.1 hx).1 hx
   clear HM
   by_cases h0 : 0 < ns.length
   ·
    have d2 : decide ((0 : Int) < (ns.length : Int)) = true := decide_eq_true (by omega)
    have HP := Lib.hid h0
    go_wp2
    go_ret
    exact .inl ⟨⟨HP.out, HALL.out⟩, rfl, HI.out⟩
   ·
    have d2 : decide ((0 : Int) < (ns.length : Int)) = false := decide_eq_false (by omega)
    have HP := Lib.hid h0
    go_wp2
    go_ret
    exact .inr ⟨fun q => HP.out q.1, rfl, _, HI.out⟩
set_option maxRecDepth 100000 in
set_option maxHeartbeats 4000000 in
theorem Pq.walkT (ns : List Nd) (a : Option Addr) (d : Nat) (bx : Nat) (w0 w : World) (I : Nat → World → Prop) (h : Nd.Lies w0 (· < w0.heap.size) ns (.slice a ns.length d)) (hI0 : I 0 w)
  (hon : ∀ i u u', I i u → Below u.heap.size u u' → I i u') (hbel : ∀ i u, I i u → Below w0.heap.size w0 u)
  (hsee : ∀ i x aa ad u, ns[i]? = some x → (∀ j y, j ≤ i → ns[j]? = some y → Sk.At ns j y) → Ak.Lies u (· < w0.heap.size) x.attrs (.slice aa x.attrs.length ad) → I i u →
   Calls Tryz.prog 27 #[.agg #[.int .i64 x.kind, .string x.name, .string x.text, .slice aa x.attrs.length ad, .int .i64 x.parent], .pointer (some ⟨bx, 0, none⟩)] u fun e u' => e = .returned (.tuple #[]) ∧ I (i + 1) u') :
  Calls Tryz.prog 23 #[.slice a ns.length d, .func (.func 27) #[] #[.pointer (some ⟨bx, 0, none⟩)]] w fun e w' => (Sk.May ns ∧ e = .returned (.bool true) ∧ I ns.length w') ∨ (¬ Sk.May ns ∧ e = .returned (.bool false) ∧ ∃ i, I i w') := by
 obtain ⟨hlen, hdm⟩ : ns.length ≤ d ∧ d ≤ maxLen := by
  obtain ⟨a', d', e, h1, h2, hx⟩ := h
  injection e with e1 e2 e3
  omega
 have hm63 : ns.length ≤ 9223372036854775807 := by unfold maxLen at hdm; omega
 have H := Lib.hid h
 have HON := Lib.hid hon
 have HBEL := Lib.hid hbel
 have HSEE := Lib.hid hsee
 have HI0 := Lib.hid hI0
 clear h hdm hon hbel hsee hI0
 go_enter Tryz.func23, Tryz.ntmps23
 go_wp2_with fail
 go_loopw [9] (fun ix wr => ∃ i : Nat, i ≤ ns.length ∧ ix = .int .i64 (i : Int) ∧ Hid (∀ j x, j < i → ns[j]? = some x → Sk.At ns j x) ∧ Hid (I i wr)) (fun ix _ => ns.length - (intOf ix).toNat)
 case atStart => exact ⟨0, Nat.zero_le _, rfl, (fun _ _ q _ => absurd q (Nat.not_lt_zero _)), HI0⟩
 case round =>
  clear HI0
  obtain ⟨i, hi, rfl, HM, HI⟩ := hrel
  by_cases hlt : i < ns.length
  ·
   have d1 : decide ((i : Int) < (ns.length : Int)) = true := decide_eq_true (by omega)
   obtain ⟨x, hx⟩ : ∃ x, ns[i]? = some x := ⟨_, List.getElem?_eq_getElem hlt⟩
   have hbr := HBEL.out _ _ HI.out
   have HL : Hid (Nd.Lies wr (· < w0.heap.size) ns (.slice a ns.length d)) := H.out.on fun k hk => ⟨hk, hbr.block k hk⟩
   obtain ⟨bb, oo, aa, ad, rfl, _, _, _, c0, c1, c2, c3, c4, hal, hat⟩ := Nm.cells HL.out hx
   have hbl : bb < wr.heap.size := World.block_lt_of_cell? _ _ c0
   have n1 : wr.heap.size ≠ bb := by omega
   have n2 : bb ≠ wr.heap.size := by omega
   have hid : i < d := by omega
   have hws := hbr.size
   have HX := Lib.hid hx
   have HAT : Hid (Ak.Lies wr (· < w0.heap.size) x.attrs (.slice aa x.attrs.length ad)) := hat
   clear hx hat hbr
   go_upto_region 4 with fail
   obtain ⟨W, hW⟩ : ∃ W, wr.alloc (.cells #[.int .i64 x.kind, .string x.name, .string x.text, .slice aa x.attrs.length ad, .int .i64 x.parent] 48) = W := ⟨_, rfl⟩
   have hbW : Below wr.heap.size wr W := by rw [← hW]; exact (Below.refl _ _).alloc (Nat.le_refl _) _
   have hbox := Um.five_cells wr x (.slice aa x.attrs.length ad) wr.heap.size rfl
   rw [hW] at hbox
   rw [hW]
   have k0 := hbox 0 _ rfl
   have k1 := hbox 1 _ rfl
   have k2 := hbox 2 _ rfl
   have k3 := hbox 3 _ rfl
   have k4 := hbox 4 _ rfl
   have HIW := Lib.hid (HON.out _ _ _ HI.out hbW)
   have HLW : Hid (Nd.Lies W (· < w0.heap.size) ns (.slice (some ⟨bb, oo, none⟩) ns.length d)) := HL.out.on fun k hk => ⟨hk, hbW.block k (by omega)⟩
   have HAW : Hid (Ak.Lies W (· < w0.heap.size) x.attrs (.slice aa x.attrs.length ad)) := HAT.out.on fun k hk => ⟨hk, hbW.block k (by omega)⟩
   have hBW : w0.heap.size ≤ W.heap.size := Nat.le_trans hws hbW.size
   clear hW hbW hbox HL HAT HI c0 c1 c2 c3 c4 n1 n2 hbl hws
   generalize wr.heap.size = g at *
   obtain ⟨b, hb⟩ : ∃ b : Bool, b = true ↔ Sk.At ns i x := Pq.dec _
   have mb := fun n => Pq.mayBe ns (some ⟨bb, oo, none⟩) d i x aa ad w0.heap.size (W.drewN n) (HLW.out.on fun k hk => ⟨hk, rfl⟩) (by simpa using hBW) hi hal b hb
   have mb1 : Calls _ _ _ W.drew _ := mb 1
   clear mb hal
   cases b with
   | true =>
    have HM2 : Hid (∀ j y, j ≤ i → ns[j]? = some y → Sk.At ns j y) := fun j y hj hy => by
     by_cases e : j = i
     ·
      subst e
      rw [HX.out] at hy
      injection hy with hy
      rw [← hy]
      exact hb.1 rfl
     ·
      exact HM.out j y (by omega) hy
    clear hb
    go_region_with (go_at_call 47; refine mb1.mono ?_; rintro e w1 ⟨rfl, hb1⟩; have y0 := Tp.keep hb1 (show W.drew.cell? _ = _ from k0); have y1 := Tp.keep hb1 (show W.drew.cell? _ = _ from k1); have y2 := Tp.keep hb1 (show W.drew.cell? _ = _ from k2); have y3 := Tp.keep hb1 (show W.drew.cell? _ = _ from k3); have y4 := Tp.keep hb1 (show W.drew.cell? _ = _ from k4); have HB1 := Lib.hid hb1; clear hb1 mb1 k0 k1 k2 k3 k4)
    all_goals
     have hb1 : Below W.heap.size W w1 := (Below.refl W.heap.size W).drew.trans HB1.out
     have se := HSEE.out i x aa ad w1 HX.out HM2.out (HAW.out.on fun k hk => ⟨hk, hb1.block k (by omega)⟩) (HON.out _ _ _ HIW.out hb1)
     clear hb1 HB1 HIW HLW HAW
     go_wp2_with (go_at_call 27; refine se.mono ?_; rintro e w2 ⟨rfl, hI2⟩; have HI2 := Lib.hid hI2; clear se hI2)
     go_roundw
     case rel => exact ⟨i + 1, by omega, by go_num, (fun j y hj hy => HM2.out j y (by omega) hy), HI2⟩
     case measure => simp [intOf]; omega
   | false =>
    have HNA : Hid (¬ Sk.At ns i x) := fun q => absurd (hb.2 q) (by decide)
    clear hb
    go_region_with (go_at_call 47; refine mb1.mono ?_; rintro e w1 ⟨rfl, hb1⟩; have y0 := Tp.keep hb1 (show W.drew.cell? _ = _ from k0); have y1 := Tp.keep hb1 (show W.drew.cell? _ = _ from k1); have y2 := Tp.keep hb1 (show W.drew.cell? _ = _ from k2); have y3 := Tp.keep hb1 (show W.drew.cell? _ = _ from k3); have y4 := Tp.keep hb1 (show W.drew.cell? _ = _ from k4); have HB1 := Lib.hid hb1; clear hb1 mb1 k0 k1 k2 k3 k4)
    all_goals
     go_wp2
     go_ret
     have hb1 : Below W.heap.size W w1 := (Below.refl W.heap.size W).drew.trans HB1.out
     exact .inr ⟨fun q => HNA.out (q.2 i x HX.out), rfl, i, HON.out _ _ _ HIW.out hb1⟩
  ·
   have e : i = ns.length := by omega
   subst e
   have d1 : decide ((ns.length : Int) < (ns.length : Int)) = false := decide_eq_false (by omega)
   have HALL : Hid (∀ j x, ns[j]? = some x → Sk.At ns j x) := fun j x hx => HM.out j x (List.getElem?_eq_some_iff.1 hx).1 hx
   clear HM
   by_cases h0 : 0 < ns.length
   ·
    have d2 : decide ((0 : Int) < (ns.length : Int)) = true := decide_eq_true (by omega)
    have HP := Lib.hid h0
    go_wp2
    go_ret
    exact .inl ⟨⟨HP.out, HALL.out⟩, rfl, HI.out⟩
   ·
    have d2 : decide ((0 : Int) < (ns.length : Int)) = false := decide_eq_false (by omega)
    have HP := Lib.hid h0
    go_wp2
    go_ret
    exact .inr ⟨fun q => HP.out q.1, rfl, _, HI.out⟩
end Go.Proofs.YtblpkjlodncpeaaGreatDoor

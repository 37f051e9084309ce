/-
  THE WALK of the reference's node.
-/
import Derived.Test.YtblpkjlodncpeaaGreatDoorBTMemtoUMk
import Derived.Deep.RegionHeld
import Derived.Test.YtblpkjlodncpeaaGreatDoorBPlaintoKPlain
import Derived.Test.YtblpkjlodncpeaaGreatDoorBTKittoLower
import Derived.Deep.QuietTactic
import Derived.BigQuiet
import Derived.Deep.CutRange
namespace Go.Proofs.YtblpkjlodncpeaaGreatDoor
open Go.RowKit
theorem Um.five_cells (W : World) (x : Nd) (av : Value) (g1 : Nat) (h : g1 = W.heap.size) : ∀ j u, (Nd.five x av)[j]? = some u → (W.alloc (.cells #[.int .i64 x.kind, .string x.name, .string x.text, av, .int .i64 x.parent] 48)).cell? ⟨g1, j, none⟩ = some u := by
 subst h
 intro j u hj
 unfold World.cell?
 rw [show (W.alloc (.cells #[.int .i64 x.kind, .string x.name, .string x.text, av, .int .i64 x.parent] 48)).heap[W.heap.size]? = some _ from heap_alloc_new W _]
 simpa [Nd.five] using hj
theorem Um.five_one (x : Nd) (a : Option Addr) (n d : Nat) : ∀ u ∈ Nd.five x (.slice a n d), u.oneCell' = true := by
 intro u hu
 simp only [Nd.five, List.mem_cons, List.not_mem_nil, or_false] at hu
 rcases hu with rfl | rfl | rfl | rfl | rfl <;> rfl
theorem Um.topCell {base : Nat} {w : World} {g : Nat} {m : Bt} {ov pv : Value} (h : Um.At base w g m ov pv) (hn : 0 < m.opn.length) : ∃ p d, pv = .slice (some ⟨p, 0, none⟩) m.opn.length d ∧ m.opn.length ≤ d ∧ w.cell? ⟨p, m.opn.length - 1, none⟩ = some (.int .i64 (m.top : Int)) := by
 obtain ⟨p, d, e, h1, h2⟩ := Um.form1 h.opn hn
 refine ⟨p, d, e, h1, ?_⟩
 have ho := h.opn
 rw [e] at ho
 rw [ho.cellAt (m.opn.length - 1) (by omega)]
 refine Um.ints_get ?_
 unfold Bt.top
 rw [List.getLastD_eq_getLast?, List.getLast?_eq_getElem?]
 rw [List.getElem?_eq_getElem (by omega)]
 rfl
theorem Um.five_set {W : World} {k : Nat} {x : Nd} {av : Value} (h : ∀ j u, (Nd.five x av)[j]? = some u → W.cell? ⟨k, j, none⟩ = some u) (p : Int) : ∀ j u, (Nd.five { x with parent := p } av)[j]? = some u → (W.setCell ⟨k, 4, none⟩ (.int .i64 p)).drew.cell? ⟨k, j, none⟩ = some u := by
 intro j u hj
 show (W.setCell ⟨k, 4, none⟩ (.int .i64 p)).cell? ⟨k, j, none⟩ = some u
 have h5 := Nd.five_lt hj
 by_cases e : j = 4
 ·
  subst e
  have hu : u = .int .i64 p := by simpa [Nd.five] using hj.symm
  rw [hu]
  exact World.cell?_setCell_same _ _ _ (h 4 _ rfl)
 ·
  rw [World.cell?_setCell_other _ _ _ _ (fun q => by injection q with q1 q2; exact e q2.symm)]
  refine h j u ?_
  have : j = 0 ∨ j = 1 ∨ j = 2 ∨ j = 3 := by omega
  rcases this with rfl | rfl | rfl | rfl <;> exact hj
set_option maxRecDepth 100000 in
set_option maxHeartbeats 4000000 in
theorem Um.node (base : Nat) (m : Bt) (x : Nd) (aa : Option Addr) (an ad : Nat) (w : World) (g : Nat) (ov pv : Value) (h : Um.At base w g m ov pv) (hok : Bt.Ok m) (hs : m.out.length ≤ 1000000)
  (hat : Ak.Lies w (fun k => base ≤ k ∧ k < w.heap.size ∧ ov.ownBlock ≠ some k ∧ ¬ (k = g ∨ pv.ownBlock = some k) ∧ Rm.Ub w k) x.attrs (.slice aa an ad)) :
  Calls Tryz.prog 93 #[.pointer (some ⟨g, 0, none⟩), .agg #[.int .i64 x.kind, .string x.name, .string x.text, .slice aa an ad, .int .i64 x.parent]] w fun e w' => e = .returned (.tuple #[]) ∧ ∃ ov', Um.At base w' g (m.node x) ov' pv ∧ Um.Kept w w' g ov pv ov' pv := by
 have hlt := h.lt
 obtain ⟨p, pd, rfl, hpd, ctop⟩ := Um.topCell h hok.opn
 obtain ⟨xs, hx⟩ := id h.out
 obtain ⟨oa, od, rfl⟩ := Um.form hx.1
 have c0 := h.c0
 have c1 := h.c1
 have cf := h.fz
 have hp := World.block_lt_of_cell? _ _ ctop
 have hl0 := hok.opn
 have hfew := hok.few
 have n1 : w.heap.size ≠ g := by omega
 have n2 : g ≠ w.heap.size := by omega
 have n3 : p ≠ w.heap.size := by have hp' : p < w.heap.size := hp; omega
 have HH := Lib.hid h
 have HX := Lib.hid hx
 have HAT := Lib.hid hat
 have HN : Hid (m.out.length + 1 ≤ maxLen ∧ (m.out.length + 1) * 72 ≤ 140737488355328) := ⟨by unfold maxLen; omega, by omega⟩
 have hw1 : IntKind.i64.wrap ((m.opn.length : Int) - 1) = ((m.opn.length - 1 : Nat) : Int) := by rw [IntKind.wrap_i64]; omega
 have hidx : m.opn.length - 1 < pd := by omega
 have hi63 : m.opn.length - 1 < m.opn.length := by omega
 clear h hx hat hok
 go_enter Tryz.func93, Tryz.ntmps93
 go_upto_region 1 with fail
 obtain ⟨W, hW⟩ : ∃ W, w.alloc (.cells #[.int .i64 x.kind, .string x.name, .string x.text, .slice aa an ad, .int .i64 x.parent] 48) = W := ⟨_, rfl⟩
 have hbW : Below w.heap.size w W := by rw [← hW]; exact (Below.refl _ _).alloc (Nat.le_refl _) _
 have q1 := Tp.keep hbW c1
 have qt := Tp.keep hbW ctop
 have qf : ∀ i, W.frozen? ⟨w.heap.size, i, none⟩ = false := fun i => by rw [← hW]; simp
 have HQ : Hid (∀ j u, (Nd.five x (.slice aa an ad))[j]? = some u → W.cell? ⟨w.heap.size, j, none⟩ = some u) := by unfold Hid; rw [← hW]; exact Um.five_cells w x _ _ rfl
 have q4 := HQ.out 4 _ rfl
 rw [hW]
 have HBW := Lib.hid hbW
 clear hW hbW c0 c1 cf ctop
 go_cut [] from 4 to 16 (fun wx => Hid (Below w.heap.size w wx ∧ ∀ j u, (Nd.five { x with parent := (m.top : Int) } (.slice aa an ad))[j]? = some u → wx.cell? ⟨w.heap.size, j, none⟩ = some u))
 case first =>
  go_region_with (fail)
  all_goals (try go_wp2_with fail)
  all_goals go_meet
  all_goals exact Lib.hid ⟨(HBW.out.setCell (Nat.le_refl _) _).drew, Um.five_set HQ.out _⟩
 case rest =>
  obtain ⟨hbc, hfc⟩ := hcut.out
  have hA := HH.out.on hbc
  have e0 := hA.c0
  have ef := hA.fz
  have f0 := hfc 0 _ rfl
  have f1 := hfc 1 _ rfl
  have f2 := hfc 2 _ rfl
  have f3 := hfc 3 _ rfl
  have f4 := hfc 4 _ rfl
  have hsz := hbc.size
  have HBC := Lib.hid hbc
  have HO : Hid (wc.ownsRow base 48 5 (.slice oa m.out.length od) m.out.length xs) := Rm.own_on HX.out.1 fun k hk => hbc.block k (HX.out.1.lt k hk).2
  have hgs : w.heap.size < wc.heap.size := World.block_lt_of_cell? _ _ f0
  have n4 : wc.heap.size ≠ g := by omega
  have n5 : wc.heap.size ≠ w.heap.size := by omega
  have hbase := HH.out.ge
  have hgc : g < wc.heap.size := by omega
  have e0' : ∀ o, (wc.alloc o).cell? ⟨g, 0, none⟩ = _ := fun o => (World.cell?_alloc_lt _ _ _ hgc).trans e0
  clear hcut hbc hfc hA q1 qt qf q4 HQ HBW
  go_upto_region 2 with fail
  go_region_law (first | (refine Ro.step_push rfl (.tmp 21) (.tmp 23) 22 48 5 72 _ rfl Tryz.underlying22 Um.infoN rfl (by decide) (.slice oa m.out.length od) (by simp [Act.eval]) (HO.out.alloc _) wc.heap.size (Nd.five { x with parent := (m.top : Int) } (.slice aa an ad)) (by simp [Act.eval]) (Um.five_cells _ { x with parent := (m.top : Int) } _ _ (by first | rfl | omega | (simp; omega))) rfl (Um.five_one _ _ _ _) HN.out.1 HN.out.2 (by first | omega | (simp; omega)) ?_; intro v4 w4 R4 hg4 hf4; obtain ⟨a4, d4, rfl⟩ := Um.form R4; have B4 : w4.heap[g]? = wc.heap[g]? := ((hg4.block g (by first | omega | (simp; omega)) (fun e => HH.out.og e.symm)).trans (Below.heap_alloc _ _ _ (by first | omega | (simp; omega)))); have d0 := (World.cell?_of_block (a := ⟨g, 0, none⟩) B4).trans e0; have df : ∀ i, w4.frozen? ⟨g, i, none⟩ = false := (fun i => by have := ef i; unfold World.frozen? at this ⊢; rw [B4]; exact this); clear B4; have HR4 := Lib.hid R4; have HG4 := Lib.hid hg4; have HF4 := Lib.hid hf4; clear R4 hg4 hf4))
  all_goals go_wp2
  all_goals go_end0
  all_goals
   have hq : Below w.heap.size w (wc.drew.alloc (.cells #[.int .i64 x.kind, .string x.name, .string x.text, .slice aa an ad, .int .i64 (m.top : Int)] 48)) := HBC.out.drew.alloc (by show w.heap.size ≤ wc.heap.size; omega) _
   obtain ⟨z1, z2⟩ := Um.At.push (x := { x with parent := (m.top : Int) }) HH.out hq xs HX.out HAT.out HR4.out HG4.out HF4.out
   exact ⟨rfl, _, z1, z2⟩
theorem Um.empty (s : ByteArray) : s.toList = [] ↔ s = Ts.e := by
 rw [ByteArray.toList_eq]
 constructor
 ·
  intro h
  apply ByteArray.ext
  show s.data = #[]
  exact Array.toList_inj.1 (by rw [h])
 ·
  rintro rfl
  rfl
theorem Um.drews {B : Nat} {a w : World} (h : Below B a w) (n : Nat) : Below B a (w.drewN n) := ⟨h.os, h.tape, h.output, h.size, h.block⟩
theorem Um.toList_ne {a b : ByteArray} (h : ¬ a = b) : (a.toList == b.toList) = false := by
 refine beq_eq_false_iff_ne.2 fun e => h ?_
 rw [ByteArray.toList_eq, ByteArray.toList_eq] at e
 exact ByteArray.ext (Array.toList_inj.1 e)
set_option maxRecDepth 100000 in
set_option maxHeartbeats 4000000 in
theorem Um.mayText (t : Tk) (a : Option Addr) (d : Nat) (R : Nat → Prop) (w : World) (h : Ak.Lies w R t.attrs (.slice a t.attrs.length d)) (hk : t.kind = 0 ∨ t.kind = 3) (b : Bool) (hb : b = true ↔ t.name = Ts.e ∧ t.attrs = [] ∧ t.self = false) :
  Calls Tryz.prog 45 #[.agg #[.int .i64 t.kind, .string t.name, .string t.text, .slice a t.attrs.length d, .bool t.self]] w fun e w' => e = .returned (.bool b) ∧ Below w.heap.size w w' := by
 have hm : t.attrs.length ≤ 9223372036854775807 := by
  obtain ⟨a', d', e, l1, m1, x1⟩ := h
  injection e with e1 e2 e3
  unfold maxLen at m1
  omega
 clear h
 have hk' : (t.kind == 0) = true ∨ ((t.kind == 0) = false ∧ (t.kind == 3) = true) := by
  simp only [beq_iff_eq, beq_eq_false_iff_ne]
  omega
 clear hk
 by_cases NAMEE : t.name.toList = []
 ·
  by_cases hl : t.attrs = []
  ·
   have l0 : ((t.attrs.length : Int) == 0) = true := by rw [hl]; rfl
   have l1 : t.attrs.length = 0 := by rw [hl]; rfl
   have hbb : b = !t.self := by
    rw [Bool.eq_iff_iff, hb]
    simp [(Um.empty t.name).1 NAMEE, hl]
   subst hbb
   have name1 : (t.name.toList == []) = true := by rw [NAMEE]; rfl
   have name2 : t.name.toList.isEmpty = true := by rw [NAMEE]; rfl
   have name3 : t.name.toList = [] := NAMEE
   clear hb hl NAMEE
   rcases hk' with k0 | ⟨k0, k3⟩
   all_goals
    cases hs : t.self
    all_goals
     go_enter Tryz.func45, Tryz.ntmps45
     go_wp2
     go_ret
     exact ⟨rfl, (Below.refl _ _).alloc (Nat.le_refl _) _⟩
  ·
   have l1 : ¬ t.attrs.length = 0 := fun e => hl (List.eq_nil_of_length_eq_zero e)
   have l0 : ((t.attrs.length : Int) == 0) = false := beq_eq_false_iff_ne.2 (by omega)
   have hbb : b = false := by
    cases b
    ·
     rfl
    ·
     exact absurd (hb.1 rfl).2.1 hl
   subst hbb
   have name1 : (t.name.toList == []) = true := by rw [NAMEE]; rfl
   have name2 : t.name.toList.isEmpty = true := by rw [NAMEE]; rfl
   have name3 : t.name.toList = [] := NAMEE
   clear hb hl NAMEE
   rcases hk' with k0 | ⟨k0, k3⟩
   all_goals
    go_enter Tryz.func45, Tryz.ntmps45
    go_wp2
    go_ret
    exact ⟨rfl, (Below.refl _ _).alloc (Nat.le_refl _) _⟩
 ·
  have hbb : b = false := by
   cases b
   ·
    rfl
   ·
    exact absurd ((Um.empty _).2 (hb.1 rfl).1) NAMEE
  subst hbb
  have name1 : (t.name.toList == []) = false := beq_eq_false_iff_ne.2 NAMEE
  have name2 : t.name.toList.isEmpty = false := by cases hq : t.name.toList with | nil => exact absurd hq NAMEE | cons _ _ => rfl
  have name3 : ¬ t.name.toList = [] := NAMEE
  clear hb NAMEE
  rcases hk' with k0 | ⟨k0, k3⟩
  all_goals
   go_enter Tryz.func45, Tryz.ntmps45
   go_wp2
   go_ret
   exact ⟨rfl, (Below.refl _ _).alloc (Nat.le_refl _) _⟩
set_option maxRecDepth 100000 in
set_option maxHeartbeats 4000000 in
theorem Um.mayRej (t : Tk) (a : Option Addr) (d : Nat) (R : Nat → Prop) (w : World) (h : Ak.Lies w R t.attrs (.slice a t.attrs.length d)) (hk : ¬ (t.kind = 0 ∨ t.kind = 3)) (hr : ¬ ((t.kind = 1 ∨ (t.kind = 2 ∧ t.attrs = [] ∧ t.self = false)) ∧ t.name ≠ Ts.e ∧ t.text = Ts.e ∧ t.attrs.length ≤ 32)) :
  Calls Tryz.prog 45 #[.agg #[.int .i64 t.kind, .string t.name, .string t.text, .slice a t.attrs.length d, .bool t.self]] w fun e w' => e = .returned (.bool false) ∧ Below w.heap.size w w' := by
 have hm : t.attrs.length ≤ 9223372036854775807 := by
  obtain ⟨a', d', e, l1, m1, x1⟩ := h
  injection e with e1 e2 e3
  unfold maxLen at m1
  omega
 clear h
 have k0 : (t.kind == 0) = false := beq_eq_false_iff_ne.2 (by omega)
 have k3 : (t.kind == 3) = false := beq_eq_false_iff_ne.2 (by omega)
 by_cases hk12 : t.kind = 1 ∨ t.kind = 2
 ·
  by_cases NAMEE : t.name.toList = []
  ·
   have name1 : (t.name.toList == []) = true := by rw [NAMEE]; rfl
   have name2 : t.name.toList.isEmpty = true := by rw [NAMEE]; rfl
   have name3 : t.name.toList = [] := NAMEE
   rcases hk12 with hk1 | hk2
   ·
    have k1 : (t.kind != 1) = false := by rw [hk1]; rfl
    have k2 : (t.kind == 2) = false := by rw [hk1]; rfl
    clear hr hk hk1 NAMEE
    go_enter Tryz.func45, Tryz.ntmps45
    go_wp2
    go_ret
    exact ⟨rfl, (Below.refl _ _).alloc (Nat.le_refl _) _⟩
   ·
    have k1 : (t.kind != 1) = true := by rw [hk2]; rfl
    have k2n : (t.kind != 2) = false := by rw [hk2]; rfl
    have k2 : (t.kind == 2) = true := by rw [hk2]; rfl
    clear hr hk hk2 NAMEE
    go_enter Tryz.func45, Tryz.ntmps45
    go_wp2
    go_ret
    exact ⟨rfl, (Below.refl _ _).alloc (Nat.le_refl _) _⟩
  ·
   have name1 : (t.name.toList == []) = false := beq_eq_false_iff_ne.2 NAMEE
   have name2 : t.name.toList.isEmpty = false := by cases hq : t.name.toList with | nil => exact absurd hq NAMEE | cons _ _ => rfl
   have name3 : ¬ t.name.toList = [] := NAMEE
   by_cases TEXTE : t.text.toList = []
   ·
    have text1 : (t.text.toList == []) = true := by rw [TEXTE]; rfl
    have text2 : t.text.toList.isEmpty = true := by rw [TEXTE]; rfl
    have text3 : t.text.toList = [] := TEXTE
    have text4 : (t.text.toList != []) = false := by rw [bne, text1]; rfl
    by_cases hl : t.attrs.length ≤ 32
    ·
     have l32 : decide ((32 : Int) < (t.attrs.length : Int)) = false := decide_eq_false (by omega)
     rcases hk12 with hk1 | hk2
     ·
      exact absurd ⟨.inl hk1, fun e => NAMEE ((Um.empty _).2 e), (Um.empty _).1 TEXTE, hl⟩ hr
     ·
      have k1 : (t.kind != 1) = true := by rw [hk2]; rfl
      have k2n : (t.kind != 2) = false := by rw [hk2]; rfl
      have k2 : (t.kind == 2) = true := by rw [hk2]; rfl
      by_cases hl0 : 0 < t.attrs.length
      ·
       have l0 : decide ((0 : Int) < (t.attrs.length : Int)) = true := decide_eq_true (by omega)
       clear hr hk hk2 NAMEE TEXTE
       go_enter Tryz.func45, Tryz.ntmps45
       go_wp2
       go_ret
       exact ⟨rfl, (Below.refl _ _).alloc (Nat.le_refl _) _⟩
      ·
       have l0 : decide ((0 : Int) < (t.attrs.length : Int)) = false := decide_eq_false (by omega)
       have hs : t.self = true := by
        cases q : t.self
        ·
         exact absurd ⟨.inr ⟨hk2, List.eq_nil_of_length_eq_zero (by omega), q⟩, fun e => NAMEE ((Um.empty _).2 e), (Um.empty _).1 TEXTE, hl⟩ hr
        ·
         rfl
       clear hr hk hk2 NAMEE TEXTE
       go_enter Tryz.func45, Tryz.ntmps45
       go_wp2
       go_ret
       exact ⟨rfl, (Below.refl _ _).alloc (Nat.le_refl _) _⟩
    ·
     have l32 : decide ((32 : Int) < (t.attrs.length : Int)) = true := decide_eq_true (by omega)
     rcases hk12 with hk1 | hk2
     ·
      have k1 : (t.kind != 1) = false := by rw [hk1]; rfl
      have k2 : (t.kind == 2) = false := by rw [hk1]; rfl
      clear hr hk hk1 NAMEE TEXTE
      go_enter Tryz.func45, Tryz.ntmps45
      go_wp2
      go_ret
      exact ⟨rfl, (Below.refl _ _).alloc (Nat.le_refl _) _⟩
     ·
      have k1 : (t.kind != 1) = true := by rw [hk2]; rfl
      have k2n : (t.kind != 2) = false := by rw [hk2]; rfl
      have k2 : (t.kind == 2) = true := by rw [hk2]; rfl
      clear hr hk hk2 NAMEE TEXTE
      go_enter Tryz.func45, Tryz.ntmps45
      go_wp2
      go_ret
      exact ⟨rfl, (Below.refl _ _).alloc (Nat.le_refl _) _⟩
   ·
    have text1 : (t.text.toList == []) = false := beq_eq_false_iff_ne.2 TEXTE
    have text2 : t.text.toList.isEmpty = false := by cases hq : t.text.toList with | nil => exact absurd hq TEXTE | cons _ _ => rfl
    have text3 : ¬ t.text.toList = [] := TEXTE
    have text4 : (t.text.toList != []) = true := by rw [bne, text1]; rfl
    rcases hk12 with hk1 | hk2
    ·
     have k1 : (t.kind != 1) = false := by rw [hk1]; rfl
     have k2 : (t.kind == 2) = false := by rw [hk1]; rfl
     clear hr hk hk1 NAMEE TEXTE
     go_enter Tryz.func45, Tryz.ntmps45
     go_wp2
     go_ret
     exact ⟨rfl, (Below.refl _ _).alloc (Nat.le_refl _) _⟩
    ·
     have k1 : (t.kind != 1) = true := by rw [hk2]; rfl
     have k2n : (t.kind != 2) = false := by rw [hk2]; rfl
     have k2 : (t.kind == 2) = true := by rw [hk2]; rfl
     clear hr hk hk2 NAMEE TEXTE
     go_enter Tryz.func45, Tryz.ntmps45
     go_wp2
     go_ret
     exact ⟨rfl, (Below.refl _ _).alloc (Nat.le_refl _) _⟩
 ·
  have k1 : (t.kind != 1) = true := bne_iff_ne.2 (fun e => hk12 (.inl e))
  have k2n : (t.kind != 2) = true := bne_iff_ne.2 (fun e => hk12 (.inr e))
  clear hr hk hk12
  go_enter Tryz.func45, Tryz.ntmps45
  go_wp2
  go_ret
  exact ⟨rfl, (Below.refl _ _).alloc (Nat.le_refl _) _⟩
set_option maxRecDepth 100000 in
set_option maxHeartbeats 4000000 in
theorem Um.mayEnd (t : Tk) (a : Option Addr) (d : Nat) (R : Nat → Prop) (w : World) (_h : Ak.Lies w R t.attrs (.slice a t.attrs.length d)) (hk2 : t.kind = 2) (ha : t.attrs = []) (hs : t.self = false) (hn : t.name ≠ Ts.e) (ht : t.text = Ts.e) :
  Calls Tryz.prog 45 #[.agg #[.int .i64 t.kind, .string t.name, .string t.text, .slice a t.attrs.length d, .bool t.self]] w fun e w' => e = .returned (.bool true) ∧ Below w.heap.size w w' := by
 have hlen : t.attrs.length = 0 := by rw [ha]; rfl
 have NAMEE : ¬ t.name.toList = [] := fun e => hn ((Um.empty _).1 e)
 have TEXTE : t.text.toList = [] := (Um.empty _).2 ht
 have k0 : (t.kind == 0) = false := beq_eq_false_iff_ne.2 (by omega)
 have k3 : (t.kind == 3) = false := beq_eq_false_iff_ne.2 (by omega)
 have k1 : (t.kind != 1) = true := by rw [hk2]; rfl
 have k2n : (t.kind != 2) = false := by rw [hk2]; rfl
 have k2 : (t.kind == 2) = true := by rw [hk2]; rfl
 have name1 : (t.name.toList == []) = false := beq_eq_false_iff_ne.2 NAMEE
 have name2 : t.name.toList.isEmpty = false := by cases hq : t.name.toList with | nil => exact absurd hq NAMEE | cons _ _ => rfl
 have name3 : ¬ t.name.toList = [] := NAMEE
 have text1 : (t.text.toList == []) = true := by rw [TEXTE]; rfl
 have text2 : t.text.toList.isEmpty = true := by rw [TEXTE]; rfl
 have text3 : t.text.toList = [] := TEXTE
 have text4 : (t.text.toList != []) = false := by rw [bne, text1]; rfl
 clear hk2 hn ht NAMEE TEXTE ha
 rw [hs, hlen]
 clear hs hlen
 go_enter Tryz.func45, Tryz.ntmps45
 go_wp2
 go_loopw [3] (fun i wr => i = .int .i64 0 ∧ wr = w.alloc (.cells #[.int .i64 t.kind, .string t.name, .string t.text, .slice a 0 d, .bool false] 84)) (fun _ _ => 0)
 case atStart => exact ⟨rfl, rfl⟩
 case round =>
  obtain ⟨rfl, rfl⟩ := hrel
  go_wp2
  go_ret
  exact ⟨rfl, (Below.refl _ _).alloc (Nat.le_refl _) _⟩
set_option maxRecDepth 100000 in
set_option maxHeartbeats 4000000 in
theorem Um.mayNames (t : Tk) (a : Option Addr) (d : Nat) (R : Nat → Prop) (w : World) (h : Ak.Lies w R t.attrs (.slice a t.attrs.length d)) (hk1 : t.kind = 1) (hn : t.name ≠ Ts.e) (ht : t.text = Ts.e) (hl : t.attrs.length ≤ 32) (b : Bool) (hb : b = true ↔ Bt.named t.attrs t.attrs.length) :
  Calls Tryz.prog 45 #[.agg #[.int .i64 t.kind, .string t.name, .string t.text, .slice a t.attrs.length d, .bool t.self]] w fun e w' => e = .returned (.bool b) ∧ Below w.heap.size w w' := by
 obtain ⟨a', d', e, l1, m1, x1⟩ := h
 injection e with e1 e2 e3
 subst e1
 subst e3
 have NAMEE : ¬ t.name.toList = [] := fun e => hn ((Um.empty _).1 e)
 have TEXTE : t.text.toList = [] := (Um.empty _).2 ht
 have k0 : (t.kind == 0) = false := beq_eq_false_iff_ne.2 (by omega)
 have k3 : (t.kind == 3) = false := beq_eq_false_iff_ne.2 (by omega)
 have k1 : (t.kind != 1) = false := by rw [hk1]; rfl
 have k2 : (t.kind == 2) = false := by rw [hk1]; rfl
 have name1 : (t.name.toList == []) = false := beq_eq_false_iff_ne.2 NAMEE
 have name2 : t.name.toList.isEmpty = false := by cases hq : t.name.toList with | nil => exact absurd hq NAMEE | cons _ _ => rfl
 have name3 : ¬ t.name.toList = [] := NAMEE
 have text1 : (t.text.toList == []) = true := by rw [TEXTE]; rfl
 have text2 : t.text.toList.isEmpty = true := by rw [TEXTE]; rfl
 have text3 : t.text.toList = [] := TEXTE
 have text4 : (t.text.toList != []) = false := by rw [bne, text1]; rfl
 have l32 : decide ((32 : Int) < (t.attrs.length : Int)) = false := decide_eq_false (by omega)
 clear hk1 hn ht NAMEE TEXTE
 have X := Lib.hid x1
 have HB := Lib.hid hb
 clear x1 hb
 generalize t.attrs = al at *
 go_enter Tryz.func45, Tryz.ntmps45
 go_wp2
 obtain ⟨W, hW⟩ : ∃ W, w.alloc (.cells #[.int .i64 t.kind, .string t.name, .string t.text, .slice a al.length d, .bool t.self] 84) = W := ⟨_, rfl⟩
 have hbW : Below w.heap.size w W := by rw [← hW]; exact (Below.refl _ _).alloc (Nat.le_refl _) _
 have c3 : W.cell? ⟨w.heap.size, 3, none⟩ = some (.slice a al.length d) := by rw [← hW]; simp
 have X2 : Hid (∀ j y, al[j]? = some y → ∃ b o, a = some ⟨b, o, none⟩ ∧ W.cell? ⟨b, o + j * 2, none⟩ = some (.string y.1)) := fun j y hj => by
  obtain ⟨b, o, e, _, c1, _⟩ := X.out j y hj
  exact ⟨b, o, e, Tp.keep hbW c1⟩
 rw [hW]
 have HBW := Lib.hid hbW
 clear hW X hbW
 obtain ⟨gs, hgs⟩ : ∃ gs, w.heap.size = gs := ⟨_, rfl⟩
 rw [hgs] at c3 ⊢
 clear hgs
 go_loopw [3] (fun i wr => ∃ k n : Nat, k ≤ al.length ∧ i = .int .i64 (k : Int) ∧ Hid (Bt.named al k) ∧ wr = W.drewN n) (fun i _ => al.length - (intOf i).toNat)
 case atStart => exact ⟨0, 0, Nat.zero_le _, rfl, (fun i x h _ => absurd h (Nat.not_lt_zero _)), rfl⟩
 case round =>
  obtain ⟨k, n, hk, rfl, HN, rfl⟩ := hrel
  by_cases hlt : k < al.length
  ·
   have d1 : decide ((k : Int) < (al.length : Int)) = true := decide_eq_true (by omega)
   obtain ⟨b1, o1, rfl, ck⟩ := X2.out k al[k] (List.getElem?_eq_getElem hlt)
   have hkd : k < d := by omega
   obtain ⟨y, hy⟩ : ∃ y, al[k].1 = y := ⟨_, rfl⟩
   rw [hy] at ck
   by_cases YE : y.toList = []
   ·
    have y1 : (y.toList == []) = true := by rw [YE]; rfl
    have y2 : y.toList.isEmpty = true := by rw [YE]; rfl
    have hbf : b = false := by
     cases b
     ·
      rfl
     ·
      exact absurd (by rw [hy]; exact (Um.empty _).1 YE) (HB.out.1 rfl k al[k] hlt (List.getElem?_eq_getElem hlt)).1
    subst hbf
    go_wp2
    go_ret
    exact ⟨rfl, Um.drews HBW.out _⟩
   ·
    have y1 : (y.toList == []) = false := beq_eq_false_iff_ne.2 YE
    have y2 : y.toList.isEmpty = false := by cases hq : y.toList with | nil => exact absurd hq YE | cons _ _ => rfl
    have HY : Hid (y ≠ Ts.e) := fun e => YE ((Um.empty _).2 e)
    have HYK := Lib.hid hy
    clear hy
    go_wp2
    go_loopw [4] (fun j wr => ∃ q n : Nat, q ≤ k ∧ j = .int .i64 (q : Int) ∧ Hid (∀ j x, j < q → al[j]? = some x → x.1 ≠ y) ∧ wr = W.drewN n) (fun j _ => k - (intOf j).toNat)
    case atStart => exact ⟨0, n, Nat.zero_le _, rfl, (fun _ _ h _ => absurd h (Nat.not_lt_zero _)), rfl⟩
    case round =>
     obtain ⟨q, n2, hq, rfl, HQ, rfl⟩ := hrel
     by_cases hqk : q < k
     ·
      have d2 : decide ((q : Int) < (k : Int)) = true := decide_eq_true (by omega)
      obtain ⟨b2, o2, e2, cq⟩ := X2.out q al[q] (List.getElem?_eq_getElem (by omega))
      injection e2 with e2
      injection e2 with e3 e4
      subst e3
      subst e4
      have hqd : q < d := by omega
      obtain ⟨z, hz⟩ : ∃ z, al[q].1 = z := ⟨_, rfl⟩
      rw [hz] at cq
      by_cases hzy : z = y
      ·
       subst hzy
       have t1 : (z.toList == z.toList) = true := by simp
       have hbf : b = false := by
        cases b
        ·
         rfl
        ·
         exact absurd (hz.trans HYK.out.symm) ((HB.out.1 rfl k al[k] hlt (List.getElem?_eq_getElem hlt)).2 q al[q] hqk (List.getElem?_eq_getElem (by omega)))
       subst hbf
       go_wp2_with fail
       go_quiet (fail)
       go_wp2
       go_ret
       exact ⟨rfl, Um.drews (Um.drews HBW.out _) _⟩
      ·
       have t1 := Um.toList_ne hzy
       have HQ2 : Hid (∀ j x, j < q + 1 → al[j]? = some x → x.1 ≠ y) := fun j x hj hx => by
        by_cases e : j = q
        ·
         subst e
         rw [List.getElem?_eq_getElem (by omega)] at hx
         injection hx with hx
         rw [← hx, hz]
         exact hzy
        ·
         exact HQ.out j x (by omega) hx
       clear hzy hz
       go_wp2_with fail
       go_quiet (fail)
       go_wp2
       go_roundw
       case rel => exact ⟨q + 1, _, by omega, by go_num, HQ2, rfl⟩
       case measure => simp [intOf]; omega
     ·
      have d2 : decide ((q : Int) < (k : Int)) = false := decide_eq_false (by omega)
      have hqe : q = k := by omega
      have HN2 : Hid (Bt.named al (k + 1)) := fun i x hi hx => by
       by_cases e : i = k
       ·
        subst e
        rw [List.getElem?_eq_getElem hlt] at hx
        injection hx with hx
        subst hx
        rw [HYK.out]
        exact ⟨HY.out, fun j y' hj hy' => HQ.out j y' (by omega) hy'⟩
       ·
        exact HN.out i x (by omega) hx
      clear hqe
      go_wp2
      go_roundw
      case rel => exact ⟨k + 1, _, by omega, by go_num, HN2, rfl⟩
      case measure => simp [intOf]; omega
  ·
   have e : k = al.length := by omega
   subst e
   have d1 : decide ((al.length : Int) < (al.length : Int)) = false := decide_eq_false (by omega)
   have hbt : b = true := HB.out.2 HN.out
   subst hbt
   go_wp2
   go_ret
   exact ⟨rfl, Um.drews HBW.out _⟩
theorem Um.bool (p : Prop) : ∃ b : Bool, b = true ↔ p := by
 by_cases h : p
 ·
  exact ⟨true, fun _ => h, fun _ => rfl⟩
 ·
  exact ⟨false, (fun q => by cases q), fun q => absurd q h⟩
theorem Um.may (t : Tk) (a : Option Addr) (d : Nat) (R : Nat → Prop) (w : World) (h : Ak.Lies w R t.attrs (.slice a t.attrs.length d)) :
  Calls Tryz.prog 45 #[.agg #[.int .i64 t.kind, .string t.name, .string t.text, .slice a t.attrs.length d, .bool t.self]] w fun e w' => ∃ b, e = .returned (.bool b) ∧ (b = true ↔ t.May) ∧ Below w.heap.size w w' := by
 by_cases hk : t.kind = 0 ∨ t.kind = 3
 ·
  obtain ⟨b, hbb⟩ := Um.bool (t.name = Ts.e ∧ t.attrs = [] ∧ t.self = false)
  refine (Um.mayText t a d R w h hk b hbb).mono ?_
  rintro e w' ⟨rfl, hb⟩
  refine ⟨_, rfl, ?_, hb⟩
  rw [hbb]
  unfold Tk.May
  constructor
  ·
   intro q; exact .inl ⟨hk, q⟩
  ·
   rintro (q | q)
   ·
    exact q.2
   ·
    exact absurd q.1 (by omega)
 ·
  by_cases hr : (t.kind = 1 ∨ (t.kind = 2 ∧ t.attrs = [] ∧ t.self = false)) ∧ t.name ≠ Ts.e ∧ t.text = Ts.e ∧ t.attrs.length ≤ 32
  ·
   obtain ⟨h12, hn, ht, hl⟩ := hr
   rcases h12 with h1 | ⟨h2, ha, hs⟩
   ·
    obtain ⟨b, hbb⟩ := Um.bool (Bt.named t.attrs t.attrs.length)
    refine (Um.mayNames t a d R w h h1 hn ht hl b hbb).mono ?_
    rintro e w' ⟨rfl, hb⟩
    refine ⟨_, rfl, ?_, hb⟩
    rw [hbb]
    unfold Tk.May
    constructor
    ·
     intro q; exact .inr ⟨.inl h1, hn, ht, hl, q⟩
    ·
     rintro (q | q)
     ·
      exact absurd q.1 hk
     ·
      exact q.2.2.2.2
   ·
    refine (Um.mayEnd t a d R w h h2 ha hs hn ht).mono ?_
    rintro e w' ⟨rfl, hb⟩
    refine ⟨_, rfl, ⟨fun _ => .inr ⟨.inr ⟨h2, ha, hs⟩, hn, ht, hl, ?_⟩, fun _ => rfl⟩, hb⟩
    rw [ha]
    exact fun i x hi => absurd hi (Nat.not_lt_zero _)
  ·
   refine (Um.mayRej t a d R w h hk hr).mono ?_
   rintro e w' ⟨rfl, hb⟩
   refine ⟨_, rfl, ⟨(fun q => by cases q), fun q => ?_⟩, hb⟩
   rcases q with q | q
   ·
    exact absurd q.1 hk
   ·
    exact absurd ⟨q.1, q.2.1, q.2.2.1, q.2.2.2.1⟩ hr
end Go.Proofs.YtblpkjlodncpeaaGreatDoor

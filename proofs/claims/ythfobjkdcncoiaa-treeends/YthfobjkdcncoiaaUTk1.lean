/-
  THE WALK of the reference's token: a begin.
-/
import Derived.Test.YthfobjkdcncoiaaUNd
import Derived.Test.YthfobjkdcncoiaaUElem
import Derived.Test.YthfobjkdcncoiaaUMay
import Derived.Test.YthfobjkdcncoiaaUCopy
import Derived.Deep.RegionLaw
namespace Go.Proofs.Ythfobjkdcncoiaa
open Go.RowKit
set_option maxRecDepth 100000 in
set_option maxHeartbeats 8000000 in
theorem Um.token1 (base : Nat) (m : Bt) (t : Tk) (aa : Option Addr) (an ad : Nat) (w : World) (g : Nat) (ov pv : Value) (h : Um.At base w g m ov pv) (hok : Bt.Ok m) (hs : m.out.length ≤ 1000000) (hk : t.kind = 1) (hat : Ak.Lies w (· < base) t.attrs (.slice aa an ad)) (hbs : base ≤ w.heap.size) (hal : t.attrs.length ≤ 32) :
    Calls Try.prog 23 #[.pointer (some ⟨g, 0, none⟩), .agg #[.int .i64 t.kind, .string t.name, .string t.text, .slice aa an ad, .bool t.self]] w fun e w' => e = .returned (.tuple #[]) ∧ ∃ ov' pv', Um.At base w' g (m.token t) ov' pv' ∧ Um.Kept w w' g ov pv ov' pv' := by
  have t0 : (t.kind == 0) = false := by rw [hk]; rfl
  have t3 : (t.kind == 3) = false := by rw [hk]; rfl
  have t1 : (t.kind == 1) = true := by rw [hk]; rfl
  have HT := Lib.hid hk
  have HKC : Hid (∀ u, Below w.heap.size w u → ∀ j y, (Ak.cells t.attrs)[j]? = some y → ∃ b, aa = some b ∧ u.cell? (b.add j) = some y) := fun u hu => (Um.attr_cells (hat.on (R' := fun _ => True) fun k (hk : k < base) => ⟨trivial, hu.block k (by omega)⟩)).2
  have han := (Um.attr_cells hat).1
  have HLN : Hid ((Ak.cells t.attrs).length = an * 2) := by unfold Hid; rw [Ak.cells_length, han]
  have han2 : an ≤ 32 := by omega
  have HAN := Lib.hid han
  clear hk hat han hal
  have hlt := h.lt
  obtain ⟨p, pd, rfl, hpd, ctop⟩ := Um.topCell h hok.opn
  obtain ⟨xs, hx⟩ := id h.out
  obtain ⟨og, od, rfl, hod, hod2⟩ := Um.form1 hx.1 hok.some
  have hp : p < w.heap.size := World.block_lt_of_cell? _ _ ctop
  have hl0 := hok.opn
  have hfew := hok.few
  have hsome := hok.some
  have n1 : w.heap.size ≠ g := by omega
  have n2 : g ≠ w.heap.size := by omega
  have hw1 : IntKind.i64.wrap ((m.opn.length : Int) - 1) = ((m.opn.length - 1 : Nat) : Int) := by rw [IntKind.wrap_i64]; omega
  have hw2 : IntKind.i64.wrap ((m.out.length : Int) - 1) = ((m.out.length - 1 : Nat) : Int) := by rw [IntKind.wrap_i64]; omega
  have hidx : m.opn.length - 1 < pd := by omega
  have hi63 : m.opn.length - 1 < m.opn.length := by omega
  have hod3 : m.out.length - 1 < od := by omega
  have ho63 : m.out.length - 1 < m.out.length := by omega
  go_enter Try.func23, Try.ntmps23
  go_upto_region 1 with fail
  obtain ⟨W, hW⟩ : ∃ W, w.alloc (.cells #[.int .i64 t.kind, .string t.name, .string t.text, .slice aa an ad, .bool t.self] 41) = W := ⟨_, rfl⟩
  have hbW : Below w.heap.size w W := by rw [← hW]; exact (Below.refl _ _).alloc (Nat.le_refl _) _
  have k0 : W.cell? ⟨w.heap.size, 0, none⟩ = some (.int .i64 t.kind) := by rw [← hW]; simp
  have k1 : W.cell? ⟨w.heap.size, 1, none⟩ = some (.string t.name) := by rw [← hW]; simp
  have k2 : W.cell? ⟨w.heap.size, 2, none⟩ = some (.string t.text) := by rw [← hW]; simp
  have k3 : W.cell? ⟨w.heap.size, 3, none⟩ = some (.slice aa an ad) := by rw [← hW]; simp
  have q1 := Tp.keep hbW h.c1
  have qt := Tp.keep hbW ctop
  have hA := h.on hbW
  rw [hW]
  have HA := Lib.hid hA
  have HBW := Lib.hid hbW
  have HW : Hid (Um.Free (.slice (some ⟨og, 0, none⟩) m.out.length od) (.slice (some ⟨p, 0, none⟩) m.opn.length pd) g w.heap.size) := ⟨n1, (fun e => by have := (h.ovLt e).2; omega), fun e => by have := (h.pvLt e).2; omega⟩
  clear hW hbW hA hx ctop
  go_quiet (fail)
  obtain ⟨V, hV⟩ : ∃ V, W.drewN nq = V := ⟨_, rfl⟩
  have hbV : Below W.heap.size W V := by rw [← hV]; exact ⟨rfl, rfl, rfl, Nat.le_refl _, fun _ _ => rfl⟩
  rw [hV]
  have hA := HA.out.on hbV
  have v0 := Tp.keep hbV k0
  have v1 := Tp.keep hbV k1
  have v2 := Tp.keep hbV k2
  have v3 := Tp.keep hbV k3
  have c0 := hA.c0
  have c1 := hA.c1
  have cf := hA.fz
  have hgV := hA.lt
  have HA := Lib.hid hA
  have HK := Lib.hid (Um.Kept.of g (.slice (some ⟨og, 0, none⟩) m.out.length od) (.slice (some ⟨p, 0, none⟩) m.opn.length pd) (HBW.out.trans (hbV.mono HBW.out.size)))
  have HBV : Hid (Below w.heap.size w V) := HBW.out.trans (hbV.mono HBW.out.size)
  clear hV hbV hA k0 k1 k2 k3 q1 qt HBW h
  have HFV : Hid (Um.Free (.slice (some ⟨og, 0, none⟩) m.out.length od) (.slice (some ⟨p, 0, none⟩) m.opn.length pd) g w.heap.size) := HW.out
  have HAF : Hid (g < V.heap.size ∧ og < V.heap.size ∧ p < V.heap.size ∧ base ≤ V.heap.size) := ⟨hgV, (HA.out.ovLt rfl).2, (HA.out.pvLt rfl).2, Nat.le_trans hbs HBV.out.size⟩
  have hgsV : w.heap.size < V.heap.size := World.block_lt_of_cell? _ _ v0
  have v1' : ∀ o, (V.alloc o).cell? ⟨w.heap.size, 1, none⟩ = _ := fun o => (World.cell?_alloc_lt _ _ _ hgsV).trans v1
  have v3' : ∀ o, (V.alloc o).cell? ⟨w.heap.size, 3, none⟩ = _ := fun o => (World.cell?_alloc_lt _ _ _ hgsV).trans v3
  have nod := fun u a4 n4 d4 hu ha4 => Um.node base m ⟨1, t.name, Ts.e, t.attrs, 0⟩ a4 n4 d4 u g (.slice (some ⟨og, 0, none⟩) m.out.length od) (.slice (some ⟨p, 0, none⟩) m.opn.length pd) hu hok hs ha4
  go_upto_region 12 with fail
  go_cut [] from 85 to 93 (fun wx => Hid (∃ ov2, Um.At base wx g (m.node ⟨1, t.name, Ts.e, t.attrs, 0⟩) ov2 (.slice (some ⟨p, 0, none⟩) m.opn.length pd) ∧ Um.Kept V wx g (.slice (some ⟨og, 0, none⟩) m.out.length od) (.slice (some ⟨p, 0, none⟩) m.opn.length pd) ov2 (.slice (some ⟨p, 0, none⟩) m.opn.length pd)))
  case first =>
    go_region_law (first | (refine Um.step_copy rfl (.tmp 88) (.tmp 90) 36 48 2 32 _ rfl Try.underlying36 Rm.infoA rfl (by decide) (base := V.heap.size) V.heap.size (by rfl) (Um.noAttrs _ _ (by first | exact Nat.le_refl _ | (simp; done))) an (Ak.cells t.attrs) aa ad (by rfl) (HKC.out _ (by first | exact HBV.out.drew.alloc HBV.out.size _ | exact (HBV.out.alloc HBV.out.size _).drew | exact HBV.out.alloc HBV.out.size _)) HLN.out (Ak.cells_one _) (by unfold maxLen; omega) (by omega) (by first | (simp; done) | (simp; omega)) ?_; intro v4 w4 R4 hg4 hf4; obtain ⟨a4, d4, rfl⟩ := Um.form R4; have hc4 := Um.copied (by first | exact (Below.refl V.heap.size V).drew.alloc (Nat.le_refl _) _ | exact ((Below.refl V.heap.size V).alloc (Nat.le_refl _) _).drew | exact (Below.refl V.heap.size V).alloc (Nat.le_refl _) _) hg4 R4 HAN.out HA.out HAF.out.2.2.2; have HL4 := Lib.hid hc4.2; have HB4 := Lib.hid hc4.1; have x1 := Tp.keep hc4.1 v1; clear R4 hg4 hf4 hc4) | (rw [if_pos (by simp [Region.wanted])]; go_simp; go_at_call 31; refine (nod _ a4 an d4 (HA.out.on HB4.out) HL4.out).mono ?_; rintro e w5 ⟨rfl, ov5, hA5, hK5⟩; have HA5 := Lib.hid hA5; have HK5 := Lib.hid ((Um.Kept.of g _ _ HB4.out).trans hK5); clear hA5 hK5))
    all_goals (try go_wp2_with fail)
    all_goals go_meet
    all_goals exact Lib.hid ⟨ov5, HA5.out, HK5.out⟩
  case rest =>
    obtain ⟨ov2, hA2, hK2⟩ := hcut.out
    have z1 := hK2.cell HFV.out v1
    have hlen2 : (m.node ⟨1, t.name, Ts.e, t.attrs, 0⟩).out.length = m.out.length + 1 := by show (m.out ++ _).length = _; rw [List.length_append]; rfl
    obtain ⟨xs2, hx2⟩ := id hA2.out
    obtain ⟨oa2, od2, rfl⟩ := Um.form hx2.1
    have d0 := hA2.c0
    have d1 := hA2.c1
    have df := hA2.fz
    rw [hlen2] at d0
    have HA2 := Lib.hid hA2
    have HK2 := Lib.hid (HK.out.trans hK2)
    have elm := fun u => Rs.elem t.name u
    clear hcut hA2 hK2 hx2 nod v0 v1 v2 v3 v1' v3' c0 c1 cf HKC
    by_cases hq : Ts.kind t.name ≠ 1 ∧ m.opn.length ≤ 32
    · have HX : Hid (m.token t = { m.node ⟨1, t.name, Ts.e, t.attrs, 0⟩ with opn := m.opn ++ [m.out.length] }) := by unfold Hid Bt.token; rw [if_neg (by rw [HT.out]; decide), if_neg (by rw [HT.out]; decide), if_pos HT.out, if_pos hq]
      have b1 : (Ts.kind t.name != 1) = true := bne_iff_ne.2 hq.1
      have b2 : decide ((m.opn.length : Int) ≤ 32) = true := decide_eq_true (by omega)
      have hw5 : IntKind.i64.wrap ((m.out.length : Int) + 1 - 1) = (m.out.length : Int) := by rw [IntKind.wrap_i64]; omega
      have hw6 : IntKind.i64.wrap (m.out.length : Int) = (m.out.length : Int) := by rw [IntKind.wrap_i64]; omega
      have HNI : Hid (m.opn.length + 1 ≤ maxLen ∧ (m.opn.length + 1) * 8 ≤ 140737488355328) := ⟨by unfold maxLen; omega, by omega⟩
      have HOP := Lib.hid HA2.out.opn
      have hgc : g < wc.heap.size := HA2.out.lt
      have n7 : wc.heap.size ≠ g := by omega
      have n8 : g ≠ wc.heap.size := by omega
      have d0' : ∀ o, (wc.alloc o).cell? ⟨g, 0, none⟩ = _ := fun o => (World.cell?_alloc_lt _ _ _ hgc).trans d0
      have d1' : ∀ o, (wc.alloc o).cell? ⟨g, 1, none⟩ = _ := fun o => (World.cell?_alloc_lt _ _ _ hgc).trans d1
      have hbc : base ≤ wc.heap.size := Nat.le_trans HA2.out.ge (Nat.le_of_lt hgc)
      clear hq
      go_upto_region 14 with ((go_at_call 32; refine (elm _).mono ?_; rintro e w' ⟨rfl, hw⟩; have hw := hw.symm; subst hw))
      go_region_law (first | (refine Ro.step_push rfl (.tmp 110) (.tmp 117) 39 3 1 8 _ rfl Try.underlying39 Um.infoI rfl (by decide) (.slice (some ⟨p, 0, none⟩) m.opn.length pd) (by simp [Act.eval]) (HOP.out.alloc _) wc.heap.size [.int .i64 (m.out.length : Int)] (by simp [Act.eval]) (Um.one_int _ _ _ (by first | rfl | omega | (simp; omega))) rfl (by simp [Value.oneCell']) HNI.out.1 HNI.out.2 (by first | omega | (simp; omega)) ?_; intro v4 w4 R4 hg4 hf4; obtain ⟨a4, d4, rfl⟩ := Um.form R4; have B4 : w4.heap[g]? = wc.heap[g]? := ((hg4.block g (by first | omega | (simp; omega)) (fun e => HA2.out.pg e.symm)).trans (Below.heap_alloc _ _ _ (by first | omega | (simp; omega)))); have f1 := (World.cell?_of_block (a := ⟨g, 1, none⟩) B4).trans d1; have ff : ∀ i, w4.frozen? ⟨g, i, none⟩ = false := (fun i => by have := df i; unfold World.frozen? at this ⊢; rw [B4]; exact this); clear B4; have HR4 := Lib.hid R4; have HG4 := Lib.hid hg4; have HF4 := Lib.hid hf4; clear R4 hg4 hf4))
      all_goals go_wp2
      all_goals go_end0
      all_goals
        have hq4 : Below wc.heap.size wc (wc.drew.alloc (.cells #[.int .i64 (m.out.length : Int)] 3)) := (Below.refl _ _).drew.alloc (Nat.le_refl _) _
        have hl4 : (m.opn ++ [m.out.length]).length = m.opn.length + 1 := by rw [List.length_append]; rfl
        obtain ⟨y1, y2⟩ := Um.At.open (l := m.opn ++ [m.out.length]) HA2.out hq4 (.inl rfl) (by rw [hl4, Um.ints_append]; exact HR4.out) HG4.out (by
          rcases HF4.out with q | q
          · exact .inl q
          · exact .inr ⟨_, q, by show wc.heap.size ≤ (wc.drew.alloc _).heap.size; simp⟩)
        exact ⟨rfl, _, _, by rw [HX.out]; exact y1, HK2.out.trans y2⟩
    · have HX : Hid (m.token t = m.node ⟨1, t.name, Ts.e, t.attrs, 0⟩) := by unfold Hid Bt.token; rw [if_neg (by rw [HT.out]; decide), if_neg (by rw [HT.out]; decide), if_pos HT.out, if_neg hq]
      have hd : Hid ((Ts.kind t.name != 1) = false ∨ ((Ts.kind t.name != 1) = true ∧ decide ((m.opn.length : Int) ≤ 32) = false)) := by
        unfold Hid
        by_cases q : Ts.kind t.name = 1
        · exact .inl (by rw [q]; rfl)
        · exact .inr ⟨bne_iff_ne.2 q, decide_eq_false (by omega)⟩
      clear hq
      rcases hd.out with b1 | ⟨b1, b2⟩
      all_goals
        go_wp2_with (go_at_call 32; refine (elm _).mono ?_; rintro e w' ⟨rfl, hw⟩; have hw := hw.symm; subst hw)
        go_end0
        exact ⟨rfl, _, _, by rw [HX.out]; exact HA2.out, HK2.out⟩
end Go.Proofs.Ythfobjkdcncoiaa

/-
  THE WALK of the builder's start.
-/
import Derived.Test.YthfobjkdcncoiaaWNode
import Derived.Test.YthfobjkdcncoiaaUElem
import Derived.Test.YthfobjkdcncoiaaUMay
namespace Go.Proofs.Ythfobjkdcncoiaa
open Go.RowKit
theorem Pm.run0 (P : Program) (w : World) (t ty e : TypeId) (i : TypeInfo) (ht : P.underlying t = some (.slice e)) (hi : P.info? e = some i) (ak : Option Addr) (d : Nat) :
    (Builtin.append_ #[t, t] ty #[.slice none 0 0, .slice ak 0 d]).run P w = .ok (.slice none 0 0) w := by
  cases ak with
  | none => simp [Builtin.append_, run_underlying ht, sizeOf, typeInfo, hi, Builtin.lenOf, Builtin.firstCells]
  | some a => simp [Builtin.append_, run_underlying ht, sizeOf, typeInfo, hi, Builtin.lenOf, Builtin.firstCells, loadCells, loadCellsFrom]
/-- 'append(nil, xs...)' at a step of a region that draws -/
theorem Pm.step_copy {w : World} {ops : Array Oper} {o : Oper} {a : Act} {K : Act → World → Prop} {E : Prop} {Z : Exit → Act → World → Prop} (hgd : o.guard = none) (s x : Operand) (t e : TypeId) (size bytes : Nat) (z : Value)
    (ho : o.op = .call { callee := .builtin .append, args := #[s, x], argTypes := #[t, t] })
    (ht : Try.prog.underlying t = some (.slice e)) (hi : (Try.prog.info? e).map (fun i => (i.zero, i.size, i.bytes)) = some (some z, size, bytes)) (hzs : z.cells.size = size) (hsz : 0 < size)
    {base : Nat} (hs : a.eval s = .slice none 0 0) (n : Nat) (news : List Value) (aa : Option Addr) (ad : Nat)
    (hx : a.eval x = .slice aa n ad) (hk : ∀ j u, news[j]? = some u → ∃ b, aa = some b ∧ w.cell? (b.add j) = some u) (hl : news.length = n * size) (hone : ∀ u ∈ news, u.oneCell' = true)
    (hn1 : n ≤ maxLen) (hn : n * bytes ≤ 140737488355328) (hbase : base ≤ w.heap.size)
    (h : ∀ v' w', w'.ownsRow base e size v' n news → w.grownBy w' none → K (a.put o.dst v') w') :
    if Region.wanted o (yielded ops a.tmps) = true then Oper.wp Try.prog o a w K Z else E := by
  have hw : Region.wanted o (yielded ops a.tmps) = true := by simp [Region.wanted, hgd]
  rw [if_pos hw]
  obtain ⟨iV, hiV, hzV, hsV, hbV⟩ := info_parts hi
  by_cases h0 : n = 0
  · subst h0
    have hrun := Pm.run0 Try.prog w t o.type e iV ht hiV aa ad
    have hnil : news = [] := List.eq_nil_of_length_eq_zero (by rw [hl]; simp)
    subst hnil
    have h2 := h (.slice none 0 0) w (World.ownsRow_nil w base e size) ⟨rfl, rfl, rfl, Nat.le_refl _, fun _ _ _ => rfl⟩
    unfold Oper.wp execOp
    simp only [ho, resolve, invoke, builtin, Sem.run_bind, Sem.run_pure, Result.andThen_ok, List.map_toArray, List.map_cons, List.map_nil, hs, hx, hrun]
    exact h2
  · have hp : 0 < news.length := by rw [hl]; exact Nat.mul_pos (by omega) hsz
    obtain ⟨b, rfl, _⟩ := hk 0 _ (List.getElem?_eq_getElem hp)
    have hnews : ∀ j u, news[j]? = some u → w.cell? (b.add j) = some u := fun j u hj => by
      obtain ⟨b', e', hc⟩ := hk j u hj
      cases e'
      exact hc
    obtain ⟨v', w', hr, h2, h3, h4⟩ := run_append_own (P := Try.prog) w base t o.type e iV _ size bytes ht hiV hzV hsV hbV hzs hsz (.slice none 0 0) 0 [] (World.ownsRow_nil w base e size) b n ad news hl hnews hone (by omega) (by rw [Nat.zero_add]; exact hn) hbase
    unfold Oper.wp execOp
    simp only [ho, resolve, invoke, builtin, Sem.run_bind, Sem.run_pure, Result.andThen_ok, List.map_toArray, List.map_cons, List.map_nil, hs, hx, hr]
    rw [Nat.zero_add, List.nil_append] at h2
    exact h v' w' h2 h3
/-- attributes copied into a new row: where they lie -/
theorem Pm.copied {base an : Nat} {V U w4 : World} {g : Nat} {m : Bt} {bs : ByteArray} {ov pv tv v4 : Value} {al : List (ByteArray × ByteArray)} (hU : Below V.heap.size V U) (hg4 : U.grownBy w4 none) (R4 : w4.ownsRow V.heap.size 48 2 v4 an (Ak.cells al)) (han : an = al.length) (hA : Pm.At base V g m bs ov pv tv) :
    Below V.heap.size V w4 ∧ Ak.Lies w4 (Pm.Off base w4 (Pm.Mine g ov pv tv)) al v4 := by
  refine ⟨hU.grown hg4 hU.size (fun k hk => by cases hk), (Um.ownAttrs R4 han).on fun k hk => ⟨⟨?_, (R4.lt k hk).2, fun e => ?_, Rm.Ub.own R4 hk⟩, rfl⟩⟩
  · have := (R4.lt k hk).1; have := hA.lo; omega
  · have := (R4.lt k hk).1; have := (hA.mine e).2; omega
set_option maxRecDepth 100000 in
set_option maxHeartbeats 8000000 in
theorem Pg.start (base : Nat) (m : Bt) (bs : ByteArray) (t : Tk) (aa : Option Addr) (an ad : Nat) (R : Nat → Prop) (w : World) (g : Nat) (ov pv tv : Value) (h : Pm.At base w g m bs ov pv tv) (hok : Bt.Ok m) (hs : m.out.length ≤ 1000000) (hz : bs.size ≤ 140737488355328) (hat : Ak.Lies w R t.attrs (.slice aa an ad)) (hal : t.attrs.length ≤ 32)
    (m' : Bt) (hZ : m' = if Ts.kind t.name ≠ 1 ∧ m.opn.length ≤ 32 then { (Pb.flush m bs).node ⟨1, t.name, Ts.e, t.attrs, 0⟩ with opn := m.opn ++ [m.out.length] } else (Pb.flush m bs).node ⟨1, t.name, Ts.e, t.attrs, 0⟩) :
    Calls Try.prog 29 #[.pointer (some ⟨g, 0, none⟩), .agg #[.int .i64 t.kind, .string t.name, .string t.text, .slice aa an ad, .bool t.self]] w fun e w' => e = .returned (.tuple #[]) ∧ ∃ ov' pv' tv', Pm.At base w' g m' Ts.e ov' pv' tv' ∧ Pm.Kept w w' (Pm.Mine g ov pv tv) (Pm.Mine g ov' pv' tv') := by
  have HKC : Hid (∀ u, Below w.heap.size w u → ∀ j y, (Ak.cells t.attrs)[j]? = some y → ∃ b, aa = some b ∧ u.cell? (b.add j) = some y) := fun u hu j y hj => by
    obtain ⟨b, e, hc⟩ := (Um.attr_cells hat).2 j y hj
    exact ⟨b, e, (hu.cell (World.block_lt_of_cell? _ _ hc)).trans hc⟩
  have han := (Um.attr_cells hat).1
  have HLN : Hid ((Ak.cells t.attrs).length = an * 2) := by unfold Hid; rw [Ak.cells_length, han]
  have han2 : an ≤ 32 := by omega
  have HAN := Lib.hid han
  have HZ := Lib.hid hZ
  clear hat han hal hZ
  have hlt := h.lt
  have hl0 := hok.opn
  have hfew := hok.few
  have n1 : w.heap.size ≠ g := by omega
  have n2 : g ≠ w.heap.size := by omega
  have HNW : Hid (¬ Pm.Mine g ov pv tv w.heap.size) := fun q => Nat.lt_irrefl _ (h.mine q).2
  obtain ⟨p, pd, rfl, hpd, _⟩ := Pm.topCell h hl0
  have nod := fun u a4 n4 d4 hu ha4 => Pg.addNode base m bs ⟨1, t.name, Ts.e, t.attrs, 0⟩ a4 n4 d4 u g ov (.slice (some ⟨p, 0, none⟩) m.opn.length pd) tv hu hok hs hz ha4
  have hlen : (Pb.flush m bs).out.length = m.out.length := Pb.flush_len m bs
  have hopn : (Pb.flush m bs).opn = m.opn := Pb.flush_opn m bs
  have HH := Lib.hid h
  clear h hok hz
  generalize Pb.flush m bs = mf at *
  go_enter Try.func29, Try.ntmps29
  go_upto_region 1 with fail
  obtain ⟨V, hV⟩ : ∃ V, w.alloc (.cells #[.int .i64 t.kind, .string t.name, .string t.text, .slice aa an ad, .bool t.self] 41) = V := ⟨_, rfl⟩
  have hbV : Below w.heap.size w V := by rw [← hV]; exact (Below.refl _ _).alloc (Nat.le_refl _) _
  have v1 : V.cell? ⟨w.heap.size, 1, none⟩ = some (.string t.name) := by rw [← hV]; simp
  have v3 : V.cell? ⟨w.heap.size, 3, none⟩ = some (.slice aa an ad) := by rw [← hV]; simp
  rw [hV]
  have HA := Lib.hid (HH.out.on hbV)
  have HBV := Lib.hid hbV
  have HK := Lib.hid (Pm.Kept.of (Pm.Mine g ov (.slice (some ⟨p, 0, none⟩) m.opn.length pd) tv) hbV)
  clear hV hbV HH
  go_cut [] from 5 to 12 (fun wx => Hid (∃ ov2 tv2, Pm.At base wx g (mf.node ⟨1, t.name, Ts.e, t.attrs, 0⟩) Ts.e ov2 (.slice (some ⟨p, 0, none⟩) m.opn.length pd) tv2 ∧ Pm.Kept V wx (Pm.Mine g ov (.slice (some ⟨p, 0, none⟩) m.opn.length pd) tv) (Pm.Mine g ov2 (.slice (some ⟨p, 0, none⟩) m.opn.length pd) tv2)))
  case first =>
    go_region_law (first | (refine Pm.step_copy rfl _ (.tmp 9) 36 48 2 32 _ rfl Try.underlying36 Rm.infoA rfl (by decide) (base := V.heap.size) (by rfl) an (Ak.cells t.attrs) aa ad (by rfl) (HKC.out _ (by first | exact HBV.out | exact HBV.out.drew)) HLN.out (Ak.cells_one _) (by unfold maxLen; omega) (by omega) (by first | exact Nat.le_refl _ | (simp; done)) ?_; intro v4 w4 R4 hg4; obtain ⟨a4, d4, rfl⟩ := Um.form R4; have hc4 := Pm.copied (by first | exact Below.refl _ _ | exact (Below.refl _ _).drew) hg4 R4 HAN.out HA.out; have HL4 := Lib.hid hc4.2; have HB4 := Lib.hid hc4.1; have x1 := Tp.keep hc4.1 v1; clear R4 hg4 hc4) | (rw [if_pos (by simp [Region.wanted])]; go_simp; go_at_call 28; refine (nod _ a4 an d4 (HA.out.on HB4.out) HL4.out).mono ?_; rintro e w5 ⟨rfl, ov5, tv5, hA5, hK5⟩; have HA5 := Lib.hid hA5; have HK5 := Lib.hid ((Pm.Kept.of _ HB4.out).trans hK5); clear hA5 hK5))
    all_goals (try go_wp2_with fail)
    all_goals go_meet
    all_goals exact Lib.hid ⟨ov5, tv5, HA5.out, HK5.out⟩
  case rest =>
    obtain ⟨ov2, tv2, hA2, hK2⟩ := hcut.out
    have z1 := hK2.cell HNW.out v1
    have hlen2 : (mf.node ⟨1, t.name, Ts.e, t.attrs, 0⟩).out.length = m.out.length + 1 := by show (mf.out ++ _).length = _; rw [List.length_append, hlen]; rfl
    obtain ⟨xs2, hx2⟩ := id hA2.out
    obtain ⟨oa2, od2, rfl⟩ := Um.form hx2.1
    have d0 := hA2.c0
    have d1 := hA2.c1
    have df := hA2.fz
    rw [hlen2] at d0
    have HA2 := Lib.hid hA2
    have HK2 := Lib.hid (HK.out.trans hK2)
    have elm := fun u => Tp.elemKind t.name u
    have hw1 : IntKind.i64.wrap ((m.opn.length : Int) - 1) = ((m.opn.length - 1 : Nat) : Int) := by rw [IntKind.wrap_i64]; omega
    clear hcut hA2 hK2 hx2 nod v1 v3 HKC
    by_cases hq : Ts.kind t.name ≠ 1 ∧ m.opn.length ≤ 32
    · have HX : Hid (m' = { mf.node ⟨1, t.name, Ts.e, t.attrs, 0⟩ with opn := m.opn ++ [m.out.length] }) := by unfold Hid; rw [HZ.out, if_pos hq]
      have b1 : (Ts.kind t.name != 1) = true := bne_iff_ne.2 hq.1
      have b2 : decide ((32 : Int) ≤ ((m.opn.length - 1 : Nat) : Int)) = false := decide_eq_false (by omega)
      have b3 : ¬ 32 ≤ m.opn.length - 1 := by omega
      have hw5 : IntKind.i64.wrap ((m.out.length : Int) + 1 - 1) = (m.out.length : Int) := by rw [IntKind.wrap_i64]; omega
      have hw6 : IntKind.i64.wrap (m.out.length : Int) = (m.out.length : Int) := by rw [IntKind.wrap_i64]; omega
      have HNI : Hid (m.opn.length + 1 ≤ maxLen ∧ (m.opn.length + 1) * 8 ≤ 140737488355328) := ⟨by unfold maxLen; omega, by omega⟩
      have HOP : Hid (wc.ownsRow base 3 1 (.slice (some ⟨p, 0, none⟩) m.opn.length pd) m.opn.length (Um.ints m.opn)) := by
        have := HA2.out.opn
        unfold Hid
        rw [show (mf.node ⟨1, t.name, Ts.e, t.attrs, 0⟩).opn = m.opn from hopn] at this
        exact this
      have hgc : g < wc.heap.size := HA2.out.lt
      have n7 : wc.heap.size ≠ g := by omega
      have n8 : g ≠ wc.heap.size := by omega
      have d0' : ∀ o, (wc.alloc o).cell? ⟨g, 0, none⟩ = _ := fun o => (World.cell?_alloc_lt _ _ _ hgc).trans d0
      have d1' : ∀ o, (wc.alloc o).cell? ⟨g, 1, none⟩ = _ := fun o => (World.cell?_alloc_lt _ _ _ hgc).trans d1
      have hbc : base ≤ wc.heap.size := HA2.out.lo
      clear hq
      go_upto_region 4 with ((go_at_call 36; refine (elm _).mono ?_; rintro e w' ⟨rfl, hw⟩; have hw := hw.symm; subst hw))
      go_region_law (first | (refine Ro.step_push rfl (.tmp 32) (.tmp 39) 39 3 1 8 _ rfl Try.underlying39 Um.infoI rfl (by decide) (.slice (some ⟨p, 0, none⟩) m.opn.length pd) (by simp [Act.eval]) (HOP.out.alloc _) wc.heap.size [.int .i64 (m.out.length : Int)] (by simp [Act.eval]) (Um.one_int _ _ _ (by first | rfl | omega | (simp; omega))) rfl (by simp [Value.oneCell']) HNI.out.1 HNI.out.2 (by first | omega | (simp; omega)) ?_; intro v4 w4 R4 hg4 hf4; obtain ⟨a4, d4, rfl⟩ := Um.form R4; have B4 : w4.heap[g]? = wc.heap[g]? := ((hg4.block g (by first | omega | (simp; omega)) (fun e => HA2.out.pg e.symm)).trans (Below.heap_alloc _ _ _ (by first | omega | (simp; omega)))); have f1 := (World.cell?_of_block (a := ⟨g, 1, none⟩) B4).trans d1; have ff : ∀ i, w4.frozen? ⟨g, i, none⟩ = false := (fun i => by have := df i; unfold World.frozen? at this ⊢; rw [B4]; exact this); clear B4; have HR4 := Lib.hid R4; have HG4 := Lib.hid hg4; have HF4 := Lib.hid hf4; clear R4 hg4 hf4))
      all_goals go_wp2
      all_goals go_end0
      all_goals
        have hq4 : Below wc.heap.size wc (wc.drew.alloc (.cells #[.int .i64 (m.out.length : Int)] 3)) := (Below.refl _ _).drew.alloc (Nat.le_refl _) _
        have hl4 : (m.opn ++ [m.out.length]).length = m.opn.length + 1 := by rw [List.length_append]; rfl
        obtain ⟨y1, y2⟩ := Pm.At.open (l := m.opn ++ [m.out.length]) HA2.out hq4 (.inl rfl) (by rw [hl4, Um.ints_append]; exact HR4.out) HG4.out (by
          rcases HF4.out with q | q
          · exact .inl q
          · exact .inr ⟨_, q, by show wc.heap.size ≤ (wc.drew.alloc _).heap.size; simp⟩)
        exact ⟨rfl, _, _, _, by rw [HX.out]; exact y1, HK2.out.trans y2⟩
    · have HX : Hid (m' = mf.node ⟨1, t.name, Ts.e, t.attrs, 0⟩) := by unfold Hid; rw [HZ.out, if_neg hq]
      by_cases q : Ts.kind t.name = 1
      · have b1 : (Ts.kind t.name != 1) = false := by rw [q]; rfl
        clear hq q
        go_wp2_with (go_at_call 36; refine (elm _).mono ?_; rintro e w' ⟨rfl, hw⟩; have hw := hw.symm; subst hw)
        go_end0
        exact ⟨rfl, _, _, _, by rw [HX.out]; exact HA2.out, HK2.out⟩
      · have b1 : (Ts.kind t.name != 1) = true := bne_iff_ne.2 q
        have b2 : decide ((32 : Int) ≤ ((m.opn.length - 1 : Nat) : Int)) = true := decide_eq_true (by omega)
        have b3 : 32 ≤ m.opn.length - 1 := by omega
        clear hq q
        go_wp2_with (go_at_call 36; refine (elm _).mono ?_; rintro e w' ⟨rfl, hw⟩; have hw := hw.symm; subst hw)
        go_end0
        exact ⟨rfl, _, _, _, by rw [HX.out]; exact HA2.out, HK2.out⟩
end Go.Proofs.Ythfobjkdcncoiaa

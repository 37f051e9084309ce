/-
  THE WALK of the reference's token: a text.
-/
import Derived.Test.YthfobjkdcncoiaaUNd
import Derived.Test.YthfobjkdcncoiaaUElem
import Derived.Test.YthfobjkdcncoiaaUMay
namespace Go.Proofs.Ythfobjkdcncoiaa
open Go.RowKit
set_option maxRecDepth 100000 in
set_option maxHeartbeats 8000000 in
theorem Um.token0 (base : Nat) (m : Bt) (t : Tk) (aa : Option Addr) (an ad : Nat) (w : World) (g : Nat) (ov pv : Value) (h : Um.At base w g m ov pv) (hok : Bt.Ok m) (hs : m.out.length ≤ 1000000) (hk : t.kind = 0) (hz : (m.nth m.last).text.size + t.text.size ≤ 9223372036854775807) :
    Calls Try.prog 23 #[.pointer (some ⟨g, 0, none⟩), .agg #[.int .i64 t.kind, .string t.name, .string t.text, .slice aa an ad, .bool t.self]] w fun e w' => e = .returned (.tuple #[]) ∧ ∃ ov' pv', Um.At base w' g (m.token t) ov' pv' ∧ Um.Kept w w' g ov pv ov' pv' := by
  have t0 : (t.kind == 0) = true := by rw [hk]; rfl
  have HT := Lib.hid hk
  have HZ := Lib.hid hz
  clear hk hz
  have hlt := h.lt
  obtain ⟨p, pd, rfl, hpd, ctop⟩ := Um.topCell h hok.opn
  obtain ⟨xs, hx⟩ := id h.out
  obtain ⟨og, od, rfl, hod, hod2⟩ := Um.form1 hx.1 hok.some
  have hp : p < w.heap.size := World.block_lt_of_cell? _ _ ctop
  have hl0 := hok.opn
  have hfew := hok.few
  have hsome := hok.some
  have n1 : w.heap.size ≠ g := by omega
  have n2 : g ≠ w.heap.size := by omega
  have hw1 : IntKind.i64.wrap ((m.opn.length : Int) - 1) = ((m.opn.length - 1 : Nat) : Int) := by rw [IntKind.wrap_i64]; omega
  have hw2 : IntKind.i64.wrap ((m.out.length : Int) - 1) = ((m.out.length - 1 : Nat) : Int) := by rw [IntKind.wrap_i64]; omega
  have hidx : m.opn.length - 1 < pd := by omega
  have hi63 : m.opn.length - 1 < m.opn.length := by omega
  have hod3 : m.out.length - 1 < od := by omega
  have ho63 : m.out.length - 1 < m.out.length := by omega
  go_enter Try.func23, Try.ntmps23
  go_upto_region 1 with fail
  obtain ⟨W, hW⟩ : ∃ W, w.alloc (.cells #[.int .i64 t.kind, .string t.name, .string t.text, .slice aa an ad, .bool t.self] 41) = W := ⟨_, rfl⟩
  have hbW : Below w.heap.size w W := by rw [← hW]; exact (Below.refl _ _).alloc (Nat.le_refl _) _
  have k0 : W.cell? ⟨w.heap.size, 0, none⟩ = some (.int .i64 t.kind) := by rw [← hW]; simp
  have k1 : W.cell? ⟨w.heap.size, 1, none⟩ = some (.string t.name) := by rw [← hW]; simp
  have k2 : W.cell? ⟨w.heap.size, 2, none⟩ = some (.string t.text) := by rw [← hW]; simp
  have k3 : W.cell? ⟨w.heap.size, 3, none⟩ = some (.slice aa an ad) := by rw [← hW]; simp
  have q1 := Tp.keep hbW h.c1
  have qt := Tp.keep hbW ctop
  have hA := h.on hbW
  rw [hW]
  have HA := Lib.hid hA
  have HBW := Lib.hid hbW
  have HW : Hid (Um.Free (.slice (some ⟨og, 0, none⟩) m.out.length od) (.slice (some ⟨p, 0, none⟩) m.opn.length pd) g w.heap.size) := ⟨n1, (fun e => by have := (h.ovLt e).2; omega), fun e => by have := (h.pvLt e).2; omega⟩
  clear hW hbW hA hx ctop
  go_quiet (fail)
  obtain ⟨V, hV⟩ : ∃ V, W.drewN nq = V := ⟨_, rfl⟩
  have hbV : Below W.heap.size W V := by rw [← hV]; exact ⟨rfl, rfl, rfl, Nat.le_refl _, fun _ _ => rfl⟩
  rw [hV]
  have hA := HA.out.on hbV
  have v0 := Tp.keep hbV k0
  have v1 := Tp.keep hbV k1
  have v2 := Tp.keep hbV k2
  have v3 := Tp.keep hbV k3
  have c0 := hA.c0
  have c1 := hA.c1
  have cf := hA.fz
  have hgV := hA.lt
  have HA := Lib.hid hA
  have HK := Lib.hid (Um.Kept.of g (.slice (some ⟨og, 0, none⟩) m.out.length od) (.slice (some ⟨p, 0, none⟩) m.opn.length pd) (HBW.out.trans (hbV.mono HBW.out.size)))
  have HBV : Hid (Below w.heap.size w V) := HBW.out.trans (hbV.mono HBW.out.size)
  clear hV hbV hA k0 k1 k2 k3 q1 qt HBW h
  obtain ⟨y, hy⟩ : ∃ y, m.out[m.out.length - 1]? = some y := ⟨_, List.getElem?_eq_getElem ho63⟩
  have HYN : Hid (m.nth m.last = y) := by unfold Hid Bt.nth Bt.last; rw [hy]; rfl
  by_cases TE : t.text.toList = []
  · have e1 : (t.text.toList == []) = true := by rw [TE]; rfl
    have e2 : t.text.toList.isEmpty = true := by rw [TE]; rfl
    have HX : Hid (m.token t = m) := by unfold Hid Bt.token; rw [if_pos HT.out, if_pos ((Um.empty _).1 TE)]
    clear hy
    go_wp2_with fail
    refine bodyPost_ret (v := .tuple #[]) (by simp [results, Try.results23, go_sem]) rfl ⟨rfl, _, _, by rw [HX.out]; exact HA.out, HK.out⟩
  have e1 : (t.text.toList == []) = false := beq_eq_false_iff_ne.2 TE
  have e2 : t.text.toList.isEmpty = false := by cases hq : t.text.toList with | nil => exact absurd hq TE | cons _ _ => rfl
  have HTE : Hid (¬ t.text = Ts.e) := fun q => TE ((Um.empty _).2 q)
  obtain ⟨avy, hcy⟩ := HA.out.out.cell hy
  have y0 : V.cell? ⟨og, (m.out.length - 1) * 5, none⟩ = some (.int .i64 y.kind) := hcy 0 _ rfl
  have y2 : V.cell? ⟨og, (m.out.length - 1) * 5 + 2, none⟩ = some (.string y.text) := hcy 2 _ rfl
  have y4 : V.cell? ⟨og, (m.out.length - 1) * 5 + 4, none⟩ = some (.int .i64 y.parent) := hcy 4 _ rfl
  have yf : ∀ j, V.frozen? ⟨og, j, none⟩ = false := by
    obtain ⟨xs, ho, _⟩ := HA.out.out
    exact fun j => ho.frozenAt j
  have HY := Lib.hid hy
  clear hy hcy
  by_cases hb : y.kind = 2 ∧ y.parent = (m.top : Int)
  · have b1 : (y.kind == 2) = true := by rw [hb.1]; rfl
    have b2 : (y.parent == (m.top : Int)) = true := by rw [hb.2]; simp
    have HX : Hid (m.token t = { m with out := m.out.set (m.out.length - 1) { y with text := y.text ++ t.text } }) := by
      unfold Hid Bt.token
      rw [if_pos HT.out, if_neg HTE.out, HYN.out, if_pos hb]
      unfold Bt.put
      rw [HYN.out]
      rfl
    have hsz : (y.text ++ t.text).size = y.text.size + t.text.size := ByteArray.size_append
    have hz2 : y.text.size + t.text.size ≤ 9223372036854775807 := by have := HZ.out; rw [HYN.out] at this; exact this
    obtain ⟨s, hs'⟩ : ∃ s : ByteArray, y.text ++ t.text = s := ⟨_, rfl⟩
    rw [hs'] at hsz HX
    clear hb
    go_upto_region 7 with fail
    go_cut [] from 53 to 70 (fun wx => Hid (wx = (V.setCell ⟨og, (m.out.length - 1) * 5 + 2, none⟩ (.string s)).drew))
    case first =>
      go_region_with (fail)
      all_goals (try go_wp2_with fail)
      all_goals go_meet
      all_goals exact Lib.hid rfl
    case rest =>
      have hA2 := (HA.out.put HY.out s).1.drew
      have hK2 := (HA.out.put HY.out s).2
      have hwc := hcut.out
      clear hcut
      subst hwc
      have HA2 := Lib.hid hA2
      have HK2 := Lib.hid ((HK.out.trans hK2).trans (Um.Kept.of g _ _ (Below.refl _ _).drew))
      clear hA2 hK2
      go_wp2_with fail
      refine bodyPost_ret (v := .tuple #[]) (by simp [results, Try.results23, go_sem]) rfl ⟨rfl, _, _, by rw [HX.out]; exact HA2.out, HK2.out⟩
  · have HX : Hid (m.token t = m.node ⟨2, Ts.e, t.text, [], 0⟩) := by unfold Hid Bt.token; rw [if_pos HT.out, if_neg HTE.out, HYN.out, if_neg hb]
    have hd : Hid ((y.kind == 2) = false ∨ ((y.kind == 2) = true ∧ (y.parent == (m.top : Int)) = false)) := by
      unfold Hid
      simp only [beq_iff_eq, beq_eq_false_iff_ne]
      omega
    have nod := Um.node base m ⟨2, Ts.e, t.text, [], 0⟩ none 0 0 V g _ _ HA.out hok hs (Ak.Lies.nil _ _)
    clear hb
    rcases hd.out with b1 | ⟨b1, b2⟩
    all_goals
      go_wp2_with (go_at_call 31; refine nod.mono ?_; rintro e w2 ⟨rfl, ov2, hA2, hK2⟩; have HA2 := Lib.hid hA2; have HK2 := Lib.hid (HK.out.trans hK2); clear nod hA2 hK2)
      go_end0
      exact ⟨rfl, _, _, by rw [HX.out]; exact HA2.out, HK2.out⟩
end Go.Proofs.Ythfobjkdcncoiaa

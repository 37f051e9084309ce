/-
  THE WALKS of the builder's innermost and endText.
-/
import Derived.Test.YthfobjkdcncoiaaWMem
import Derived.Test.YthfobjkdcncoiaaUNd
import Derived.Deep.QuietTactic
import Derived.BigQuiet
namespace Go.Proofs.Ythfobjkdcncoiaa
open Go.RowKit
theorem Pm.topCell {base : Nat} {w : World} {g : Nat} {m : Bt} {bs : ByteArray} {ov pv tv : Value} (h : Pm.At base w g m bs ov pv tv) (hn : 0 < m.opn.length) : ∃ p d, pv = .slice (some ⟨p, 0, none⟩) m.opn.length d ∧ m.opn.length ≤ d ∧ w.cell? ⟨p, m.opn.length - 1, none⟩ = some (.int .i64 (m.top : Int)) := by
  obtain ⟨p, d, e, h1, h2⟩ := Um.form1 h.opn hn
  refine ⟨p, d, e, h1, ?_⟩
  have ho := h.opn
  rw [e] at ho
  rw [ho.cellAt (m.opn.length - 1) (by omega)]
  refine Um.ints_get ?_
  unfold Bt.top
  rw [List.getLastD_eq_getLast?, List.getLast?_eq_getElem?]
  rw [List.getElem?_eq_getElem (by omega)]
  rfl
set_option maxRecDepth 100000 in
set_option maxHeartbeats 4000000 in
theorem Pg.innermost (base : Nat) (m : Bt) (bs : ByteArray) (w : World) (g : Nat) (ov pv tv : Value) (h : Pm.At base w g m bs ov pv tv) (hok : Bt.Ok m) :
    Calls Try.prog 35 #[.pointer (some ⟨g, 0, none⟩)] w fun e w' => e = .returned (.int .i64 (m.top : Int)) ∧ ∃ n, w' = w.drewN n := by
  have hl0 := hok.opn
  have hfew := hok.few
  obtain ⟨p, pd, rfl, hpd, ctop⟩ := Pm.topCell h hl0
  have c1 := h.c1
  have hw1 : IntKind.i64.wrap ((m.opn.length : Int) - 1) = ((m.opn.length - 1 : Nat) : Int) := by rw [IntKind.wrap_i64]; omega
  have hidx : m.opn.length - 1 < pd := by omega
  have hi63 : m.opn.length - 1 < m.opn.length := by omega
  clear h hok
  go_enter Try.func35, Try.ntmps35
  go_wp2_with fail
  go_quiet (fail)
  go_wp2
  go_ret
  exact ⟨rfl, _, rfl⟩
theorem Pm.bytesNil {s : ByteArray} (h : s.size = 0) : s = Ts.e := by
  apply ByteArray.ext
  exact Array.eq_empty_of_size_eq_zero h
/-- the same cell turned in two worlds, the one an earlier one of the other -/
theorem Pm.setBoth {w0 w : World} {n : Nat} (h : Below n w0 w) (a : Addr) (v : Value) : Below n (w0.setCell a v) (w.setCell a v) := by
  refine ⟨h.os, h.tape, h.output, by simpa using h.size, fun k hk => ?_⟩
  simp only [World.setCell, Array.getElem?_modify]
  rw [h.block k hk]
theorem Pm.At.flush {base : Nat} {w : World} {g : Nat} {m : Bt} {bs : ByteArray} {og od tg td : Nat} {pv : Value} (h : Pm.At base w g m bs (.slice (some ⟨og, 0, none⟩) m.out.length od) pv (.slice (some ⟨tg, 0, none⟩) bs.size td)) (h0 : ¬ bs.size = 0) (hok : Bt.Ok m) :
    Pm.At base ((w.setCell ⟨og, (m.out.length - 1) * 5 + 2, none⟩ (.string bs)).drew.setCell ⟨g, 2, none⟩ (.slice (some ⟨tg, 0, none⟩) 0 td)) g (Pb.flush m bs) Ts.e (.slice (some ⟨og, 0, none⟩) m.out.length od) pv (.slice (some ⟨tg, 0, none⟩) 0 td) ∧
    Pm.Kept w ((w.setCell ⟨og, (m.out.length - 1) * 5 + 2, none⟩ (.string bs)).drew.setCell ⟨g, 2, none⟩ (.slice (some ⟨tg, 0, none⟩) 0 td)) (Pm.Mine g (.slice (some ⟨og, 0, none⟩) m.out.length od) pv (.slice (some ⟨tg, 0, none⟩) bs.size td)) (Pm.Mine g (.slice (some ⟨og, 0, none⟩) m.out.length od) pv (.slice (some ⟨tg, 0, none⟩) 0 td)) := by
  have hsome := hok.some
  obtain ⟨y, hy⟩ : ∃ y, m.out[m.out.length - 1]? = some y := ⟨_, List.getElem?_eq_getElem (by omega)⟩
  have HF : Pb.flush m bs = { m with out := m.out.set (m.out.length - 1) { y with text := bs } } := by
    unfold Pb.flush
    rw [if_neg h0]
    unfold Bt.nth Bt.last
    rw [hy]
    rfl
  obtain ⟨p1, p2⟩ := h.put hy bs
  have hA2 := p1.on (Below.refl _ _).drew
  have hK2 := p2.trans (Pm.Kept.of _ (Below.refl _ _).drew)
  obtain ⟨z1, z2⟩ := hA2.text (bs' := Ts.e) (Below.refl _ _) (.inl rfl) (Pm.short hA2.txt 0 (Nat.zero_le _)) (World.grownBy.refl _ _) (.inl rfl)
  exact ⟨by rw [HF]; exact z1, hK2.trans z2⟩
set_option maxRecDepth 100000 in
set_option maxHeartbeats 4000000 in
theorem Pg.endText (base : Nat) (m : Bt) (bs : ByteArray) (w0 w : World) (g : Nat) (ov pv tv : Value) (hW : Below w0.heap.size w0 w) (h : Pm.At base w0 g m bs ov pv tv) (hok : Bt.Ok m) (hs : m.out.length ≤ 1000000) (hz : bs.size ≤ 140737488355328) :
    Calls Try.prog 21 #[.pointer (some ⟨g, 0, none⟩)] w fun e w' => e = .returned (.tuple #[]) ∧ ∃ w1 tv', Pm.At base w1 g (Pb.flush m bs) Ts.e ov pv tv' ∧ Pm.Kept w0 w1 (Pm.Mine g ov pv tv) (Pm.Mine g ov pv tv') ∧ w1.heap.size = w0.heap.size ∧ Below w0.heap.size w1 w' ∧ Pm.Kept w w' (Pm.Mine g ov pv tv) (Pm.Mine g ov pv tv') := by
  by_cases h0 : bs.size = 0
  · have hb := Pm.bytesNil h0
    subst hb
    obtain ⟨ta, td, rfl⟩ := Um.form h.txt
    have c2 := (h.on hW).c2
    rw [h0] at c2
    have H := Lib.hid h
    have HW := Lib.hid hW
    clear h hW
    go_enter Try.func21, Try.ntmps21
    go_wp2
    go_end0
    exact ⟨rfl, _, _, by rw [Pb.flush_none]; exact H.out, Pm.Kept.refl _ _, rfl, HW.out, Pm.Kept.refl _ _⟩
  · obtain ⟨tg, td, rfl, htd, htm⟩ := Um.form1 h.txt (by omega)
    obtain ⟨xs, hx⟩ := id (h.on hW).out
    have hsome := hok.some
    obtain ⟨og, od, rfl, hod, hod2⟩ := Um.form1 hx.1 hok.some
    obtain ⟨y, hy⟩ : ∃ y, m.out[m.out.length - 1]? = some y := ⟨_, List.getElem?_eq_getElem (by omega)⟩
    obtain ⟨avy, hcy⟩ := (h.on hW).out.cell hy
    have y2 : w.cell? ⟨og, (m.out.length - 1) * 5 + 2, none⟩ = some (.string y.text) := hcy 2 _ rfl
    have yf : ∀ j, w.frozen? ⟨og, j, none⟩ = false := fun j => hx.1.frozenAt j
    have c0 := (h.on hW).c0
    have c2 := (h.on hW).c2
    have cf := (h.on hW).fz
    have d0 : decide ((0 : Int) < (bs.size : Int)) = true := decide_eq_true (by omega)
    have d1 : 0 < bs.size := by omega
    have conv0 := Pm.conv (h.on hW).txt
    have conv1 : (convert 52 9 (.slice (some ⟨tg, 0, none⟩) bs.size td)).run Try.prog w.drew = .ok (.string bs) w.drew := Pm.conv (wr := w.drew) (h.on hW).txt
    have hw2 : IntKind.i64.wrap ((m.out.length : Int) - 1) = ((m.out.length - 1 : Nat) : Int) := by rw [IntKind.wrap_i64]; omega
    have hod3 : m.out.length - 1 < od := by omega
    have ho63 : m.out.length - 1 < m.out.length := by omega
    have hne : og ≠ g := fun e => h.og (by rw [← e]; rfl)
    have hne2 : g ≠ og := fun e => hne e.symm
    have HP := Lib.hid (Pm.At.flush h h0 hok)
    have HP2 := Lib.hid (Pm.At.flush (h.on hW) h0 hok).2
    have HBB : Hid (Below w0.heap.size ((w0.setCell ⟨og, (m.out.length - 1) * 5 + 2, none⟩ (.string bs)).drew.setCell ⟨g, 2, none⟩ (.slice (some ⟨tg, 0, none⟩) 0 td)) ((w.setCell ⟨og, (m.out.length - 1) * 5 + 2, none⟩ (.string bs)).drew.setCell ⟨g, 2, none⟩ (.slice (some ⟨tg, 0, none⟩) 0 td))) := by
      have q := Pm.setBoth hW ⟨og, (m.out.length - 1) * 5 + 2, none⟩ (.string bs)
      exact Pm.setBoth (w0 := (w0.setCell ⟨og, (m.out.length - 1) * 5 + 2, none⟩ (.string bs)).drew) (w := (w.setCell ⟨og, (m.out.length - 1) * 5 + 2, none⟩ (.string bs)).drew) ⟨q.os, q.tape, q.output, q.size, q.block⟩ _ _
    clear hcy hx hy h0 h hW
    go_enter Try.func21, Try.ntmps21
    go_upto_region 1 with fail
    go_cut [] from 8 to 24 (fun wx => Hid (wx = (w.setCell ⟨og, (m.out.length - 1) * 5 + 2, none⟩ (.string bs)).drew))
    case first =>
      go_region_with (fail)
      all_goals (try go_wp2_with fail)
      all_goals go_meet
      all_goals exact Lib.hid rfl
    case rest =>
      have hwc := hcut.out
      have e2 : wc.cell? ⟨g, 2, none⟩ = some (.slice (some ⟨tg, 0, none⟩) bs.size td) := by
        rw [hwc]
        show (w.setCell ⟨og, (m.out.length - 1) * 5 + 2, none⟩ (.string bs)).cell? ⟨g, 2, none⟩ = _
        rw [World.cell?_setCell_other _ _ _ _ (fun e => by injection e with e1; exact hne e1)]
        exact c2
      have ef : ∀ i, wc.frozen? ⟨g, i, none⟩ = false := fun i => by
        rw [hwc]
        show (w.setCell ⟨og, (m.out.length - 1) * 5 + 2, none⟩ (.string bs)).frozen? ⟨g, i, none⟩ = _
        rw [World.frozen?_setCell]
        exact cf i
      have HWC := Lib.hid hwc
      clear hcut hwc c2 cf c0
      go_wp2
      go_end0
      refine ⟨rfl, _, _, HP.out.1, HP.out.2, by simp, ?_, ?_⟩
      · rw [HWC.out]; exact HBB.out
      · rw [HWC.out]; exact HP2.out
end Go.Proofs.Ythfobjkdcncoiaa

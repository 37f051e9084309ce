/-
  THE WALK of the builder's end.
-/
import Derived.Test.YthfobjkdcncoiaaWInner
import Derived.Test.YthfobjkdcncoiaaUMay
namespace Go.Proofs.Ythfobjkdcncoiaa
open Go.RowKit
set_option maxRecDepth 100000 in
set_option maxHeartbeats 4000000 in
theorem Pg.end (base : Nat) (m : Bt) (bs nm : ByteArray) (w : World) (g : Nat) (ov pv tv : Value) (h : Pm.At base w g m bs ov pv tv) (hok : Bt.Ok m) (_hs : m.out.length ≤ 1000000) (m' : Bt) (hZ : m' = if m.find nm m.opn.length = 0 then m else { m with opn := m.opn.take (m.find nm m.opn.length) }) :
    Calls Try.prog 30 #[.pointer (some ⟨g, 0, none⟩), .string nm] w fun e w' => e = .returned (.tuple #[]) ∧ ∃ pv', Pm.At base w' g m' bs ov pv' tv ∧ Pm.Kept w w' (Pm.Mine g ov pv tv) (Pm.Mine g ov pv' tv) := by
  obtain ⟨p, pd, rfl, hpd, ctop⟩ := Pm.topCell h hok.opn
  obtain ⟨xs, hx⟩ := id h.out
  obtain ⟨og, od, rfl, hod, hod2⟩ := Um.form1 hx.1 hok.some
  have hl0 := hok.opn
  have hfew := hok.few
  have hsome := hok.some
  have hw1 : IntKind.i64.wrap ((m.opn.length : Int) - 1) = ((m.opn.length - 1 : Nat) : Int) := by rw [IntKind.wrap_i64]; omega
  have c0 := h.c0
  have c1 := h.c1
  have cf := h.fz
  have HA := Lib.hid h
  have HOP := Lib.hid h.opn
  have HLT := Lib.hid hok.lt
  have HZ := Lib.hid hZ
  clear h hx ctop hZ hok
  go_enter Try.func30, Try.ntmps30
  go_wp2_with fail
  go_loopw [4] (fun ix wr => ∃ i n : Nat, i < m.opn.length ∧ ix = .int .i64 (i : Int) ∧ Hid (m.find nm m.opn.length = m.find nm (i + 1)) ∧ wr = w.drewN n) (fun ix _ => (intOf ix).toNat)
  case atStart => exact ⟨m.opn.length - 1, 0, by omega, by first | rfl | go_num, (by unfold Hid; rw [show m.opn.length - 1 + 1 = m.opn.length by omega]), rfl⟩
  case round =>
    obtain ⟨i, n, hi, rfl, HI, rfl⟩ := hrel
    by_cases h0 : 0 < i
    · have d0 : decide ((0 : Int) < (i : Int)) = true := decide_eq_true (by omega)
      obtain ⟨q, hq⟩ : ∃ q, m.opn[i]? = some q := ⟨_, List.getElem?_eq_getElem hi⟩
      have hqlt : q < m.out.length := HLT.out q (List.mem_of_getElem? hq)
      have cq : w.cell? ⟨p, i, none⟩ = some (.int .i64 (q : Int)) := by
        rw [HOP.out.cellAt i (by omega)]
        exact Um.ints_get hq
      obtain ⟨y, hy⟩ : ∃ y, m.out[q]? = some y := ⟨_, List.getElem?_eq_getElem hqlt⟩
      obtain ⟨avy, hcy⟩ := HA.out.out.cell hy
      have cn : w.cell? ⟨og, q * 5 + 1, none⟩ = some (.string y.name) := hcy 1 _ rfl
      have HYN : Hid ((m.nth (m.opn.getD i 0)).name = y.name) := by
        unfold Hid Bt.nth
        rw [List.getD_eq_getElem?_getD, hq]
        show (m.out[q]?.getD Nd.zero).name = _
        rw [hy]
        rfl
      have hipd : i < pd := by omega
      have hqod : q < od := by omega
      clear hcy hy hq
      by_cases hn : y.name = nm
      · have HF : Hid (m.find nm m.opn.length = i) := by
          unfold Hid
          rw [HI.out]
          unfold Bt.find
          rw [if_neg (by omega), if_pos (HYN.out.trans hn)]
        have HX : Hid (m' = { m with opn := m.opn.take i }) := by unfold Hid; rw [HZ.out, HF.out, if_neg (by omega)]
        rw [hn] at cn
        have e1 : (nm.toList == nm.toList) = true := by simp
        have HBU : Hid (∀ k1 k2, Below w.heap.size w ((w.drewN k1).drewN k2)) := fun _ _ => ⟨rfl, rfl, rfl, Nat.le_refl _, fun _ _ => rfl⟩
        clear hn
        go_wp2_with fail
        go_quiet (fail)
        obtain ⟨U, hU⟩ : ∃ U, (w.drewN n).drewN nq = U := ⟨_, rfl⟩
        have hbU : Below w.heap.size w U := by rw [← hU]; exact HBU.out n nq
        rw [hU]
        have hAU := HA.out.on hbU
        have u1 := hAU.c1
        have uf := hAU.fz
        have hl4 : (m.opn.take i).length = i := by rw [List.length_take]; omega
        have R4 : U.ownsRow base 3 1 (.slice (some ⟨p, 0, none⟩) i pd) (m.opn.take i).length (Um.ints (m.opn.take i)) := by
          rw [hl4]
          have := Pm.short hAU.opn i (by omega)
          unfold Um.ints at this ⊢
          rw [List.map_take]
          exact this
        obtain ⟨y1, y2⟩ := Pm.At.open (l := m.opn.take i) hAU (Below.refl _ _) (.inl rfl) R4 (World.grownBy.refl _ _) (.inl rfl)
        have HY1 := Lib.hid y1
        have HY2 := Lib.hid ((Pm.Kept.of _ hbU).trans y2)
        have hipd2 : i ≤ pd := by omega
        clear hU hbU hAU R4 y1 y2 cq cn HYN c0 c1 cf hl4
        go_wp2
        refine bodyPost_ret (v := .tuple #[]) (by simp [results, Try.results30, go_sem]) rfl ⟨rfl, _, by rw [HX.out]; exact HY1.out, HY2.out⟩
      · have e1 := Um.toList_ne hn
        have HI2 : Hid (m.find nm m.opn.length = m.find nm (i - 1 + 1)) := by
          unfold Hid
          rw [HI.out]
          conv => lhs; unfold Bt.find
          rw [if_neg (by omega), if_neg (by rw [HYN.out]; exact hn), show i - 1 + 1 = i by omega]
        have hw3 : IntKind.i64.wrap ((i : Int) - 1) = ((i - 1 : Nat) : Int) := by rw [IntKind.wrap_i64]; omega
        clear hn HYN
        go_wp2_with fail
        go_quiet (fail)
        go_wp2
        go_roundw
        case rel => exact ⟨i - 1, _, by omega, by first | rfl | go_num, HI2, rfl⟩
        case measure => simp [intOf]; omega
    · have d0 : decide ((0 : Int) < (i : Int)) = false := decide_eq_false (by omega)
      have hi0 : i = 0 := by omega
      have HX : Hid (m' = m) := by
        unfold Hid
        rw [HZ.out, HI.out, hi0]
        exact if_pos rfl
      have HA3 := Lib.hid (HA.out.on (w' := w.drewN n) ⟨rfl, rfl, rfl, Nat.le_refl _, fun _ _ => rfl⟩)
      have HK3 := Lib.hid (Pm.Kept.of (w := w) (w1 := w.drewN n) (Pm.Mine g (.slice (some ⟨og, 0, none⟩) m.out.length od) (.slice (some ⟨p, 0, none⟩) m.opn.length pd) tv) ⟨rfl, rfl, rfl, Nat.le_refl _, fun _ _ => rfl⟩)
      clear hi0
      go_wp2
      go_end0
      exact ⟨rfl, _, by rw [HX.out]; exact HA3.out, HK3.out⟩
end Go.Proofs.Ythfobjkdcncoiaa

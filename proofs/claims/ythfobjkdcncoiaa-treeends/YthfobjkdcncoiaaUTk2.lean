/-
  THE WALK of the reference's token: an end.
-/
import Derived.Test.YthfobjkdcncoiaaUNd
import Derived.Test.YthfobjkdcncoiaaUElem
import Derived.Test.YthfobjkdcncoiaaUMay
import Derived.Test.YthfobjkdcncoiaaUCopy
namespace Go.Proofs.Ythfobjkdcncoiaa
open Go.RowKit
set_option maxRecDepth 100000 in
set_option maxHeartbeats 8000000 in
theorem Um.token2 (base : Nat) (m : Bt) (t : Tk) (aa : Option Addr) (an ad : Nat) (w : World) (g : Nat) (ov pv : Value) (h : Um.At base w g m ov pv) (hok : Bt.Ok m) (hs : m.out.length ≤ 1000000) (hk : t.kind = 2) :
    Calls Try.prog 23 #[.pointer (some ⟨g, 0, none⟩), .agg #[.int .i64 t.kind, .string t.name, .string t.text, .slice aa an ad, .bool t.self]] w fun e w' => e = .returned (.tuple #[]) ∧ ∃ ov' pv', Um.At base w' g (m.token t) ov' pv' ∧ Um.Kept w w' g ov pv ov' pv' := by
  have t0 : (t.kind == 0) = false := by rw [hk]; rfl
  have t3 : (t.kind == 3) = false := by rw [hk]; rfl
  have t1 : (t.kind == 1) = false := by rw [hk]; rfl
  have t2 : (t.kind == 2) = true := by rw [hk]; rfl
  have HT : Hid (m.token t = if m.find t.name m.opn.length = 0 then m else { m with opn := m.opn.take (m.find t.name m.opn.length) }) := by unfold Hid Bt.token; rw [if_neg (by rw [hk]; decide), if_neg (by rw [hk]; decide), if_neg (by rw [hk]; decide), if_pos hk]
  clear hk
  have hlt := h.lt
  obtain ⟨p, pd, rfl, hpd, ctop⟩ := Um.topCell h hok.opn
  obtain ⟨xs, hx⟩ := id h.out
  obtain ⟨og, od, rfl, hod, hod2⟩ := Um.form1 hx.1 hok.some
  have hp : p < w.heap.size := World.block_lt_of_cell? _ _ ctop
  have hl0 := hok.opn
  have hfew := hok.few
  have hsome := hok.some
  have n1 : w.heap.size ≠ g := by omega
  have n2 : g ≠ w.heap.size := by omega
  have hw1 : IntKind.i64.wrap ((m.opn.length : Int) - 1) = ((m.opn.length - 1 : Nat) : Int) := by rw [IntKind.wrap_i64]; omega
  have hw2 : IntKind.i64.wrap ((m.out.length : Int) - 1) = ((m.out.length - 1 : Nat) : Int) := by rw [IntKind.wrap_i64]; omega
  have hidx : m.opn.length - 1 < pd := by omega
  have hi63 : m.opn.length - 1 < m.opn.length := by omega
  have hod3 : m.out.length - 1 < od := by omega
  have ho63 : m.out.length - 1 < m.out.length := by omega
  go_enter Try.func23, Try.ntmps23
  go_upto_region 1 with fail
  obtain ⟨W, hW⟩ : ∃ W, w.alloc (.cells #[.int .i64 t.kind, .string t.name, .string t.text, .slice aa an ad, .bool t.self] 41) = W := ⟨_, rfl⟩
  have hbW : Below w.heap.size w W := by rw [← hW]; exact (Below.refl _ _).alloc (Nat.le_refl _) _
  have k0 : W.cell? ⟨w.heap.size, 0, none⟩ = some (.int .i64 t.kind) := by rw [← hW]; simp
  have k1 : W.cell? ⟨w.heap.size, 1, none⟩ = some (.string t.name) := by rw [← hW]; simp
  have k2 : W.cell? ⟨w.heap.size, 2, none⟩ = some (.string t.text) := by rw [← hW]; simp
  have k3 : W.cell? ⟨w.heap.size, 3, none⟩ = some (.slice aa an ad) := by rw [← hW]; simp
  have q1 := Tp.keep hbW h.c1
  have qt := Tp.keep hbW ctop
  have hA := h.on hbW
  rw [hW]
  have HA := Lib.hid hA
  have HBW := Lib.hid hbW
  have HW : Hid (Um.Free (.slice (some ⟨og, 0, none⟩) m.out.length od) (.slice (some ⟨p, 0, none⟩) m.opn.length pd) g w.heap.size) := ⟨n1, (fun e => by have := (h.ovLt e).2; omega), fun e => by have := (h.pvLt e).2; omega⟩
  clear hW hbW hA hx ctop
  go_quiet (fail)
  obtain ⟨V, hV⟩ : ∃ V, W.drewN nq = V := ⟨_, rfl⟩
  have hbV : Below W.heap.size W V := by rw [← hV]; exact ⟨rfl, rfl, rfl, Nat.le_refl _, fun _ _ => rfl⟩
  rw [hV]
  have hA := HA.out.on hbV
  have v0 := Tp.keep hbV k0
  have v1 := Tp.keep hbV k1
  have v2 := Tp.keep hbV k2
  have v3 := Tp.keep hbV k3
  have c0 := hA.c0
  have c1 := hA.c1
  have cf := hA.fz
  have hgV := hA.lt
  have HA := Lib.hid hA
  have HK := Lib.hid (Um.Kept.of g (.slice (some ⟨og, 0, none⟩) m.out.length od) (.slice (some ⟨p, 0, none⟩) m.opn.length pd) (HBW.out.trans (hbV.mono HBW.out.size)))
  have HBV : Hid (Below w.heap.size w V) := HBW.out.trans (hbV.mono HBW.out.size)
  clear hV hbV hA k0 k1 k2 k3 q1 qt HBW h
  have HOP := Lib.hid HA.out.opn
  have HLT := Lib.hid hok.lt
  have hgsV : w.heap.size < V.heap.size := World.block_lt_of_cell? _ _ v1
  go_wp2_with fail
  go_loopw [6] (fun ix wr => ∃ i n : Nat, i < m.opn.length ∧ ix = .int .i64 (i : Int) ∧ Hid (m.find t.name m.opn.length = m.find t.name (i + 1)) ∧ wr = V.drewN n) (fun ix _ => (intOf ix).toNat)
  case atStart => exact ⟨m.opn.length - 1, 0, by omega, by first | rfl | go_num, (by unfold Hid; rw [show m.opn.length - 1 + 1 = m.opn.length by omega]), rfl⟩
  case round =>
    obtain ⟨i, n, hi, rfl, HI, rfl⟩ := hrel
    by_cases h0 : 0 < i
    · have d0 : decide ((0 : Int) < (i : Int)) = true := decide_eq_true (by omega)
      obtain ⟨q, hq⟩ : ∃ q, m.opn[i]? = some q := ⟨_, List.getElem?_eq_getElem hi⟩
      have hqlt : q < m.out.length := HLT.out q (List.mem_of_getElem? hq)
      have cq : V.cell? ⟨p, i, none⟩ = some (.int .i64 (q : Int)) := by
        rw [HOP.out.cellAt i (by omega)]
        exact Um.ints_get hq
      obtain ⟨y, hy⟩ : ∃ y, m.out[q]? = some y := ⟨_, List.getElem?_eq_getElem hqlt⟩
      obtain ⟨avy, hcy⟩ := HA.out.out.cell hy
      have cn : V.cell? ⟨og, q * 5 + 1, none⟩ = some (.string y.name) := hcy 1 _ rfl
      have HYN : Hid ((m.nth (m.opn.getD i 0)).name = y.name) := by
        unfold Hid Bt.nth
        rw [List.getD_eq_getElem?_getD, hq]
        show (m.out[q]?.getD Nd.zero).name = _
        rw [hy]
        rfl
      have hipd : i < pd := by omega
      have hqod : q < od := by omega
      clear hcy hy hq
      by_cases hn : y.name = t.name
      · have HF : Hid (m.find t.name m.opn.length = i) := by
          unfold Hid
          rw [HI.out]
          unfold Bt.find
          rw [if_neg (by omega), if_pos (HYN.out.trans hn)]
        have HX : Hid (m.token t = { m with opn := m.opn.take i }) := by unfold Hid; rw [HT.out, HF.out, if_neg (by omega)]
        rw [hn] at cn
        have e1 : (t.name.toList == t.name.toList) = true := by simp
        have HBU : Hid (∀ k1 k2, Below V.heap.size V ((V.drewN k1).drewN k2)) := fun _ _ => ⟨rfl, rfl, rfl, Nat.le_refl _, fun _ _ => rfl⟩
        clear hn
        go_wp2_with fail
        go_quiet (fail)
        obtain ⟨U, hU⟩ : ∃ U, (V.drewN n).drewN nq = U := ⟨_, rfl⟩
        have hbU : Below V.heap.size V U := by rw [← hU]; exact HBU.out n nq
        rw [hU]
        have hAU := HA.out.on hbU
        have u1 := hAU.c1
        have uf := hAU.fz
        have hgU := hAU.lt
        have hbsU : base ≤ U.heap.size := Nat.le_trans hAU.ge (Nat.le_of_lt hgU)
        have n7 : U.heap.size ≠ g := by omega
        have n8 : g ≠ U.heap.size := by omega
        have hpU := (hAU.pvLt (k := p) rfl).2
        have HAU := Lib.hid hAU
        have HKU := Lib.hid (HK.out.trans (Um.Kept.of g _ _ hbU))
        have HKC : Hid (∀ o j y, (Um.ints (m.opn.take i))[j]? = some y → ∃ b, some (⟨p, 0, none⟩ : Addr) = some b ∧ (U.alloc o).cell? (b.add j) = some y) := fun o j y hj => by
          refine ⟨_, rfl, ?_⟩
          rw [Ro.add, Nat.zero_add, World.cell?_alloc_lt _ _ _ hpU]
          have hjl : j < i := by
            have := (List.getElem?_eq_some_iff.1 hj).1
            rw [Um.ints_length, List.length_take] at this
            omega
          rw [hAU.opn.cellAt j (by omega), ← hj]
          unfold Um.ints
          rw [List.getElem?_map, List.getElem?_map, List.getElem?_take, if_pos hjl]
        have HLN : Hid ((Um.ints (m.opn.take i)).length = i * 1) := by unfold Hid; rw [Um.ints_length, List.length_take]; omega
        clear hU hbU hAU cq cn HYN c0 c1 cf
        go_wp2_with (at_builtin; refine Um.copy rfl _ _ 39 3 1 8 _ rfl Try.underlying39 Um.infoI rfl (by decide) (base := base) U.heap.size rfl (Um.noInts U base hbsU) i (Um.ints (m.opn.take i)) (some ⟨p, 0, none⟩) pd rfl (HKC.out _) HLN.out (Um.ints_one _) (by unfold maxLen; omega) (by omega) (by simp; omega) ?_)
        intro v4 w4 R4 hg4 hf4
        obtain ⟨a4, d4, rfl⟩ := Um.form R4
        have hq4 : Below U.heap.size U (U.alloc (.cells #[] 3)) := (Below.refl _ _).alloc (Nat.le_refl _) _
        have hl4 : (m.opn.take i).length = i := by rw [List.length_take]; omega
        obtain ⟨y1, y2⟩ := Um.At.open (l := m.opn.take i) HAU.out hq4 (.inr ⟨_, rfl, Nat.le_refl _⟩) (by rw [hl4]; exact R4) hg4 (by
          rcases hf4 with q | q
          · exact .inr ⟨_, q, Nat.le_refl _⟩
          · exact .inr ⟨_, q, by simp⟩)
        have B4 : w4.heap[g]? = U.heap[g]? := (hg4.block g (by simp; omega) (fun e => by have := Option.some.inj e; omega)).trans (Below.heap_alloc _ _ _ hgU)
        have f1 := (World.cell?_of_block (a := ⟨g, 1, none⟩) B4).trans u1
        have ff : ∀ i, w4.frozen? ⟨g, i, none⟩ = false := fun i => by
          have := uf i
          unfold World.frozen? at this ⊢
          rw [B4]
          exact this
        have HY1 := Lib.hid y1
        have HY2 := Lib.hid (HKU.out.trans y2)
        clear R4 hg4 hf4 hq4 hl4 y1 y2 B4 u1 uf
        go_wp2
        refine bodyPost_ret (v := .tuple #[]) (by simp [results, Try.results23, go_sem]) rfl ⟨rfl, _, _, by rw [HX.out]; exact HY1.out, HY2.out⟩
      · have e1 := Um.toList_ne hn
        have HI2 : Hid (m.find t.name m.opn.length = m.find t.name (i - 1 + 1)) := by
          unfold Hid
          rw [HI.out]
          conv => lhs; unfold Bt.find
          rw [if_neg (by omega), if_neg (by rw [HYN.out]; exact hn), show i - 1 + 1 = i by omega]
        have hw3 : IntKind.i64.wrap ((i : Int) - 1) = ((i - 1 : Nat) : Int) := by rw [IntKind.wrap_i64]; omega
        clear hn HYN
        go_wp2_with fail
        go_quiet (fail)
        go_wp2
        go_roundw
        case rel => exact ⟨i - 1, _, by omega, by first | rfl | go_num, HI2, rfl⟩
        case measure => simp [intOf]; omega
    · have d0 : decide ((0 : Int) < (i : Int)) = false := decide_eq_false (by omega)
      have hi0 : i = 0 := by omega
      have HX : Hid (m.token t = m) := by
        unfold Hid
        rw [HT.out, HI.out, hi0]
        exact if_pos rfl
      have HA3 := Lib.hid (HA.out.on (w' := V.drewN n) ⟨rfl, rfl, rfl, Nat.le_refl _, fun _ _ => rfl⟩)
      have HK3 := Lib.hid (HK.out.trans (Um.Kept.of (w1 := V.drewN n) g _ _ ⟨rfl, rfl, rfl, Nat.le_refl _, fun _ _ => rfl⟩))
      clear hi0
      go_wp2
      go_end0
      exact ⟨rfl, _, _, by rw [HX.out]; exact HA3.out, HK3.out⟩
end Go.Proofs.Ythfobjkdcncoiaa

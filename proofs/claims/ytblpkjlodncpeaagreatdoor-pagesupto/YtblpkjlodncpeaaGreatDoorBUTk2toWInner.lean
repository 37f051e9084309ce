/-
  THE WALK of the reference's token: an end.
-/
import Derived.Test.YtblpkjlodncpeaaGreatDoorBUNdtoUMay
import Derived.Test.YtblpkjlodncpeaaGreatDoorBTToktoUTk1
import Derived.Test.YtblpkjlodncpeaaGreatDoorBUCopytoTDec
import Derived.Test.YtblpkjlodncpeaaGreatDoorBNMaytoWPlain
import Derived.Test.YtblpkjlodncpeaaGreatDoorBKParsetoTSc8
import Derived.Deep.QuietTactic
import Derived.BigQuiet
namespace Go.Proofs.YtblpkjlodncpeaaGreatDoor
open Go.RowKit
set_option maxRecDepth 100000 in
set_option maxHeartbeats 8000000 in
theorem Um.token2 (base : Nat) (m : Bt) (t : Tk) (aa : Option Addr) (an ad : Nat) (w : World) (g : Nat) (ov pv : Value) (h : Um.At base w g m ov pv) (hok : Bt.Ok m) (hs : m.out.length ≤ 1000000) (hk : t.kind = 2) :
  Calls Tryz.prog 46 #[.pointer (some ⟨g, 0, none⟩), .agg #[.int .i64 t.kind, .string t.name, .string t.text, .slice aa an ad, .bool t.self]] w fun e w' => e = .returned (.tuple #[]) ∧ ∃ ov' pv', Um.At base w' g (m.token t) ov' pv' ∧ Um.Kept w w' g ov pv ov' pv' := by
 have t0 : (t.kind == 0) = false := by rw [hk]; rfl
 have t3 : (t.kind == 3) = false := by rw [hk]; rfl
 have t1 : (t.kind == 1) = false := by rw [hk]; rfl
 have t2 : (t.kind == 2) = true := by rw [hk]; rfl
 have HT : Hid (m.token t = if m.find t.name m.opn.length = 0 then m else { m with opn := m.opn.take (m.find t.name m.opn.length) }) := by unfold Hid Bt.token; rw [if_neg (by rw [hk]; decide), if_neg (by rw [hk]; decide), if_neg (by rw [hk]; decide), if_pos hk]
 clear hk
 have hlt := h.lt
 obtain ⟨p, pd, rfl, hpd, ctop⟩ := Um.topCell h hok.opn
 obtain ⟨xs, hx⟩ := id h.out
 obtain ⟨og, od, rfl, hod, hod2⟩ := Um.form1 hx.1 hok.some
 have hp : p < w.heap.size := World.block_lt_of_cell? _ _ ctop
 have hl0 := hok.opn
 have hfew := hok.few
 have hsome := hok.some
 have n1 : w.heap.size ≠ g := by omega
 have n2 : g ≠ w.heap.size := by omega
 have hw1 : IntKind.i64.wrap ((m.opn.length : Int) - 1) = ((m.opn.length - 1 : Nat) : Int) := by rw [IntKind.wrap_i64]; omega
 have hw2 : IntKind.i64.wrap ((m.out.length : Int) - 1) = ((m.out.length - 1 : Nat) : Int) := by rw [IntKind.wrap_i64]; omega
 have hidx : m.opn.length - 1 < pd := by omega
 have hi63 : m.opn.length - 1 < m.opn.length := by omega
 have hod3 : m.out.length - 1 < od := by omega
 have ho63 : m.out.length - 1 < m.out.length := by omega
 go_enter Tryz.func46, Tryz.ntmps46
 go_upto_region 1 with fail
 obtain ⟨W, hW⟩ : ∃ W, w.alloc (.cells #[.int .i64 t.kind, .string t.name, .string t.text, .slice aa an ad, .bool t.self] 84) = W := ⟨_, rfl⟩
 have hbW : Below w.heap.size w W := by rw [← hW]; exact (Below.refl _ _).alloc (Nat.le_refl _) _
 have k0 : W.cell? ⟨w.heap.size, 0, none⟩ = some (.int .i64 t.kind) := by rw [← hW]; simp
 have k1 : W.cell? ⟨w.heap.size, 1, none⟩ = some (.string t.name) := by rw [← hW]; simp
 have k2 : W.cell? ⟨w.heap.size, 2, none⟩ = some (.string t.text) := by rw [← hW]; simp
 have k3 : W.cell? ⟨w.heap.size, 3, none⟩ = some (.slice aa an ad) := by rw [← hW]; simp
 have q1 := Tp.keep hbW h.c1
 have qt := Tp.keep hbW ctop
 have hA := h.on hbW
 rw [hW]
 have HA := Lib.hid hA
 have HBW := Lib.hid hbW
 have HW : Hid (Um.Free (.slice (some ⟨og, 0, none⟩) m.out.length od) (.slice (some ⟨p, 0, none⟩) m.opn.length pd) g w.heap.size) := ⟨n1, (fun e => by have := (h.ovLt e).2; omega), fun e => by have := (h.pvLt e).2; omega⟩
 clear hW hbW hA hx ctop
 go_quiet (fail)
 obtain ⟨V, hV⟩ : ∃ V, W.drewN nq = V := ⟨_, rfl⟩
 have hbV : Below W.heap.size W V := by rw [← hV]; exact ⟨rfl, rfl, rfl, Nat.le_refl _, fun _ _ => rfl⟩
 rw [hV]
 have hA := HA.out.on hbV
 have v0 := Tp.keep hbV k0
 have v1 := Tp.keep hbV k1
 have v2 := Tp.keep hbV k2
 have v3 := Tp.keep hbV k3
 have c0 := hA.c0
 have c1 := hA.c1
 have cf := hA.fz
 have hgV := hA.lt
 have HA := Lib.hid hA
 have HK := Lib.hid (Um.Kept.of g (.slice (some ⟨og, 0, none⟩) m.out.length od) (.slice (some ⟨p, 0, none⟩) m.opn.length pd) (HBW.out.trans (hbV.mono HBW.out.size)))
 have HBV : Hid (Below w.heap.size w V) := HBW.out.trans (hbV.mono HBW.out.size)
 clear hV hbV hA k0 k1 k2 k3 q1 qt HBW h
 have HOP := Lib.hid HA.out.opn
 have HLT := Lib.hid hok.lt
 have hgsV : w.heap.size < V.heap.size := World.block_lt_of_cell? _ _ v1
 go_wp2_with fail
 go_loopw [6] (fun ix wr => ∃ i n : Nat, i < m.opn.length ∧ ix = .int .i64 (i : Int) ∧ Hid (m.find t.name m.opn.length = m.find t.name (i + 1)) ∧ wr = V.drewN n) (fun ix _ => (intOf ix).toNat)
 case atStart => exact ⟨m.opn.length - 1, 0, by omega, by first | rfl | go_num, (by unfold Hid; rw [show m.opn.length - 1 + 1 = m.opn.length by omega]), rfl⟩
 case round =>
  obtain ⟨i, n, hi, rfl, HI, rfl⟩ := hrel
  by_cases h0 : 0 < i
  ·
   have d0 : decide ((0 : Int) < (i : Int)) = true := decide_eq_true (by omega)
   obtain ⟨q, hq⟩ : ∃ q, m.opn[i]? = some q := ⟨_, List.getElem?_eq_getElem hi⟩
   have hqlt : q < m.out.length := HLT.out q (List.mem_of_getElem? hq)
   have cq : V.cell? ⟨p, i, none⟩ = some (.int .i64 (q : Int)) := by
    rw [HOP.out.cellAt i (by omega)]
    exact Um.ints_get hq
   obtain ⟨y, hy⟩ : ∃ y, m.out[q]? = some y := ⟨_, List.getElem?_eq_getElem hqlt⟩
   obtain ⟨avy, hcy⟩ := HA.out.out.cell hy
   have cn : V.cell? ⟨og, q * 5 + 1, none⟩ = some (.string y.name) := hcy 1 _ rfl
   have HYN : Hid ((m.nth (m.opn.getD i 0)).name = y.name) := by
    unfold Hid Bt.nth
    rw [List.getD_eq_getElem?_getD, hq]
    show (m.out[q]?.getD Nd.zero).name = _
    rw [hy]
    rfl
   have hipd : i < pd := by omega
   have hqod : q < od := by omega
   clear hcy hy hq
   by_cases hn : y.name = t.name
   ·
    have HF : Hid (m.find t.name m.opn.length = i) := by
     unfold Hid
     rw [HI.out]
     unfold Bt.find
     rw [if_neg (by omega), if_pos (HYN.out.trans hn)]
    have HX : Hid (m.token t = { m with opn := m.opn.take i }) := by unfold Hid; rw [HT.out, HF.out, if_neg (by omega)]
    rw [hn] at cn
    have e1 : (t.name.toList == t.name.toList) = true := by simp
    have HBU : Hid (∀ k1 k2, Below V.heap.size V ((V.drewN k1).drewN k2)) := fun _ _ => ⟨rfl, rfl, rfl, Nat.le_refl _, fun _ _ => rfl⟩
    clear hn
    go_wp2_with fail
    go_quiet (fail)
    obtain ⟨U, hU⟩ : ∃ U, (V.drewN n).drewN nq = U := ⟨_, rfl⟩
    have hbU : Below V.heap.size V U := by rw [← hU]; exact HBU.out n nq
    rw [hU]
    have hAU := HA.out.on hbU
    have u1 := hAU.c1
    have uf := hAU.fz
    have hgU := hAU.lt
    have hbsU : base ≤ U.heap.size := Nat.le_trans hAU.ge (Nat.le_of_lt hgU)
    have n7 : U.heap.size ≠ g := by omega
    have n8 : g ≠ U.heap.size := by omega
    have hpU := (hAU.pvLt (k := p) rfl).2
    have HAU := Lib.hid hAU
    have HKU := Lib.hid (HK.out.trans (Um.Kept.of g _ _ hbU))
    have HKC : Hid (∀ o j y, (Um.ints (m.opn.take i))[j]? = some y → ∃ b, some (⟨p, 0, none⟩ : Addr) = some b ∧ (U.alloc o).cell? (b.add j) = some y) := fun o j y hj => by
     refine ⟨_, rfl, ?_⟩
     rw [Ro.add, Nat.zero_add, World.cell?_alloc_lt _ _ _ hpU]
     have hjl : j < i := by
      have := (List.getElem?_eq_some_iff.1 hj).1
      rw [Um.ints_length, List.length_take] at this
      omega
     rw [hAU.opn.cellAt j (by omega), ← hj]
     unfold Um.ints
     rw [List.getElem?_map, List.getElem?_map, List.getElem?_take, if_pos hjl]
    have HLN : Hid ((Um.ints (m.opn.take i)).length = i * 1) := by unfold Hid; rw [Um.ints_length, List.length_take]; omega
    clear hU hbU hAU cq cn HYN c0 c1 cf
    go_wp2_with (at_builtin; refine Um.copy rfl _ _ 52 3 1 8 _ rfl Tryz.underlying52 Um.infoI rfl (by decide) (base := base) U.heap.size rfl (Um.noInts U base hbsU) i (Um.ints (m.opn.take i)) (some ⟨p, 0, none⟩) pd rfl (HKC.out _) HLN.out (Um.ints_one _) (by unfold maxLen; omega) (by omega) (by simp; omega) ?_)
    intro v4 w4 R4 hg4 hf4
    obtain ⟨a4, d4, rfl⟩ := Um.form R4
    have hq4 : Below U.heap.size U (U.alloc (.cells #[] 3)) := (Below.refl _ _).alloc (Nat.le_refl _) _
    have hl4 : (m.opn.take i).length = i := by rw [List.length_take]; omega
    obtain ⟨y1, y2⟩ := Um.At.open (l := m.opn.take i) HAU.out hq4 (.inr ⟨_, rfl, Nat.le_refl _⟩) (by rw [hl4]; exact R4) hg4 (by
     rcases hf4 with q | q
     ·
      exact .inr ⟨_, q, Nat.le_refl _⟩
     ·
      exact .inr ⟨_, q, by simp⟩)
    have B4 : w4.heap[g]? = U.heap[g]? := (hg4.block g (by simp; omega) (fun e => by have := Option.some.inj e; omega)).trans (Below.heap_alloc _ _ _ hgU)
    have f1 := (World.cell?_of_block (a := ⟨g, 1, none⟩) B4).trans u1
    have ff : ∀ i, w4.frozen? ⟨g, i, none⟩ = false := fun i => by
     have := uf i
     unfold World.frozen? at this ⊢
     rw [B4]
     exact this
    have HY1 := Lib.hid y1
    have HY2 := Lib.hid (HKU.out.trans y2)
    clear R4 hg4 hf4 hq4 hl4 y1 y2 B4 u1 uf
    go_wp2
    refine bodyPost_ret (v := .tuple #[]) (by simp [results, Tryz.results46, go_sem]) rfl ⟨rfl, _, _, by rw [HX.out]; exact HY1.out, HY2.out⟩
   ·
    have e1 := Um.toList_ne hn
    have HI2 : Hid (m.find t.name m.opn.length = m.find t.name (i - 1 + 1)) := by
     unfold Hid
     rw [HI.out]
     conv => lhs; unfold Bt.find
     rw [if_neg (by omega), if_neg (by rw [HYN.out]; exact hn), show i - 1 + 1 = i by omega]
    have hw3 : IntKind.i64.wrap ((i : Int) - 1) = ((i - 1 : Nat) : Int) := by rw [IntKind.wrap_i64]; omega
    clear hn HYN
    go_wp2_with fail
    go_quiet (fail)
    go_wp2
    go_roundw
    case rel => exact ⟨i - 1, _, by omega, by first | rfl | go_num, HI2, rfl⟩
    case measure => simp [intOf]; omega
  ·
   have d0 : decide ((0 : Int) < (i : Int)) = false := decide_eq_false (by omega)
   have hi0 : i = 0 := by omega
   have HX : Hid (m.token t = m) := by
    unfold Hid
    rw [HT.out, HI.out, hi0]
    exact if_pos rfl
   have HA3 := Lib.hid (HA.out.on (w' := V.drewN n) ⟨rfl, rfl, rfl, Nat.le_refl _, fun _ _ => rfl⟩)
   have HK3 := Lib.hid (HK.out.trans (Um.Kept.of (w1 := V.drewN n) g _ _ ⟨rfl, rfl, rfl, Nat.le_refl _, fun _ _ => rfl⟩))
   clear hi0
   go_wp2
   go_end0
   exact ⟨rfl, _, _, by rw [HX.out]; exact HA3.out, HK3.out⟩
set_option maxRecDepth 100000 in
set_option maxHeartbeats 8000000 in
theorem Um.token3 (base : Nat) (m : Bt) (t : Tk) (aa : Option Addr) (an ad : Nat) (w : World) (g : Nat) (ov pv : Value) (h : Um.At base w g m ov pv) (hok : Bt.Ok m) (hs : m.out.length ≤ 1000000) (hk : t.kind = 3) :
  Calls Tryz.prog 46 #[.pointer (some ⟨g, 0, none⟩), .agg #[.int .i64 t.kind, .string t.name, .string t.text, .slice aa an ad, .bool t.self]] w fun e w' => e = .returned (.tuple #[]) ∧ ∃ ov' pv', Um.At base w' g (m.token t) ov' pv' ∧ Um.Kept w w' g ov pv ov' pv' := by
 have t0 : (t.kind == 0) = false := by rw [hk]; rfl
 have t3 : (t.kind == 3) = true := by rw [hk]; rfl
 have HX : Hid (m.token t = m.node ⟨3, Ts.e, t.text, [], 0⟩) := by unfold Hid Bt.token; rw [if_neg (by rw [hk]; decide), if_pos hk]
 clear hk
 have hlt := h.lt
 obtain ⟨p, pd, rfl, hpd, ctop⟩ := Um.topCell h hok.opn
 obtain ⟨xs, hx⟩ := id h.out
 obtain ⟨og, od, rfl, hod, hod2⟩ := Um.form1 hx.1 hok.some
 have hp : p < w.heap.size := World.block_lt_of_cell? _ _ ctop
 have hl0 := hok.opn
 have hfew := hok.few
 have hsome := hok.some
 have n1 : w.heap.size ≠ g := by omega
 have n2 : g ≠ w.heap.size := by omega
 have hw1 : IntKind.i64.wrap ((m.opn.length : Int) - 1) = ((m.opn.length - 1 : Nat) : Int) := by rw [IntKind.wrap_i64]; omega
 have hw2 : IntKind.i64.wrap ((m.out.length : Int) - 1) = ((m.out.length - 1 : Nat) : Int) := by rw [IntKind.wrap_i64]; omega
 have hidx : m.opn.length - 1 < pd := by omega
 have hi63 : m.opn.length - 1 < m.opn.length := by omega
 have hod3 : m.out.length - 1 < od := by omega
 have ho63 : m.out.length - 1 < m.out.length := by omega
 go_enter Tryz.func46, Tryz.ntmps46
 go_upto_region 1 with fail
 obtain ⟨W, hW⟩ : ∃ W, w.alloc (.cells #[.int .i64 t.kind, .string t.name, .string t.text, .slice aa an ad, .bool t.self] 84) = W := ⟨_, rfl⟩
 have hbW : Below w.heap.size w W := by rw [← hW]; exact (Below.refl _ _).alloc (Nat.le_refl _) _
 have k0 : W.cell? ⟨w.heap.size, 0, none⟩ = some (.int .i64 t.kind) := by rw [← hW]; simp
 have k1 : W.cell? ⟨w.heap.size, 1, none⟩ = some (.string t.name) := by rw [← hW]; simp
 have k2 : W.cell? ⟨w.heap.size, 2, none⟩ = some (.string t.text) := by rw [← hW]; simp
 have k3 : W.cell? ⟨w.heap.size, 3, none⟩ = some (.slice aa an ad) := by rw [← hW]; simp
 have q1 := Tp.keep hbW h.c1
 have qt := Tp.keep hbW ctop
 have hA := h.on hbW
 rw [hW]
 have HA := Lib.hid hA
 have HBW := Lib.hid hbW
 have HW : Hid (Um.Free (.slice (some ⟨og, 0, none⟩) m.out.length od) (.slice (some ⟨p, 0, none⟩) m.opn.length pd) g w.heap.size) := ⟨n1, (fun e => by have := (h.ovLt e).2; omega), fun e => by have := (h.pvLt e).2; omega⟩
 clear hW hbW hA hx ctop
 go_quiet (fail)
 obtain ⟨V, hV⟩ : ∃ V, W.drewN nq = V := ⟨_, rfl⟩
 have hbV : Below W.heap.size W V := by rw [← hV]; exact ⟨rfl, rfl, rfl, Nat.le_refl _, fun _ _ => rfl⟩
 rw [hV]
 have hA := HA.out.on hbV
 have v0 := Tp.keep hbV k0
 have v1 := Tp.keep hbV k1
 have v2 := Tp.keep hbV k2
 have v3 := Tp.keep hbV k3
 have c0 := hA.c0
 have c1 := hA.c1
 have cf := hA.fz
 have hgV := hA.lt
 have HA := Lib.hid hA
 have HK := Lib.hid (Um.Kept.of g (.slice (some ⟨og, 0, none⟩) m.out.length od) (.slice (some ⟨p, 0, none⟩) m.opn.length pd) (HBW.out.trans (hbV.mono HBW.out.size)))
 have HBV : Hid (Below w.heap.size w V) := HBW.out.trans (hbV.mono HBW.out.size)
 clear hV hbV hA k0 k1 k2 k3 q1 qt HBW h
 have nod := Um.node base m ⟨3, Ts.e, t.text, [], 0⟩ none 0 0 V g _ _ HA.out hok hs (Ak.Lies.nil _ _)
 go_wp2_with (go_at_call 93; refine nod.mono ?_; rintro e w2 ⟨rfl, ov2, hA2, hK2⟩; have HA2 := Lib.hid hA2; have HK2 := Lib.hid (HK.out.trans hK2); clear nod hA2 hK2)
 go_end0
 exact ⟨rfl, _, _, by rw [HX.out]; exact HA2.out, HK2.out⟩
theorem Um.token (base : Nat) (m : Bt) (t : Tk) (aa : Option Addr) (an ad : Nat) (w : World) (g : Nat) (ov pv : Value) (h : Um.At base w g m ov pv) (hok : Bt.Ok m) (hs : m.out.length ≤ 1000000) (hm : t.May) (hat : Ak.Lies w (· < base) t.attrs (.slice aa an ad)) (hbs : base ≤ w.heap.size) (hz : (m.nth m.last).text.size + t.text.size ≤ 9223372036854775807) :
  Calls Tryz.prog 46 #[.pointer (some ⟨g, 0, none⟩), .agg #[.int .i64 t.kind, .string t.name, .string t.text, .slice aa an ad, .bool t.self]] w fun e w' => e = .returned (.tuple #[]) ∧ ∃ ov' pv', Um.At base w' g (m.token t) ov' pv' ∧ Um.Kept w w' g ov pv ov' pv' := by
 rcases hm with ⟨hk | hk, hm⟩ | ⟨hk | hk, hm⟩
 ·
  exact Um.token0 base m t aa an ad w g ov pv h hok hs hk hz
 ·
  exact Um.token3 base m t aa an ad w g ov pv h hok hs hk
 ·
  exact Um.token1 base m t aa an ad w g ov pv h hok hs hk hat hbs hm.2.2.1
 ·
  exact Um.token2 base m t aa an ad w g ov pv h hok hs hk.1
theorem Um.laid (W : World) : Um.At W.heap.size (((W.alloc (.cells #[.int .i64 0, .string ⟨#[]⟩, .string ⟨#[]⟩, .slice none 0 0, .int .i64 (-1)] 48)).alloc (.cells #[.int .i64 0] 3)).alloc (.cells #[.slice (some ⟨W.heap.size, 0, none⟩) 1 1, .slice (some ⟨W.heap.size + 1, 0, none⟩) 1 1] 95)) (W.heap.size + 1 + 1) Bt.start (.slice (some ⟨W.heap.size, 0, none⟩) 1 1) (.slice (some ⟨W.heap.size + 1, 0, none⟩) 1 1) := by
 have h1 := World.ownsRow_lit (base := W.heap.size) (e := 48) (size := 5) W #[.int .i64 0, .string ⟨#[]⟩, .string ⟨#[]⟩, .slice none 0 0, .int .i64 (-1)] 1 (Nat.le_refl _) (by decide) rfl
 have h2 := World.ownsRow_lit (base := W.heap.size) (e := 3) (size := 1) (W.alloc (.cells #[.int .i64 0, .string ⟨#[]⟩, .string ⟨#[]⟩, .slice none 0 0, .int .i64 (-1)] 48)) #[.int .i64 0] 1 (by simp) (by decide) rfl
 rw [show (W.alloc (.cells #[.int .i64 0, .string ⟨#[]⟩, .string ⟨#[]⟩, .slice none 0 0, .int .i64 (-1)] 48)).heap.size = W.heap.size + 1 by simp] at h2
 obtain ⟨V, hV⟩ : ∃ V, (W.alloc (.cells #[.int .i64 0, .string ⟨#[]⟩, .string ⟨#[]⟩, .slice none 0 0, .int .i64 (-1)] 48)).alloc (.cells #[.int .i64 0] 3) = V := ⟨_, rfl⟩
 have hsV : V.heap.size = W.heap.size + 1 + 1 := by rw [← hV]; simp
 rw [hV] at h2 ⊢
 have h1' : V.ownsRow W.heap.size 48 5 (.slice (some ⟨W.heap.size, 0, none⟩) 1 1) 1 [.int .i64 0, .string ⟨#[]⟩, .string ⟨#[]⟩, .slice none 0 0, .int .i64 (-1)] := by rw [← hV]; exact h1.alloc _
 have hb := heap_alloc_new V (.cells #[.slice (some ⟨W.heap.size, 0, none⟩) 1 1, .slice (some ⟨W.heap.size + 1, 0, none⟩) 1 1] 95)
 rw [hsV] at hb
 refine ⟨by omega, ?_, ?_, fun i => ?_, ?_, h2.alloc _, ?_, ?_, ?_⟩
 ·
  unfold World.cell?; rw [hb]; rfl
 ·
  unfold World.cell?; rw [hb]; rfl
 ·
  unfold World.frozen?; rw [hb]; simp
 ·
  refine ⟨_, h1'.alloc _, fun i x hi => ?_⟩
  have : i = 0 := by
   have := (List.getElem?_eq_some_iff.1 hi).1
   simp [Bt.start] at this
   exact this
  subst this
  have hx : x = ⟨0, Ts.e, Ts.e, [], -1⟩ := by simpa [Bt.start] using hi.symm
  subst hx
  exact ⟨.slice none 0 0, fun r u hr => by rw [Nat.zero_mul, Nat.zero_add]; exact hr, Ak.Lies.nil _ _⟩
 ·
  intro e
  have e : W.heap.size = W.heap.size + 1 + 1 := Option.some.inj e
  omega
 ·
  intro e
  have e : W.heap.size + 1 = W.heap.size + 1 + 1 := Option.some.inj e
  omega
 ·
  intro k hk hk2
  have e1 : W.heap.size = k := Option.some.inj hk
  have e2 : W.heap.size + 1 = k := Option.some.inj hk2
  omega
theorem Um.Kept.low {base lo : Nat} {w wr w' : World} {g : Nat} {m : Bt} {ov pv ov' pv' : Value} (hK : Um.Kept wr w' g ov pv ov' pv') (hA : Um.At base wr g m ov pv) (hb : Below lo w wr) (hlo : lo ≤ base) (hs : lo ≤ w.heap.size) : Below lo w w' :=
 ⟨hK.os.trans hb.os, hK.tape.trans hb.tape, hK.output.trans hb.output, Nat.le_trans hb.size hK.size, fun k hk => (hK.block k (by have := hb.size; omega) ⟨by have := hA.ge; omega, (fun e => by have := (hA.ovLt e).1; omega), (fun e => by have := (hA.pvLt e).1; omega)⟩).1.trans (hb.block k hk)⟩
theorem Um.bulk_take (ts : List Tk) (i : Nat) (hi : i < ts.length) : Bt.bulk (ts.take (i + 1)) = Bt.bulk (ts.take i) + ts[i].text.size := by
 unfold Bt.bulk
 rw [List.take_succ_eq_append_getElem hi, List.map_append, List.sum_append]
 simp
theorem Um.bulk_le (ts : List Tk) (i : Nat) : Bt.bulk (ts.take i) ≤ Bt.bulk ts := by
 have h : Bt.bulk ts = Bt.bulk (ts.take i) + Bt.bulk (ts.drop i) := by
  unfold Bt.bulk
  rw [← List.sum_append, ← List.map_append, List.take_append_drop]
 omega
theorem Um.tokAt {w : World} {R : Nat → Prop} {ts : List Tk} {a : Option Addr} {d : Nat} (h : Tk.Lies w R ts (.slice a ts.length d)) {i : Nat} (hi : i < ts.length) : ∃ b o aa ad, a = some ⟨b, o, none⟩ ∧ w.cell? ⟨b, o + i * 5, none⟩ = some (.int .i64 ts[i].kind) ∧ w.cell? ⟨b, o + i * 5 + 1, none⟩ = some (.string ts[i].name) ∧ w.cell? ⟨b, o + i * 5 + 2, none⟩ = some (.string ts[i].text) ∧ w.cell? ⟨b, o + i * 5 + 3, none⟩ = some (.slice aa ts[i].attrs.length ad) ∧ w.cell? ⟨b, o + i * 5 + 4, none⟩ = some (.bool ts[i].self) ∧ Ak.Lies w R ts[i].attrs (.slice aa ts[i].attrs.length ad) := by
 obtain ⟨a', d', e, h1, h2, hx⟩ := h
 injection e with e1 e2 e3
 subst e1
 obtain ⟨b, o, av, ea, hb, c0, c1, c2, c3, c4, hl⟩ := hx i ts[i] (List.getElem?_eq_getElem hi)
 obtain ⟨aa, ad, rfl, g1, g2, gx⟩ := id hl
 exact ⟨b, o, aa, ad, ea, c0, c1, c2, c3, c4, hl⟩
set_option maxRecDepth 100000 in
set_option maxHeartbeats 8000000 in
theorem Um.build (ts : List Tk) (a : Option Addr) (d : Nat) (w : World) (h : Tk.Lies w (· < w.heap.size) ts (.slice a ts.length d)) (hz : Bt.bulk ts ≤ 9223372036854775807) :
  Calls Tryz.prog 22 #[.slice a ts.length d] w fun e w' => Below w.heap.size w w' ∧ ((¬ (∀ t ∈ ts, t.May) ∧ e = .returned (.tuple #[.slice none 0 0, .int .i64 700])) ∨ ((∀ t ∈ ts, t.May) ∧ (Bt.run Bt.start ts).2 = false ∧ e = .returned (.tuple #[.slice none 0 0, .int .i64 701])) ∨ ((∀ t ∈ ts, t.May) ∧ (Bt.run Bt.start ts).2 = true ∧ ∃ v, e = .returned (.tuple #[v, .int .i64 0]) ∧ Nd.Lies w' (fun k => w.heap.size ≤ k ∧ k < w'.heap.size ∧ Rm.Ub w' k) (Bt.run Bt.start ts).1.out v)) := by
 obtain ⟨hlen, hdm⟩ : ts.length ≤ d ∧ d ≤ maxLen := by
  obtain ⟨a', d', e, h1, h2, hx⟩ := h
  injection e with e1 e2 e3
  omega
 have hm63 : ts.length ≤ 9223372036854775807 := by unfold maxLen at hdm; omega
 have H := Lib.hid h
 have HZ := Lib.hid hz
 clear h hz hdm
 go_enter Tryz.func22, Tryz.ntmps22
 go_wp2_with fail
 go_loopw [4] (fun ix wr => ∃ i : Nat, i ≤ ts.length ∧ ix = .int .i64 (i : Int) ∧ Hid (∀ j t, j < i → ts[j]? = some t → t.May) ∧ Hid (Below w.heap.size w wr)) (fun ix _ => ts.length - (intOf ix).toNat)
 case atStart => exact ⟨0, Nat.zero_le _, rfl, (fun _ _ q _ => absurd q (Nat.not_lt_zero _)), Below.refl _ _⟩
 case round =>
  obtain ⟨i, hi, rfl, HM, HB⟩ := hrel
  by_cases hlt : i < ts.length
  ·
   have d1 : decide ((i : Int) < (ts.length : Int)) = true := decide_eq_true (by omega)
   have HL : Hid (Tk.Lies wr (· < w.heap.size) ts (.slice a ts.length d)) := H.out.on fun k hk => ⟨hk, HB.out.block k hk⟩
   obtain ⟨b, o, aa, ad, rfl, c0, c1, c2, c3, c4, hl⟩ := Um.tokAt HL.out hlt
   have may := Um.may ts[i] aa ad _ wr hl
   have hid : i < d := by omega
   obtain ⟨T, hT⟩ : ∃ T, ts[i] = T := ⟨_, rfl⟩
   rw [hT] at c0 c1 c2 c3 c4 may
   have HT : Hid (ts[i]? = some T) := by unfold Hid; rw [List.getElem?_eq_getElem hlt, hT]
   clear hl hT HL
   by_cases hmay : T.May
   ·
    have HM2 : Hid (∀ j t, j < i + 1 → ts[j]? = some t → t.May) := fun j t hj ht => by
     by_cases e : j = i
     ·
      subst e
      rw [HT.out] at ht
      injection ht with ht
      rw [← ht]
      exact hmay
     ·
      exact HM.out j t (by omega) ht
    have HMY := Lib.hid hmay
    clear hmay
    go_wp2_with (go_at_call 45; refine may.mono ?_; rintro e w2 ⟨bb, rfl, hbb, hb2⟩; have hbb := hbb.2 HMY.out; subst hbb; have HB2 := Lib.hid (HB.out.trans (hb2.mono HB.out.size)); clear may hb2)
    go_roundw
    case rel => exact ⟨i + 1, by omega, by go_num, HM2, HB2⟩
    case measure => simp [intOf]; omega
   ·
    have HMY := Lib.hid hmay
    clear hmay
    go_wp2_with (go_at_call 45; refine may.mono ?_; rintro e w2 ⟨bb, rfl, hbb, hb2⟩; have hbb : bb = false := (by cases bb; rfl; exact absurd (hbb.1 rfl) HMY.out); subst hbb; have HB2 := Lib.hid (HB.out.trans (hb2.mono HB.out.size)); clear may hb2)
    go_ret2
    exact ⟨HB2.out, .inl ⟨fun q => HMY.out (q T (List.mem_of_getElem? HT.out)), rfl⟩⟩
  ·
   have e : i = ts.length := by omega
   subst e
   have d1 : decide ((ts.length : Int) < (ts.length : Int)) = false := decide_eq_false (by omega)
   have HALL : Hid (∀ t ∈ ts, t.May) := fun t ht => by
    obtain ⟨j, hj⟩ := List.getElem?_of_mem ht
    exact HM.out j t (List.getElem?_eq_some_iff.1 hj).1 hj
   clear HM hi
   go_wp2_with fail
   have hA0 := Um.laid wr
   obtain ⟨W, hW⟩ : ∃ W, ((wr.alloc (.cells #[.int .i64 0, .string ⟨#[]⟩, .string ⟨#[]⟩, .slice none 0 0, .int .i64 (-1)] 48)).alloc (.cells #[.int .i64 0] 3)).alloc (.cells #[.slice (some ⟨wr.heap.size, 0, none⟩) 1 1, .slice (some ⟨wr.heap.size + 1, 0, none⟩) 1 1] 95) = W := ⟨_, rfl⟩
   have hbW : Below w.heap.size w W := by rw [← hW]; exact ((HB.out.alloc HB.out.size _).alloc (by simp; have := HB.out.size; omega) _).alloc (by simp; have := HB.out.size; omega) _
   rw [hW] at hA0
   rw [hW]
   have hlo : w.heap.size ≤ wr.heap.size := HB.out.size
   have HA0 := Lib.hid hA0
   have HBW := Lib.hid hbW
   clear hW hA0 hbW HB
   generalize wr.heap.size = base at *
   go_loopw [6] (fun ix wz => ∃ (i : Nat) (m : Bt) (ov pv : Value), i ≤ ts.length ∧ ix = .int .i64 (i : Int) ∧ Hid (Um.At base wz (base + 1 + 1) m ov pv) ∧ Hid (Bt.Ok m) ∧ Hid (m.out.length ≤ 4096) ∧ Hid (∀ x ∈ m.out, x.text.size ≤ Bt.bulk (ts.take i)) ∧ Hid (Bt.run m (ts.drop i) = Bt.run Bt.start ts) ∧ Hid (Below w.heap.size w wz)) (fun ix _ => ts.length - (intOf ix).toNat)
   case atStart => exact ⟨0, Bt.start, _, _, Nat.zero_le _, rfl, HA0.out, Bt.Ok.start, (by unfold Hid; decide), (fun x hx => by rw [List.mem_singleton.1 hx]; exact Nat.zero_le _), rfl, HBW.out⟩
   case round =>
    clear HA0 HBW
    obtain ⟨i, m, ov, pv, hi, rfl, HA, HO, HS, HT, HR, HB⟩ := hrel
    obtain ⟨g, hg⟩ : ∃ g, base + 1 + 1 = g := ⟨_, rfl⟩
    rw [hg] at HA
    have hgb : w.heap.size ≤ g := by omega
    by_cases hlt : i < ts.length
    ·
     have d1 : decide ((i : Int) < (ts.length : Int)) = true := decide_eq_true (by omega)
     have HL : Hid (Tk.Lies wr (· < w.heap.size) ts (.slice a ts.length d)) := H.out.on fun k hk => ⟨hk, HB.out.block k hk⟩
     obtain ⟨b, o, aa, ad, rfl, c0, c1, c2, c3, c4, hl⟩ := Um.tokAt HL.out hlt
     have hid : i < d := by omega
     obtain ⟨T, hT⟩ : ∃ T, ts[i] = T := ⟨_, rfl⟩
     have hbk := Um.bulk_take ts i hlt
     rw [hT] at c0 c1 c2 c3 c4 hl hbk
     have hble := Um.bulk_le ts (i + 1)
     have hmem : T ∈ ts := by rw [← hT]; exact List.getElem_mem hlt
     have tk := Um.token base m T aa T.attrs.length ad wr g ov pv HA.out HO.out (Nat.le_trans HS.out (by decide)) (HALL.out T hmem) (hl.on fun k hk => ⟨Nat.lt_of_lt_of_le hk hlo, rfl⟩) (Nat.le_trans HA.out.ge (Nat.le_of_lt HA.out.lt)) (by have := Bt.nth_small HT.out m.last; have := HZ.out; omega)
     have HT2 : Hid (∀ x ∈ (m.token T).out, x.text.size ≤ Bt.bulk (ts.take (i + 1))) := by unfold Hid; rw [hbk]; exact Bt.token_small HT.out T
     have HD : Hid (ts.drop i = T :: ts.drop (i + 1)) := by unfold Hid; rw [← hT]; exact List.drop_eq_getElem_cons hlt
     have HO2 := Lib.hid (HO.out.token T)
     clear hl hT HL hbk hble hmem
     by_cases hf : 4096 < (m.token T).out.length
     ·
      have d2 : decide ((4096 : Int) < ((m.token T).out.length : Int)) = true := decide_eq_true (by omega)
      have HRF : Hid ((Bt.run Bt.start ts).2 = false) := by
       unfold Hid
       rw [← HR.out, HD.out]
       unfold Bt.run
       rw [if_pos hf]
      clear hf
      rw [hg]
      clear hg
      go_wp2_with (go_at_call 46; refine tk.mono ?_; rintro e w5 ⟨rfl, ov5, pv5, hA5, hK5⟩; obtain ⟨xs5, hx5⟩ := id hA5.out; obtain ⟨oa5, od5, rfl⟩ := Um.form hx5.1; have e0 := hA5.c0; have HB5 := Lib.hid (hK5.low HA.out HB.out hlo (Nat.le_refl _)); clear tk hA5 hK5 hx5)
      go_ret2
      exact ⟨HB5.out, .inr (.inl ⟨HALL.out, HRF.out, rfl⟩)⟩
     ·
      have d2 : decide ((4096 : Int) < ((m.token T).out.length : Int)) = false := decide_eq_false (by omega)
      have HS2 : Hid ((m.token T).out.length ≤ 4096) := by unfold Hid; omega
      have HR2 : Hid (Bt.run (m.token T) (ts.drop (i + 1)) = Bt.run Bt.start ts) := by
       unfold Hid
       rw [← HR.out, HD.out]
       conv => rhs; unfold Bt.run
       rw [if_neg hf]
      clear hf
      rw [hg]
      go_wp2_with (go_at_call 46; refine tk.mono ?_; rintro e w5 ⟨rfl, ov5, pv5, hA5, hK5⟩; obtain ⟨xs5, hx5⟩ := id hA5.out; obtain ⟨oa5, od5, rfl⟩ := Um.form hx5.1; have e0 := hA5.c0; have HB5 := Lib.hid (hK5.low HA.out HB.out hlo (Nat.le_refl _)); have HA5 := Lib.hid hA5; clear tk hA5 hK5 hx5)
      go_roundw
      case rel => exact ⟨i + 1, m.token T, _, _, by omega, by go_num, HA5, HO2, HS2, HT2, HR2, HB5⟩
      case measure => simp [intOf]; omega
    ·
     have e : i = ts.length := by omega
     subst e
     have d1 : decide ((ts.length : Int) < (ts.length : Int)) = false := decide_eq_false (by omega)
     have HRR : Hid (Bt.run Bt.start ts = (m, true)) := by
      unfold Hid
      rw [← HR.out, List.drop_length]
      rfl
     have c0 := HA.out.c0
     rw [hg]
     clear hg
     go_wp2_with fail
     go_ret2
     refine ⟨HB.out, .inr (.inr ⟨HALL.out, by rw [HRR.out], ov, rfl, ?_⟩)⟩
     rw [HRR.out]
     exact HA.out.out.lies.on fun k hk => ⟨⟨Nat.le_trans hlo hk.1, hk.2⟩, rfl⟩
theorem Nm.nilNodes (w : World) (R : Nat → Prop) : Nd.Lies w R [] (.slice none 0 0) := ⟨none, 0, rfl, Nat.le_refl _, Nat.zero_le _, fun j x h => by simp at h⟩
theorem Nm.toksForm {w : World} {R : Nat → Prop} {ts : List Tk} {v : Value} (h : Tk.Lies w R ts v) : ∃ a d, v = .slice a ts.length d := by
 obtain ⟨a, d, e, _⟩ := h
 exact ⟨a, d, e⟩
set_option maxRecDepth 100000 in
set_option maxHeartbeats 4000000 in
theorem Nm.parse (s : ByteArray) (ns : List Nd) (k : Int) (hI : Kp.Is s ns k) (w : World) (hs : s.size ≤ maxLen) :
  Calls Tryz.prog 8 #[.string s] w fun e w' => ∃ a d, e = .returned (.tuple #[.slice a ns.length d, .int .i64 k]) ∧ Nd.Lies w' (fun j => w.heap.size ≤ j ∧ j < w'.heap.size ∧ Rm.Ub w' j) ns (.slice a ns.length d) ∧ Below w.heap.size w w' := by
 rcases hI with ⟨hl, rfl, rfl⟩ | ⟨hsh, hrest⟩
 ·
  have tk := Rk.long s w hl hs
  go_enter Tryz.func8, Tryz.ntmps8
  go_wp2_with (go_at_call 21; refine tk.mono ?_; rintro e w1 ⟨rfl, hw1⟩; have hw1 := hw1.symm; subst hw1; clear tk)
  go_ret2
  exact ⟨none, 0, rfl, Nm.nilNodes _ _, Below.refl _ _⟩
 ·
  have tk := Rk.short s w hsh
  have hbk := Kp.bulk s hsh
  have HR := Lib.hid hrest
  clear hrest
  go_enter Tryz.func8, Tryz.ntmps8
  go_wp2_with (first | (go_at_call 21; refine tk.mono ?_; rintro e w1 ⟨v1, rfl, hl1, hb1⟩; clear tk; obtain ⟨a1, d1, rfl⟩ := Nm.toksForm hl1; have bu := Um.build (Rd.tokens s) a1 d1 w1 (hl1.on fun j hj => ⟨hj.2, rfl⟩) (Nat.le_trans hbk (by decide)); have HB1 := Lib.hid hb1; clear hl1 hb1) | (go_at_call 22; refine bu.mono ?_; rintro e w2 ⟨hb2, hc⟩; clear bu; obtain ⟨a2, d2, he, hl2⟩ : ∃ a2 d2, e = .returned (.tuple #[.slice a2 ns.length d2, .int .i64 k]) ∧ Nd.Lies w2 (fun j => w1.heap.size ≤ j ∧ j < w2.heap.size ∧ Rm.Ub w2 j) ns (.slice a2 ns.length d2) := (by rcases HR.out with ⟨hm, hn, hk⟩ | ⟨hm, hr, hn, hk⟩ | ⟨hm, hr, hn, hk⟩ <;> subst hn <;> subst hk <;> rcases hc with ⟨q, he⟩ | ⟨q, q2, he⟩ | ⟨q, q2, v, he, hl⟩; exact ⟨none, 0, he, Nm.nilNodes _ _⟩; exact absurd q hm; exact absurd q hm; exact absurd hm q; exact ⟨none, 0, he, Nm.nilNodes _ _⟩; (rw [hr] at q2; cases q2); exact absurd hm q; (rw [hr] at q2; cases q2); (obtain ⟨a', d', e', r⟩ := id hl; subst e'; exact ⟨a', d', he, hl⟩)); subst he; have HL2 := Lib.hid hl2; have HB2 := Lib.hid (HB1.out.trans (hb2.mono HB1.out.size)); have hs1 := HB1.out.size; clear hc hl2 hb2))
  go_ret2
  exact ⟨a2, d2, rfl, HL2.out.on fun j hj => ⟨⟨by omega, hj.2⟩, rfl⟩, HB2.out⟩
set_option maxRecDepth 100000 in
set_option maxHeartbeats 4000000 in
theorem St.same (ss ts : List ByteArray) (a1 a2 : Option Addr) (d1 d2 : Nat) (R1 R2 : Nat → Prop) (w : World) (h1 : St.Lies w R1 ss (.slice a1 ss.length d1)) (h2 : St.Lies w R2 ts (.slice a2 ts.length d2)) (he : ss = ts) :
  Calls Tryz.prog 15 #[.slice a1 ss.length d1, .slice a2 ts.length d2] w fun e w' => e = .returned (.bool true) ∧ ∃ n, w' = w.drewN n := by
 subst he
 obtain ⟨x1, y1, e1, l1, m1, X1⟩ := h1
 injection e1 with e11 _ e13
 subst e11
 subst e13
 obtain ⟨x2, y2, e2, l2, m2, X2⟩ := h2
 injection e2 with e21 _ e23
 subst e21
 subst e23
 have hm63 : ss.length ≤ 9223372036854775807 := by unfold maxLen at m1; omega
 have H1 := Lib.hid X1
 have H2 := Lib.hid X2
 have t0 : ((ss.length : Int) != (ss.length : Int)) = false := by simp
 clear X1 X2 m1 m2
 go_enter Tryz.func15, Tryz.ntmps15
 go_wp2_with fail
 go_loopw [5] (fun ix wr => ∃ i n : Nat, i ≤ ss.length ∧ ix = .int .i64 (i : Int) ∧ wr = w.drewN n) (fun ix _ => ss.length - (intOf ix).toNat)
 case atStart => exact ⟨0, 0, Nat.zero_le _, rfl, rfl⟩
 case round =>
  obtain ⟨i, n, hi, rfl, rfl⟩ := hrel
  by_cases hlt : i < ss.length
  ·
   have d0 : decide ((i : Int) < (ss.length : Int)) = true := decide_eq_true (by omega)
   obtain ⟨s, hs⟩ : ∃ s, ss[i]? = some s := ⟨_, List.getElem?_eq_getElem hlt⟩
   obtain ⟨b1, o1, rfl, _, c1⟩ := H1.out i s hs
   obtain ⟨b2, o2, rfl, _, c2⟩ := H2.out i s hs
   have t1 : (s.toList != s.toList) = false := by simp
   have i1 : i < d1 := by omega
   have i2 : i < d2 := by omega
   clear hs
   go_upto_region 6 with fail
   go_quiet (fail)
   go_wp2
   go_roundw
   case rel => exact ⟨i + 1, _, by omega, by go_num, rfl⟩
   case measure => simp [intOf]; omega
  ·
   have e : i = ss.length := by omega
   subst e
   have d0 : decide ((ss.length : Int) < (ss.length : Int)) = false := decide_eq_false (by omega)
   go_wp2
   go_ret
   exact ⟨rfl, _, rfl⟩
theorem Pm.topCell {base : Nat} {w : World} {g : Nat} {m : Bt} {bs : ByteArray} {ov pv tv : Value} (h : Pm.At base w g m bs ov pv tv) (hn : 0 < m.opn.length) : ∃ p d, pv = .slice (some ⟨p, 0, none⟩) m.opn.length d ∧ m.opn.length ≤ d ∧ w.cell? ⟨p, m.opn.length - 1, none⟩ = some (.int .i64 (m.top : Int)) := by
 obtain ⟨p, d, e, h1, h2⟩ := Um.form1 h.opn hn
 refine ⟨p, d, e, h1, ?_⟩
 have ho := h.opn
 rw [e] at ho
 rw [ho.cellAt (m.opn.length - 1) (by omega)]
 refine Um.ints_get ?_
 unfold Bt.top
 rw [List.getLastD_eq_getLast?, List.getLast?_eq_getElem?]
 rw [List.getElem?_eq_getElem (by omega)]
 rfl
set_option maxRecDepth 100000 in
set_option maxHeartbeats 4000000 in
theorem Pg.innermost (base : Nat) (m : Bt) (bs : ByteArray) (w : World) (g : Nat) (ov pv tv : Value) (h : Pm.At base w g m bs ov pv tv) (hok : Bt.Ok m) :
  Calls Tryz.prog 117 #[.pointer (some ⟨g, 0, none⟩)] w fun e w' => e = .returned (.int .i64 (m.top : Int)) ∧ ∃ n, w' = w.drewN n := by
 have hl0 := hok.opn
 have hfew := hok.few
 obtain ⟨p, pd, rfl, hpd, ctop⟩ := Pm.topCell h hl0
 have c1 := h.c1
 have hw1 : IntKind.i64.wrap ((m.opn.length : Int) - 1) = ((m.opn.length - 1 : Nat) : Int) := by rw [IntKind.wrap_i64]; omega
 have hidx : m.opn.length - 1 < pd := by omega
 have hi63 : m.opn.length - 1 < m.opn.length := by omega
 clear h hok
 go_enter Tryz.func117, Tryz.ntmps117
 go_wp2_with fail
 go_quiet (fail)
 go_wp2
 go_ret
 exact ⟨rfl, _, rfl⟩
theorem Pm.bytesNil {s : ByteArray} (h : s.size = 0) : s = Ts.e := by
 apply ByteArray.ext
 exact Array.eq_empty_of_size_eq_zero h
theorem Pm.setBoth {w0 w : World} {n : Nat} (h : Below n w0 w) (a : Addr) (v : Value) : Below n (w0.setCell a v) (w.setCell a v) := by
 refine ⟨h.os, h.tape, h.output, by simpa using h.size, fun k hk => ?_⟩
 simp only [World.setCell, Array.getElem?_modify]
 rw [h.block k hk]
theorem Pm.At.flush {base : Nat} {w : World} {g : Nat} {m : Bt} {bs : ByteArray} {og od tg td : Nat} {pv : Value} (h : Pm.At base w g m bs (.slice (some ⟨og, 0, none⟩) m.out.length od) pv (.slice (some ⟨tg, 0, none⟩) bs.size td)) (h0 : ¬ bs.size = 0) (hok : Bt.Ok m) :
  Pm.At base ((w.setCell ⟨og, (m.out.length - 1) * 5 + 2, none⟩ (.string bs)).drew.setCell ⟨g, 2, none⟩ (.slice (some ⟨tg, 0, none⟩) 0 td)) g (Pb.flush m bs) Ts.e (.slice (some ⟨og, 0, none⟩) m.out.length od) pv (.slice (some ⟨tg, 0, none⟩) 0 td) ∧
  Pm.Kept w ((w.setCell ⟨og, (m.out.length - 1) * 5 + 2, none⟩ (.string bs)).drew.setCell ⟨g, 2, none⟩ (.slice (some ⟨tg, 0, none⟩) 0 td)) (Pm.Mine g (.slice (some ⟨og, 0, none⟩) m.out.length od) pv (.slice (some ⟨tg, 0, none⟩) bs.size td)) (Pm.Mine g (.slice (some ⟨og, 0, none⟩) m.out.length od) pv (.slice (some ⟨tg, 0, none⟩) 0 td)) := by
 have hsome := hok.some
 obtain ⟨y, hy⟩ : ∃ y, m.out[m.out.length - 1]? = some y := ⟨_, List.getElem?_eq_getElem (by omega)⟩
 have HF : Pb.flush m bs = { m with out := m.out.set (m.out.length - 1) { y with text := bs } } := by
  unfold Pb.flush
  rw [if_neg h0]
  unfold Bt.nth Bt.last
  rw [hy]
  rfl
 obtain ⟨p1, p2⟩ := h.put hy bs
 have hA2 := p1.on (Below.refl _ _).drew
 have hK2 := p2.trans (Pm.Kept.of _ (Below.refl _ _).drew)
 obtain ⟨z1, z2⟩ := hA2.text (bs' := Ts.e) (Below.refl _ _) (.inl rfl) (Pm.short hA2.txt 0 (Nat.zero_le _)) (World.grownBy.refl _ _) (.inl rfl)
 exact ⟨by rw [HF]; exact z1, hK2.trans z2⟩
set_option maxRecDepth 100000 in
set_option maxHeartbeats 4000000 in
theorem Pg.endText (base : Nat) (m : Bt) (bs : ByteArray) (w0 w : World) (g : Nat) (ov pv tv : Value) (hW : Below w0.heap.size w0 w) (h : Pm.At base w0 g m bs ov pv tv) (hok : Bt.Ok m) (hs : m.out.length ≤ 1000000) (hz : bs.size ≤ 140737488355328) :
  Calls Tryz.prog 39 #[.pointer (some ⟨g, 0, none⟩)] w fun e w' => e = .returned (.tuple #[]) ∧ ∃ w1 tv', Pm.At base w1 g (Pb.flush m bs) Ts.e ov pv tv' ∧ Pm.Kept w0 w1 (Pm.Mine g ov pv tv) (Pm.Mine g ov pv tv') ∧ w1.heap.size = w0.heap.size ∧ Below w0.heap.size w1 w' ∧ Pm.Kept w w' (Pm.Mine g ov pv tv) (Pm.Mine g ov pv tv') := by
 by_cases h0 : bs.size = 0
 ·
  have hb := Pm.bytesNil h0
  subst hb
  obtain ⟨ta, td, rfl⟩ := Um.form h.txt
  have c2 := (h.on hW).c2
  rw [h0] at c2
  have H := Lib.hid h
  have HW := Lib.hid hW
  clear h hW
  go_enter Tryz.func39, Tryz.ntmps39
  go_wp2
  go_end0
  exact ⟨rfl, _, _, by rw [Pb.flush_none]; exact H.out, Pm.Kept.refl _ _, rfl, HW.out, Pm.Kept.refl _ _⟩
 ·
  obtain ⟨tg, td, rfl, htd, htm⟩ := Um.form1 h.txt (by omega)
  obtain ⟨xs, hx⟩ := id (h.on hW).out
  have hsome := hok.some
  obtain ⟨og, od, rfl, hod, hod2⟩ := Um.form1 hx.1 hok.some
  obtain ⟨y, hy⟩ : ∃ y, m.out[m.out.length - 1]? = some y := ⟨_, List.getElem?_eq_getElem (by omega)⟩
  obtain ⟨avy, hcy⟩ := (h.on hW).out.cell hy
  have y2 : w.cell? ⟨og, (m.out.length - 1) * 5 + 2, none⟩ = some (.string y.text) := hcy 2 _ rfl
  have yf : ∀ j, w.frozen? ⟨og, j, none⟩ = false := fun j => hx.1.frozenAt j
  have c0 := (h.on hW).c0
  have c2 := (h.on hW).c2
  have cf := (h.on hW).fz
  have d0 : decide ((0 : Int) < (bs.size : Int)) = true := decide_eq_true (by omega)
  have d1 : 0 < bs.size := by omega
  have conv0 := Pm.conv (h.on hW).txt
  have conv1 : (convert 43 9 (.slice (some ⟨tg, 0, none⟩) bs.size td)).run Tryz.prog w.drew = .ok (.string bs) w.drew := Pm.conv (wr := w.drew) (h.on hW).txt
  have hw2 : IntKind.i64.wrap ((m.out.length : Int) - 1) = ((m.out.length - 1 : Nat) : Int) := by rw [IntKind.wrap_i64]; omega
  have hod3 : m.out.length - 1 < od := by omega
  have ho63 : m.out.length - 1 < m.out.length := by omega
  have hne : og ≠ g := fun e => h.og (by rw [← e]; rfl)
  have hne2 : g ≠ og := fun e => hne e.symm
  have HP := Lib.hid (Pm.At.flush h h0 hok)
  have HP2 := Lib.hid (Pm.At.flush (h.on hW) h0 hok).2
  have HBB : Hid (Below w0.heap.size ((w0.setCell ⟨og, (m.out.length - 1) * 5 + 2, none⟩ (.string bs)).drew.setCell ⟨g, 2, none⟩ (.slice (some ⟨tg, 0, none⟩) 0 td)) ((w.setCell ⟨og, (m.out.length - 1) * 5 + 2, none⟩ (.string bs)).drew.setCell ⟨g, 2, none⟩ (.slice (some ⟨tg, 0, none⟩) 0 td))) := by
   have q := Pm.setBoth hW ⟨og, (m.out.length - 1) * 5 + 2, none⟩ (.string bs)
   exact Pm.setBoth (w0 := (w0.setCell ⟨og, (m.out.length - 1) * 5 + 2, none⟩ (.string bs)).drew) (w := (w.setCell ⟨og, (m.out.length - 1) * 5 + 2, none⟩ (.string bs)).drew) ⟨q.os, q.tape, q.output, q.size, q.block⟩ _ _
  clear hcy hx hy h0 h hW
  go_enter Tryz.func39, Tryz.ntmps39
  go_upto_region 1 with fail
  go_cut [] from 8 to 24 (fun wx => Hid (wx = (w.setCell ⟨og, (m.out.length - 1) * 5 + 2, none⟩ (.string bs)).drew))
  case first =>
   go_region_with (fail)
   all_goals (try go_wp2_with fail)
   all_goals go_meet
   all_goals exact Lib.hid rfl
  case rest =>
   have hwc := hcut.out
   have e2 : wc.cell? ⟨g, 2, none⟩ = some (.slice (some ⟨tg, 0, none⟩) bs.size td) := by
    rw [hwc]
    show (w.setCell ⟨og, (m.out.length - 1) * 5 + 2, none⟩ (.string bs)).cell? ⟨g, 2, none⟩ = _
    rw [World.cell?_setCell_other _ _ _ _ (fun e => by injection e with e1; exact hne e1)]
    exact c2
   have ef : ∀ i, wc.frozen? ⟨g, i, none⟩ = false := fun i => by
    rw [hwc]
    show (w.setCell ⟨og, (m.out.length - 1) * 5 + 2, none⟩ (.string bs)).frozen? ⟨g, i, none⟩ = _
    rw [World.frozen?_setCell]
    exact cf i
   have HWC := Lib.hid hwc
   clear hcut hwc c2 cf c0
   go_wp2
   go_end0
   refine ⟨rfl, _, _, HP.out.1, HP.out.2, by simp, ?_, ?_⟩
   ·
    rw [HWC.out]; exact HBB.out
   ·
    rw [HWC.out]; exact HP2.out
end Go.Proofs.YtblpkjlodncpeaaGreatDoor

/-
  THE WALK of stoleref5.Skeleton.
-/
import Derived.Test.YtblpkjlodncpeaaGreatDoorBNSkeltoPSee
import Derived.Test.YtblpkjlodncpeaaGreatDoorBUNdtoUMay
namespace Go.Proofs.YtblpkjlodncpeaaGreatDoor
open Go.RowKit
theorem Ns.made (n : Nat) (hn : n * 8 ≤ 281474976710656) : ∃ M : Array Value, (∀ u : World, (Instr.makeSlice 52 (.int .i64 (n : Int)) (.int .i64 (n : Int))).run Tryz.prog u = .ok (.slice (some ⟨u.heap.size, 0, none⟩) n n) (u.alloc (.cells M 3))) ∧ M.toList = Um.ints (List.replicate n 0) ∧ M.size = n * 1 := by
 obtain ⟨i0, hi, hz0, hz1, hz2⟩ := info_parts Um.infoI
 refine ⟨madeCells #[.int .i64 0] n, fun u => ?_, ?_, ?_⟩
 ·
  have h := run_make (P := Tryz.prog) u 52 3 i0 (.int .i64 0) Tryz.underlying52 hi hz0 .i64 .i64 (n : Int) (n : Int) (by omega) (Int.le_refl _) (by rw [hz2]; omega) (by omega)
  simpa [hz1, Value.cells] using h
 ·
  rw [toList_madeCells_one]
  unfold Um.ints
  rw [List.map_replicate]
  rfl
 ·
  rw [size_madeCells]; try simp
def Ns.Box (w : World) (B : Nat) (x : Nd) (aa : Option Addr) (ad : Nat) : Prop := ∀ j u, (Nd.five x (.slice aa x.attrs.length ad))[j]? = some u → w.cell? ⟨B, j, none⟩ = some u
structure Ns.At (base : Nat) (w : World) (B : Nat) (x : Nd) (aa : Option Addr) (ad : Nat) (nv ov : Value) (nums : List Nat) (out : List UInt8) : Prop where
 mem : Ns.Mem base w nv ov nums out
 box : Ns.Box w B x aa ad
 lo : base ≤ B
 lt : B < w.heap.size
 ov : ov.ownBlock ≠ some B
theorem Ns.At.on {base : Nat} {w w' : World} {B : Nat} {x : Nd} {aa : Option Addr} {ad : Nat} {nv ov : Value} {nums : List Nat} {out : List UInt8} (h : Ns.At base w B x aa ad nv ov nums out) (hb : Below w.heap.size w w') : Ns.At base w' B x aa ad nv ov nums out :=
 ⟨h.mem.on hb, fun j u hj => Tp.keep hb (h.box j u hj), h.lo, Nat.lt_of_lt_of_le h.lt hb.size, h.ov⟩
theorem Ns.At.more {base : Nat} {w w1 w4 : World} {B : Nat} {x : Nd} {aa : Option Addr} {ad : Nat} {nv ov ov' : Value} {nums : List Nat} {out out' : List UInt8} (h : Ns.At base w B x aa ad nv ov nums out) (hq : Below w.heap.size w w1) (hg : w1.grownBy w4 ov.ownBlock) (hf : ov'.ownBlock = ov.ownBlock ∨ ov'.ownBlock = some w1.heap.size)
  (R : w4.ownsRow base 5 1 ov' out'.length (Lib.byteCells out')) : Ns.At base w4 B x aa ad nv ov' nums out' := by
 have hold := Pm.held (xv := ov) (xv' := ov') hq (.inl rfl) hg (hf.imp id fun e => ⟨_, e, hq.size⟩) B h.lt h.ov
 exact ⟨h.mem.more hq hg hf R, fun j u hj => (World.cell?_of_block (a := ⟨B, j, none⟩) hold.2).trans (h.box j u hj), h.lo, Nat.lt_of_lt_of_le h.lt (Nat.le_trans hq.size hg.size), hold.1⟩
theorem Ns.At.below {base : Nat} {w0 w w1 w4 : World} {B : Nat} {x : Nd} {aa : Option Addr} {ad : Nat} {nv ov : Value} {nums : List Nat} {out : List UInt8} (h : Ns.At base w B x aa ad nv ov nums out) (hb : Below base w0 w) (hs : base ≤ w.heap.size) (hq : Below w.heap.size w w1) (hg : w1.grownBy w4 ov.ownBlock) : Below base w0 w4 :=
 (hb.trans (hq.mono hs)).grown hg (Nat.le_trans hs hq.size) (fun k hk => (h.mem.o.lt k hk).1)
theorem Ns.cells_append (a b : List UInt8) : Lib.byteCells (a ++ b) = Lib.byteCells a ++ Lib.byteCells b := by simp [Lib.byteCells]
theorem Ns.str (s : ByteArray) : Lib.strCells s = Lib.byteCells s.data.toList ∧ s.data.toList.length = s.size := ⟨rfl, by rw [Array.length_toList]; rfl⟩
theorem Ns.own_str {w : World} {base n : Nat} {v : Value} {out : List UInt8} {s : ByteArray} (hn : n = out.length) (R : w.ownsRow base 5 1 v (n + s.size) (Lib.byteCells out ++ Lib.strCells s)) : w.ownsRow base 5 1 v (out ++ s.data.toList).length (Lib.byteCells (out ++ s.data.toList)) := by
 rw [Ns.cells_append, List.length_append, (Ns.str s).2, ← (Ns.str s).1, ← hn]
 exact R
theorem Ns.one_byte (W : World) (c : Int) (g1 : Nat) (h : g1 = W.heap.size) : ∀ j u, [Value.int .u8 c][j]? = some u → (W.alloc (.cells #[.int .u8 c] 5)).cell? ⟨g1, j, none⟩ = some u := by
 subst h
 intro j u hj
 unfold World.cell?
 rw [show (W.alloc (.cells #[.int .u8 c] 5)).heap[W.heap.size]? = some _ from heap_alloc_new W _]
 simpa using hj
def Ns.mid (x : Nd) : List UInt8 := if x.kind = 3 then [32, 99, 32] ++ x.text.data.toList else [32, 101, 32] ++ x.name.data.toList
def Ns.ats (al : List (ByteArray × ByteArray)) : List UInt8 := al.flatMap fun a => 32 :: a.1.data.toList
theorem Ns.ats_take (al : List (ByteArray × ByteArray)) (j : Nat) (y : ByteArray × ByteArray) (hj : al[j]? = some y) : Ns.ats (al.take (j + 1)) = Ns.ats (al.take j) ++ (32 :: y.1.data.toList) := by
 have hl := (List.getElem?_eq_some_iff.1 hj).1
 have hx : al[j] = y := (List.getElem?_eq_some_iff.1 hj).2
 unfold Ns.ats
 rw [List.take_succ_eq_append_getElem hl, List.flatMap_append, hx]
 simp
theorem Ns.ats_le (al : List (ByteArray × ByteArray)) (j : Nat) : (Ns.ats (al.take j)).length ≤ (Ns.ats al).length := by
 have : Ns.ats al = Ns.ats (al.take j) ++ Ns.ats (al.drop j) := by
  unfold Ns.ats
  rw [← List.flatMap_append, List.take_append_drop]
 rw [this, List.length_append]
 omega
set_option maxRecDepth 100000 in
set_option maxHeartbeats 8000000 in
theorem Nm.skeleton (ns : List Nd) (a : Option Addr) (d : Nat) (w : World) (h : Nd.Lies w (· < w.heap.size) ns (.slice a ns.length d)) (hs : ns.length * 8 ≤ 140737488355328) (hz : (Sk.skel ns).length ≤ 140737488355328) :
  Calls Tryz.prog 10 #[.slice a ns.length d] w fun e w' => Below w.heap.size w w' ∧ ((¬ Sk.May ns ∧ e = .returned (.tuple #[.string ⟨#[]⟩, .int .i64 800])) ∨ (Sk.May ns ∧ e = .returned (.tuple #[.string ⟨(Sk.skel ns).toArray⟩, .int .i64 0]))) := by
 have nm := Nm.nodesMay ns a d w h
 obtain ⟨hlen, hdm⟩ : ns.length ≤ d ∧ d ≤ maxLen := by
  obtain ⟨a', d', e, h1, h2, hx⟩ := h
  injection e with e1 e2 e3
  omega
 have hm63 : ns.length ≤ 9223372036854775807 := by unfold maxLen at hdm; omega
 have H := Lib.hid h
 have HZ := Lib.hid hz
 clear h hdm hz
 by_cases hmay : Sk.May ns
 ·
  have HMAY := Lib.hid hmay
  have hn0 := hmay.1
  obtain ⟨M, hmk, hml, hms⟩ := Ns.made ns.length (by omega)
  clear hmay
  go_enter Tryz.func10, Tryz.ntmps10
  go_upto_region 3 with (go_at_call 26; refine nm.mono ?_; rintro e w1 ⟨b, rfl, hb, hb1⟩; have hbt := hb.2 HMAY.out; subst hbt; clear nm hb; have HB1 := Lib.hid hb1; clear hb1)
  have hbs := HB1.out.size
  have hm1 : (w1.alloc (.cells M 3)).ownsRow w.heap.size 3 1 (.slice (some ⟨w1.heap.size, 0, none⟩) ns.length ns.length) ns.length (Um.ints (List.replicate ns.length 0)) := by
   rw [← hml]
   exact World.ownsRow_lit (base := w.heap.size) (e := 3) (size := 1) w1 M ns.length hbs (by unfold maxLen; omega) hms
  have HM1 : Hid (Ns.Mem w.heap.size (w1.alloc (.cells M 3)) (.slice (some ⟨w1.heap.size, 0, none⟩) ns.length ns.length) (.slice none 0 0) (List.replicate ns.length 0) []) := ⟨by rw [List.length_replicate]; exact hm1, World.ownsRow_nil _ _ _ _, fun _ _ e => by cases e⟩
  have HB2 : Hid (Below w.heap.size w (w1.alloc (.cells M 3))) := HB1.out.alloc hbs _
  clear hm1 HB1
  go_wp2_with fail
  clear hmk
  generalize w1.alloc (.cells M 3) = W1 at *
  generalize w1.heap.size = g at *
  go_loopw [5, 6, 7] (fun mv ov ix wr => ∃ (i : Nat) (nums : List Nat), 1 ≤ i ∧ i ≤ ns.length ∧ mv = .int .i64 (Ns.many ns i : Int) ∧ ix = .int .i64 (i : Int) ∧ Hid (Ns.Mem w.heap.size wr (.slice (some ⟨g, 0, none⟩) ns.length ns.length) ov nums (Sk.skel (ns.take i))) ∧ Hid (Ns.Nums ns i nums) ∧ Hid (Below w.heap.size w wr)) (fun _ _ ix _ => ns.length - (intOf ix).toNat)
  case atStart => exact ⟨1, List.replicate ns.length 0, Nat.le_refl _, hn0, by rw [Ns.many_one]; rfl, rfl, by unfold Hid; rw [Ns.skel_one]; exact HM1.out, Ns.Nums.start ns, HB2.out⟩
  case round =>
   clear HM1 HB2
   obtain ⟨i, nums, hi1, hi, rfl, rfl, HM, HN, HB⟩ := hrel
   by_cases hlt : i < ns.length
   ·
    have d1 : decide ((i : Int) < (ns.length : Int)) = true := decide_eq_true (by omega)
    obtain ⟨x, hx⟩ : ∃ x, ns[i]? = some x := ⟨_, List.getElem?_eq_getElem hlt⟩
    have HL : Hid (Nd.Lies wr (· < w.heap.size) ns (.slice a ns.length d)) := H.out.on fun k hk => ⟨hk, HB.out.block k hk⟩
    obtain ⟨bb, oo, aa, ad, rfl, _, _, _, c0, c1, c2, c3, c4, hal, hat⟩ := Nm.cells HL.out hx
    have hbl : bb < wr.heap.size := World.block_lt_of_cell? _ _ c0
    have n1 : wr.heap.size ≠ bb := by omega
    have n2 : bb ≠ wr.heap.size := by omega
    have hid : i < d := by omega
    have hws := HB.out.size
    have hAt := HMAY.out.2 i x hx
    have HX := Lib.hid hx
    have HAT : Hid (Ak.Lies wr (· < w.heap.size) x.attrs (.slice aa x.attrs.length ad)) := hat
    clear hx HL hat
    obtain ⟨hp0, hpi, ⟨y, hy, hyk⟩⟩ : 0 ≤ x.parent ∧ x.parent < (i : Int) ∧ ∃ y, ns[x.parent.toNat]? = some y ∧ y.kind ≠ 2 := by
     rcases hAt with q | q
     ·
      exact absurd q.1 (by omega)
     ·
      obtain ⟨_, q1, q2, ⟨y, hy, hk⟩, _⟩ := q
      exact ⟨q1, q2, y, hy, by omega⟩
    obtain ⟨p, hpe⟩ : ∃ p : Nat, x.parent = (p : Int) := ⟨x.parent.toNat, by omega⟩
    rw [hpe, Int.toNat_natCast] at hy
    have hpi' : p < i := by omega
    have HNP : Hid (nums[p]? = some (Sk.num ns p)) := HN.out.2 p y hpi' hy hyk
    have HST := Lib.hid (Ns.skel_step ns hi1 HX.out (by rw [hpe]; exact hpi'))
    have HMS := Lib.hid (Ns.many_step ns hi1 HX.out)
    have hmle := Ns.many_le ns i
    have hal63 : x.attrs.length ≤ 9223372036854775807 := by unfold maxLen at hal; omega
    have hgl : g < wr.heap.size := (HM.out.n.lt g rfl).2
    have n3 : g ≠ wr.heap.size := by omega
    have n4 : wr.heap.size ≠ g := by omega
    rw [hpe] at c4
    have HPE := Lib.hid hpe
    clear hAt hy hyk hp0 hpi hpe
    go_upto_region 10 with fail
    obtain ⟨W, hW⟩ : ∃ W, wr.alloc (.cells #[.int .i64 x.kind, .string x.name, .string x.text, .slice aa x.attrs.length ad, .int .i64 (p : Int)] 48) = W := ⟨_, rfl⟩
    have hbW : Below wr.heap.size wr W := by rw [← hW]; exact (Below.refl _ _).alloc (Nat.le_refl _) _
    have hWs : wr.heap.size < W.heap.size := by rw [← hW]; simp
    have HBX : Hid (Ns.Box W wr.heap.size x aa ad) := by unfold Hid; rw [← hW, ← HPE.out]; exact Um.five_cells wr x _ _ rfl
    rw [hW]
    have HM2 := Lib.hid (HM.out.on hbW)
    have HBB : Hid (Below w.heap.size w W) := HB.out.trans (hbW.mono hws)
    have HOB : Hid (u6.ownBlock ≠ some wr.heap.size) := fun e => by have := (HM.out.o.lt _ e).2; omega
    have hAW : Ak.Lies W (· < w.heap.size) x.attrs (.slice aa x.attrs.length ad) := HAT.out.on fun k hk => ⟨hk, hbW.block k (by omega)⟩
    have HAW := Lib.hid hAW
    have k0 := HBX.out 0 _ rfl
    clear hW hbW HM HB HAT hAW c0 c1 c2 c3 c4
    generalize wr.heap.size = B at *
    by_cases hk2 : x.kind = 2
    ·
     have k1 : (x.kind == 2) = true := by rw [hk2]; rfl
     rw [if_pos hk2, List.append_nil] at HST
     rw [if_pos hk2, Nat.add_zero] at HMS
     have HNN := Lib.hid (HN.out.skip HX.out hk2)
     have HM3 : Hid (Ns.Mem w.heap.size W (.slice (some ⟨g, 0, none⟩) ns.length ns.length) u6 nums (Sk.skel (ns.take (i + 1)))) := by unfold Hid; rw [HST.out]; exact HM2.out
     have HE : Hid (Ns.many ns i = Ns.many ns (i + 1)) := HMS.out.symm
     clear hk2
     go_wp2
     go_roundw
     case rel => exact ⟨i + 1, nums, by omega, by omega, by rw [HE.out], by go_num, HM3, HNN, HBB⟩
     case measure => simp [intOf]; omega
    ·
     have k1 : (x.kind == 2) = false := beq_eq_false_iff_ne.2 hk2
     rw [if_neg hk2] at HST HMS
     have HNN := Lib.hid (HN.out.put hi1 HX.out hk2)
     have hw1 : IntKind.i64.wrap ((Ns.many ns i : Int) + 1) = (Ns.many ns i : Int) + 1 := by rw [IntKind.wrap_i64]; omega
     have hnl : nums.length = ns.length := HN.out.1
     have hMn := HM2.out.n
     rw [hnl] at hMn
     have gf : ∀ j, W.frozen? ⟨g, j, none⟩ = false := fun j => hMn.frozenAt j
     obtain ⟨q0, hq0⟩ : ∃ q0, nums[i]? = some q0 := ⟨_, List.getElem?_eq_getElem (by omega)⟩
     have gc : W.cell? ⟨g, i, none⟩ = some (.int .i64 (q0 : Int)) := by
      rw [hMn.cellAt i (by omega)]
      exact Um.ints_get hq0
     have hgB : g ≠ B := n3
     have hBX : ∀ v, ∀ j u, (Nd.five x (.slice aa x.attrs.length ad))[j]? = some u → (W.setCell ⟨g, i, none⟩ v).cell? ⟨B, j, none⟩ = some u := fun v j u hj => by
      rw [World.cell?_setCell_other _ _ _ _ (fun e => by injection e with e1; exact hgB e1)]
      exact HBX.out j u hj
     have hA0 : Ns.At w.heap.size (W.setCell ⟨g, i, none⟩ (.int .i64 ((Ns.many ns i : Int) + 1))) B x aa ad (.slice (some ⟨g, 0, none⟩) ns.length ns.length) u6 (nums.set i (Ns.many ns i + 1)) (Sk.skel (ns.take i)) := ⟨HM2.out.put hnl i (Ns.many ns i + 1), hBX _, hws, by simpa using hWs, HOB.out⟩
     have HBV : Hid (Below w.heap.size w (W.setCell ⟨g, i, none⟩ (.int .i64 ((Ns.many ns i : Int) + 1)))) := HBB.out.setCell (HM2.out.n.lt g rfl).1 _
     have HA0 := Lib.hid hA0
     have HAV : Hid (Ak.Lies (W.setCell ⟨g, i, none⟩ (.int .i64 ((Ns.many ns i : Int) + 1))) (· < w.heap.size) x.attrs (.slice aa x.attrs.length ad)) := HAW.out.on fun k hk => ⟨hk, Below.heap_setCell _ _ _ _ (fun e => by have h1 : k = g := e; have h2 : w.heap.size ≤ g := (HM2.out.n.lt g rfl).1; omega)⟩
     have HLEN : Hid ((Sk.skel (ns.take i)).length + ((Lib.decDigits (Sk.num ns p)).length + ((Ns.mid x).length + ((Ns.ats x.attrs).length + 1))) ≤ 140737488355328) := by
      have h1 := Ns.skel_le ns (i + 1)
      rw [HST.out, HPE.out, Int.toNat_natCast, List.length_append] at h1
      have h2 : (Sk.line (Sk.num ns p) x).length = (Lib.decDigits (Sk.num ns p)).length + ((Ns.mid x).length + ((Ns.ats x.attrs).length + 1)) := by
       unfold Sk.line
       rw [List.length_append, List.length_append, List.length_append]
       rfl
      have h3 := HZ.out
      unfold Hid
      omega
     have HLINE : Hid (Sk.skel (ns.take (i + 1)) = Sk.skel (ns.take i) ++ Lib.decDigits (Sk.num ns p) ++ Ns.mid x ++ Ns.ats x.attrs ++ [10]) := by
      unfold Hid
      rw [HST.out, HPE.out, Int.toNat_natCast]
      simp only [List.append_assoc]
      rfl
     have hME : Ns.many ns (i + 1) = Ns.many ns i + 1 := HMS.out
     clear hk2 hA0 hBX HAW HBX HBB HM2 HOB HST HMS hq0 hgB hMn
     go_upto_region 13 with fail
     clear k0 gc gf
     generalize W.setCell ⟨g, i, none⟩ (.int .i64 ((Ns.many ns i : Int) + 1)) = V at *
     have hVs : w.heap.size ≤ V.heap.size := HBV.out.size
     have b4 := HA0.out.box 4 _ rfl
     rw [HPE.out] at b4
     have gp : V.cell? ⟨g, p, none⟩ = some (.int .i64 (Sk.num ns p : Int)) := by
      have hVn := HA0.out.mem.n
      rw [List.length_set, hnl] at hVn
      rw [hVn.cellAt p (by omega)]
      refine Um.ints_get ?_
      rw [List.getElem?_set_ne (by omega)]
      exact HNP.out
     have hpl : p < ns.length := by omega
     have hnum := Ns.num_le ns p
     have dec := fun u => Dm.decimal (Sk.num ns p) (by omega) u
     generalize Sk.num ns p = q at *
     have hDz : (⟨(Lib.decDigits q).toArray⟩ : ByteArray).size = (Lib.decDigits q).length := by show (Lib.decDigits q).toArray.size = _; simp
     have HDB : Hid ((Sk.skel (ns.take i)).length + (⟨(Lib.decDigits q).toArray⟩ : ByteArray).size ≤ 140737488355328) := by have := HLEN.out; unfold Hid; omega
     go_upto_region 14 with (first | (go_at_call 18; refine (dec _).mono ?_; rintro e V2 ⟨rfl, hb2⟩; have HA1 := Lib.hid (HA0.out.on hb2); have HB2 := Lib.hid (HBV.out.trans (hb2.mono hVs)); have HO1 := Lib.hid HA1.out.mem.o; have HAV2 : Hid (Ak.Lies V2 (· < w.heap.size) x.attrs (.slice aa x.attrs.length ad)) := HAV.out.on (fun k hk => ⟨hk, hb2.block k (by omega)⟩); have hV2 : w.heap.size ≤ V2.heap.size := HB2.out.size; clear dec hb2) | (at_builtin; refine Ns.pushS rfl _ _ rfl _ rfl HO1.out ⟨(Lib.decDigits q).toArray⟩ rfl HDB.out hV2 ?_; intro v3 w3 R3 hg3 hf3))
     have HA3 : Hid (Ns.At w.heap.size w3 B x aa ad (.slice (some ⟨g, 0, none⟩) ns.length ns.length) v3 (nums.set i (Ns.many ns i + 1)) (Sk.skel (ns.take i) ++ Lib.decDigits q)) := HA1.out.more (Below.refl _ _) hg3 hf3 (Ns.own_str rfl R3)
     have HB3 : Hid (Below w.heap.size w w3) := HA1.out.below HB2.out hV2 (Below.refl _ _) hg3
     have HAV3 : Hid (Ak.Lies w3 (· < w.heap.size) x.attrs (.slice aa x.attrs.length ad)) := HAV2.out.on fun k hk => ⟨hk, hg3.block k (by omega) (fun e => by have := (HA1.out.mem.o.lt k e.symm).1; omega)⟩
     clear R3 hg3 hf3 HA1 HB2 HO1 HAV2 HA0 HBV HAV b4 gp HDB
     have hV3 : w.heap.size ≤ w3.heap.size := HB3.out.size
     have b0 := HA3.out.box 0 _ rfl
     have b1 := HA3.out.box 1 _ rfl
     have b2 := HA3.out.box 2 _ rfl
     have HO3 := Lib.hid HA3.out.mem.o
     go_upto_if 45 with fail
     go_cut [6] from 45 to 57 (fun v6 wx => Hid (Ns.At w.heap.size wx B x aa ad (.slice (some ⟨g, 0, none⟩) ns.length ns.length) v6 (nums.set i (Ns.many ns i + 1)) (Sk.skel (ns.take i) ++ Lib.decDigits q ++ Ns.mid x) ∧ Below w.heap.size w wx ∧ Ak.Lies wx (· < w.heap.size) x.attrs (.slice aa x.attrs.length ad)))
     case first =>
      by_cases hk3 : x.kind = 3
      ·
       have t3 : (x.kind == 3) = true := by rw [hk3]; rfl
       have HMID : Hid (Ns.mid x = [32, 99, 32] ++ x.text.data.toList) := by unfold Hid Ns.mid; rw [if_pos hk3]
       have HLM : Hid ((Sk.skel (ns.take i)).length + ((Lib.decDigits q).length + (3 + x.text.size)) ≤ 140737488355328) := by
        have h1 := HLEN.out
        rw [HMID.out, List.length_append] at h1
        have h2 : x.text.data.toList.length = x.text.size := (Ns.str x.text).2
        simp only [List.length_cons, List.length_nil] at h1
        unfold Hid
        omega
       have HE1 : Hid ((Sk.skel (ns.take i) ++ Lib.decDigits q).length + (⟨#[32, 99, 32]⟩ : ByteArray).size ≤ 140737488355328) := by
        have h1 := HLM.out
        unfold Hid
        rw [List.length_append]
        show _ + 3 ≤ _
        omega
       clear hk3
       go_upto_region 16 with (at_builtin; refine Ns.pushS rfl _ _ rfl _ rfl HO3.out ⟨#[32, 99, 32]⟩ rfl HE1.out hV3 ?_; intro v4 w4 R4 hg4 hf4)
       have HA4 : Hid (Ns.At w.heap.size w4 B x aa ad (.slice (some ⟨g, 0, none⟩) ns.length ns.length) v4 (nums.set i (Ns.many ns i + 1)) (Sk.skel (ns.take i) ++ Lib.decDigits q ++ [32, 99, 32])) := HA3.out.more (Below.refl _ _) hg4 hf4 (Ns.own_str (s := ⟨#[32, 99, 32]⟩) rfl R4)
       have HB4 : Hid (Below w.heap.size w w4) := HA3.out.below HB3.out hV3 (Below.refl _ _) hg4
       have HAV4 : Hid (Ak.Lies w4 (· < w.heap.size) x.attrs (.slice aa x.attrs.length ad)) := HAV3.out.on fun k hk => ⟨hk, hg4.block k (by omega) (fun e => by have := (HA3.out.mem.o.lt k e.symm).1; omega)⟩
       have hV4 : w.heap.size ≤ w4.heap.size := HB4.out.size
       have HO4 := Lib.hid HA4.out.mem.o
       have e2 := HA4.out.box 2 _ rfl
       have HE2 : Hid ((Sk.skel (ns.take i) ++ Lib.decDigits q ++ [32, 99, 32]).length + x.text.size ≤ 140737488355328) := by
        have h1 := HLM.out
        unfold Hid
        rw [List.length_append, List.length_append]
        show _ + 3 + _ ≤ _
        omega
       clear R4 hg4 hf4 HA3 HB3 HAV3 HO3 b0 b1 b2 HE1
       go_wp2_with (at_builtin; refine Ns.pushS rfl _ _ rfl _ rfl HO4.out x.text rfl HE2.out hV4 ?_; intro v5 w5 R5 hg5 hf5; have HA5 : Hid (Ns.At w.heap.size w5 B x aa ad (.slice (some ⟨g, 0, none⟩) ns.length ns.length) v5 (nums.set i (Ns.many ns i + 1)) (Sk.skel (ns.take i) ++ Lib.decDigits q ++ [32, 99, 32] ++ x.text.data.toList)) := HA4.out.more (Below.refl _ _) hg5 hf5 (Ns.own_str rfl R5); have HB5 : Hid (Below w.heap.size w w5) := HA4.out.below HB4.out hV4 (Below.refl _ _) hg5; have HAV5 : Hid (Ak.Lies w5 (· < w.heap.size) x.attrs (.slice aa x.attrs.length ad)) := HAV4.out.on (fun k hk => ⟨hk, hg5.block k (by omega) (fun e => by have := (HA4.out.mem.o.lt k e.symm).1; omega)⟩); clear R5 hg5 hf5)
       go_meet
       refine Lib.hid ⟨?_, HB5.out, HAV5.out⟩
       rw [HMID.out, ← List.append_assoc]
       exact HA5.out
      ·
       have t3 : (x.kind == 3) = false := beq_eq_false_iff_ne.2 hk3
       have HMID : Hid (Ns.mid x = [32, 101, 32] ++ x.name.data.toList) := by unfold Hid Ns.mid; rw [if_neg hk3]
       have HLM : Hid ((Sk.skel (ns.take i)).length + ((Lib.decDigits q).length + (3 + x.name.size)) ≤ 140737488355328) := by
        have h1 := HLEN.out
        rw [HMID.out, List.length_append] at h1
        have h2 : x.name.data.toList.length = x.name.size := (Ns.str x.name).2
        simp only [List.length_cons, List.length_nil] at h1
        unfold Hid
        omega
       have HE1 : Hid ((Sk.skel (ns.take i) ++ Lib.decDigits q).length + (⟨#[32, 101, 32]⟩ : ByteArray).size ≤ 140737488355328) := by
        have h1 := HLM.out
        unfold Hid
        rw [List.length_append]
        show _ + 3 ≤ _
        omega
       clear hk3
       go_upto_region 18 with (at_builtin; refine Ns.pushS rfl _ _ rfl _ rfl HO3.out ⟨#[32, 101, 32]⟩ rfl HE1.out hV3 ?_; intro v4 w4 R4 hg4 hf4)
       have HA4 : Hid (Ns.At w.heap.size w4 B x aa ad (.slice (some ⟨g, 0, none⟩) ns.length ns.length) v4 (nums.set i (Ns.many ns i + 1)) (Sk.skel (ns.take i) ++ Lib.decDigits q ++ [32, 101, 32])) := HA3.out.more (Below.refl _ _) hg4 hf4 (Ns.own_str (s := ⟨#[32, 101, 32]⟩) rfl R4)
       have HB4 : Hid (Below w.heap.size w w4) := HA3.out.below HB3.out hV3 (Below.refl _ _) hg4
       have HAV4 : Hid (Ak.Lies w4 (· < w.heap.size) x.attrs (.slice aa x.attrs.length ad)) := HAV3.out.on fun k hk => ⟨hk, hg4.block k (by omega) (fun e => by have := (HA3.out.mem.o.lt k e.symm).1; omega)⟩
       have hV4 : w.heap.size ≤ w4.heap.size := HB4.out.size
       have HO4 := Lib.hid HA4.out.mem.o
       have e2 := HA4.out.box 1 _ rfl
       have HE2 : Hid ((Sk.skel (ns.take i) ++ Lib.decDigits q ++ [32, 101, 32]).length + x.name.size ≤ 140737488355328) := by
        have h1 := HLM.out
        unfold Hid
        rw [List.length_append, List.length_append]
        show _ + 3 + _ ≤ _
        omega
       clear R4 hg4 hf4 HA3 HB3 HAV3 HO3 b0 b1 b2 HE1
       go_wp2_with (at_builtin; refine Ns.pushS rfl _ _ rfl _ rfl HO4.out x.name rfl HE2.out hV4 ?_; intro v5 w5 R5 hg5 hf5; have HA5 : Hid (Ns.At w.heap.size w5 B x aa ad (.slice (some ⟨g, 0, none⟩) ns.length ns.length) v5 (nums.set i (Ns.many ns i + 1)) (Sk.skel (ns.take i) ++ Lib.decDigits q ++ [32, 101, 32] ++ x.name.data.toList)) := HA4.out.more (Below.refl _ _) hg5 hf5 (Ns.own_str rfl R5); have HB5 : Hid (Below w.heap.size w w5) := HA4.out.below HB4.out hV4 (Below.refl _ _) hg5; have HAV5 : Hid (Ak.Lies w5 (· < w.heap.size) x.attrs (.slice aa x.attrs.length ad)) := HAV4.out.on (fun k hk => ⟨hk, hg5.block k (by omega) (fun e => by have := (HA4.out.mem.o.lt k e.symm).1; omega)⟩); clear R5 hg5 hf5)
       go_meet
       refine Lib.hid ⟨?_, HB5.out, HAV5.out⟩
       rw [HMID.out, ← List.append_assoc]
       exact HA5.out
     case rest =>
      obtain ⟨hA6, hB6, hV6⟩ := hcut.out
      have HA6 := Lib.hid hA6
      have HB6 := Lib.hid hB6
      have HV6 := Lib.hid hV6
      clear hcut hA6 hB6 hV6 HA3 HB3 HAV3 HO3 b0 b1 b2
      generalize HOUT : Sk.skel (ns.take i) ++ Lib.decDigits q ++ Ns.mid x = OUT at *
      have HOL : Hid (OUT.length + ((Ns.ats x.attrs).length + 1) ≤ 140737488355328) := by
       have h1 := HLEN.out
       unfold Hid
       rw [← HOUT, List.length_append, List.length_append]
       omega
      have HLN2 := HLINE
      clear HOUT HLINE
      go_wp2_with fail
      go_loopw [6, 9] (fun ov jx wz => ∃ j : Nat, j ≤ x.attrs.length ∧ jx = .int .i64 (j : Int) ∧ Hid (Ns.At w.heap.size wz B x aa ad (.slice (some ⟨g, 0, none⟩) ns.length ns.length) ov (nums.set i (Ns.many ns i + 1)) (OUT ++ Ns.ats (x.attrs.take j))) ∧ Hid (Below w.heap.size w wz) ∧ Hid (Ak.Lies wz (· < w.heap.size) x.attrs (.slice aa x.attrs.length ad))) (fun _ jx _ => x.attrs.length - (intOf jx).toNat)
      case atStart => exact ⟨0, Nat.zero_le _, rfl, by unfold Hid; rw [List.take_zero]; show Ns.At _ _ _ _ _ _ _ _ _ (OUT ++ []); rw [List.append_nil]; exact HA6.out, HB6.out, HV6.out⟩
      case round =>
       clear HA6 HB6 HV6
       obtain ⟨j, hj, rfl, HA, HB, HV⟩ := hrel
       have b3 := HA.out.box 3 _ rfl
       have hWb := HB.out.size
       have HO := Lib.hid HA.out.mem.o
       by_cases hjl : j < x.attrs.length
       ·
        have d2 : decide ((j : Int) < (x.attrs.length : Int)) = true := decide_eq_true (by omega)
        obtain ⟨y, hy⟩ : ∃ y, x.attrs[j]? = some y := ⟨_, List.getElem?_eq_getElem hjl⟩
        have HTK := Lib.hid (Ns.ats_take x.attrs j y hy)
        have HLE : Hid ((OUT ++ Ns.ats (x.attrs.take j)).length + (1 + y.1.size) ≤ 140737488355328) := by
         have h1 := Ns.ats_le x.attrs (j + 1)
         rw [HTK.out, List.length_append, List.length_cons] at h1
         have h2 : y.1.data.toList.length = y.1.size := (Ns.str y.1).2
         have h3 := HOL.out
         unfold Hid
         rw [List.length_append]
         omega
        have HN1 : Hid ((OUT ++ Ns.ats (x.attrs.take j)).length + 1 ≤ maxLen ∧ ((OUT ++ Ns.ats (x.attrs.take j)).length + 1) * 1 ≤ 140737488355328) := ⟨by have := HLE.out; unfold maxLen; omega, by have := HLE.out; omega⟩
        have HY := Lib.hid hy
        clear hy
        go_upto_region 23 with (at_builtin; refine Ro.push rfl _ _ 43 5 1 1 _ rfl Tryz.underlying43 Ns.infoB rfl (by decide) _ rfl (HO.out.alloc _) wr.heap.size [.int .u8 32] rfl (Ns.one_byte _ _ _ rfl) rfl (by simp [Value.oneCell']) HN1.out.1 HN1.out.2 (by simp; omega) ?_; intro v7 w7 R7 hg7 hf7)
        have hq7 : Below wr.heap.size wr (wr.alloc (.cells #[.int .u8 32] 5)) := (Below.refl _ _).alloc (Nat.le_refl _) _
        have HA7 : Hid (Ns.At w.heap.size w7 B x aa ad (.slice (some ⟨g, 0, none⟩) ns.length ns.length) v7 (nums.set i (Ns.many ns i + 1)) (OUT ++ Ns.ats (x.attrs.take j) ++ [32])) := HA.out.more hq7 hg7 hf7 (by rw [Ns.cells_append, List.length_append]; exact R7)
        have HB7 : Hid (Below w.heap.size w w7) := HA.out.below HB.out hWb hq7 hg7
        have HV7 : Hid (Ak.Lies w7 (· < w.heap.size) x.attrs (.slice aa x.attrs.length ad)) := HV.out.on fun k hk => ⟨hk, (hg7.block k (by simp; omega) (fun e => by have := (HA.out.mem.o.lt k e.symm).1; omega)).trans (hq7.block k (by omega))⟩
        have b37 := HA7.out.box 3 _ rfl
        obtain ⟨a8, d8, e8, h81, h82, hx8⟩ := id HV7.out
        injection e8 with e81 e82 e83
        subst e81
        subst e83
        obtain ⟨b8, o8, rfl, hb8, n8, _⟩ := hx8 j y HY.out
        have hjd : j < ad := by omega
        have hW7 : w.heap.size ≤ w7.heap.size := HB7.out.size
        have HO7 := Lib.hid HA7.out.mem.o
        have HE7 : Hid ((OUT ++ Ns.ats (x.attrs.take j) ++ [32]).length + y.1.size ≤ 140737488355328) := by
         have h1 := HLE.out
         unfold Hid
         rw [List.length_append]
         show _ + 1 + _ ≤ _
         omega
        clear R7 hg7 hf7 hq7 HA HB HV HO b3 hx8 e82
        go_wp2_with (at_builtin; refine Ns.pushS rfl _ _ rfl _ rfl HO7.out y.1 rfl HE7.out hW7 ?_; intro v9 w9 R9 hg9 hf9; have HA9 : Hid (Ns.At w.heap.size w9 B x (some ⟨b8, o8, none⟩) ad (.slice (some ⟨g, 0, none⟩) ns.length ns.length) v9 (nums.set i (Ns.many ns i + 1)) (OUT ++ Ns.ats (x.attrs.take j) ++ [32] ++ y.1.data.toList)) := HA7.out.more (Below.refl _ _) hg9 hf9 (Ns.own_str rfl R9); have HB9 : Hid (Below w.heap.size w w9) := HA7.out.below HB7.out hW7 (Below.refl _ _) hg9; have HV9 : Hid (Ak.Lies w9 (· < w.heap.size) x.attrs (.slice (some ⟨b8, o8, none⟩) x.attrs.length ad)) := HV7.out.on (fun k hk => ⟨hk, hg9.block k (by omega) (fun e => by have := (HA7.out.mem.o.lt k e.symm).1; omega)⟩); clear R9 hg9 hf9)
        go_roundw
        case rel => exact ⟨j + 1, by omega, by go_num, by unfold Hid; rw [HTK.out]; have := HA9.out; rw [List.append_assoc, List.append_assoc] at this; exact this, HB9, HV9⟩
        case measure => simp [intOf]; omega
       ·
        have e : j = x.attrs.length := by omega
        subst e
        have d2 : decide ((x.attrs.length : Int) < (x.attrs.length : Int)) = false := decide_eq_false (by omega)
        have HN1 : Hid ((OUT ++ Ns.ats (x.attrs.take x.attrs.length)).length + 1 ≤ maxLen ∧ ((OUT ++ Ns.ats (x.attrs.take x.attrs.length)).length + 1) * 1 ≤ 140737488355328) := by
         have h1 := HOL.out
         unfold Hid
         rw [List.take_length, List.length_append]
         exact ⟨by unfold maxLen; omega, by omega⟩
        go_wp2_with (at_builtin; refine Ro.push rfl _ _ 43 5 1 1 _ rfl Tryz.underlying43 Ns.infoB rfl (by decide) _ rfl (HO.out.alloc _) wr.heap.size [.int .u8 10] rfl (Ns.one_byte _ _ _ rfl) rfl (by simp [Value.oneCell']) HN1.out.1 HN1.out.2 (by simp; omega) ?_; intro v7 w7 R7 hg7 hf7; have hq7 : Below wr.heap.size wr (wr.alloc (.cells #[.int .u8 10] 5)) := (Below.refl _ _).alloc (Nat.le_refl _) _; have HA7 : Hid (Ns.At w.heap.size w7 B x aa ad (.slice (some ⟨g, 0, none⟩) ns.length ns.length) v7 (nums.set i (Ns.many ns i + 1)) (OUT ++ Ns.ats (x.attrs.take x.attrs.length) ++ [10])) := HA.out.more hq7 hg7 hf7 (by rw [Ns.cells_append, List.length_append]; exact R7); have HB7 : Hid (Below w.heap.size w w7) := HA.out.below HB.out hWb hq7 hg7; clear R7 hg7 hf7 hq7)
        go_roundw
        case rel => exact ⟨i + 1, _, by omega, by omega, by rw [hME]; rfl, by go_num, by unfold Hid; rw [HLN2.out]; have := HA7.out.mem; rw [List.take_length] at this; exact this, HNN, HB7⟩
        case measure => simp [intOf]; omega
   ·
    have e : i = ns.length := by omega
    subst e
    have d1 : decide ((ns.length : Int) < (ns.length : Int)) = false := decide_eq_false (by omega)
    have hcv := Dm.conv HM.out.o
    rw [List.take_length] at hcv
    clear hi
    go_wp2
    go_ret2
    exact ⟨HB.out, .inr ⟨HMAY.out, rfl⟩⟩
 ·
  have HMAY := Lib.hid hmay
  clear hmay
  go_enter Tryz.func10, Tryz.ntmps10
  go_wp2_with (go_at_call 26; refine nm.mono ?_; rintro e w1 ⟨b, rfl, hb, hb1⟩; have hbf : b = false := (by cases b; rfl; exact absurd (hb.1 rfl) HMAY.out); subst hbf; clear nm hb; have HB1 := Lib.hid hb1; clear hb1)
  go_ret2
  exact ⟨HB1.out, .inl ⟨HMAY.out, rfl⟩⟩
end Go.Proofs.YtblpkjlodncpeaaGreatDoor

/-
  THE WALK of stolelaw8.PageForms, cases 8 to 11.
-/
import Derived.Test.YtblpkjlodncpeaaGreatDoorALFn
import Derived.Test.YtblpkjlodncpeaaGreatDoorATLit
namespace Go.Proofs.YtblpkjlodncpeaaGreatDoor
open Go.RowKit
set_option maxRecDepth 100000 in
set_option maxHeartbeats 4000000 in
theorem Lf.case8 (n x : Int) (m : Int) (w : World) (hm : w.cell? ⟨1, 0, none⟩ = some (.int .i64 m)) (ht : Pq.Tab w) (u : Nat) (hu : IntKind.u64.wrap n = (u : Int)) (hi : (u : Int) % 12 = 8) :
    Calls Tryz.prog 5 #[.int .i64 n, .int .i64 x] w fun e w' => e = .returned (.bool true) ∧ Below w.heap.size w w' := by
  obtain ⟨dd, hd, hd1⟩ : ∃ dd : Nat, 1 + x % 64 = (dd : Int) ∧ 1 ≤ dd ∧ dd ≤ 64 := ⟨(1 + x % 64).toNat, by omega, by omega, by omega⟩
  have h6 := Lf.and6 x
  have hw1 : IntKind.i64.wrap (1 + x % 64) = (dd : Int) := by rw [IntKind.wrap_i64]; omega
  have hw2 : IntKind.i64.wrap (3 + (dd : Int)) = 3 + (dd : Int) := by rw [IntKind.wrap_i64]; omega
  have hw3 : IntKind.i64.wrap (-(dd : Int)) = -(dd : Int) := by rw [IntKind.wrap_i64]; omega
  have aw := A8.awake m w hm ht
  have pa := fun u hu => Pq.parse m Lf.page Lf.nodes 0 Lf.is u (by decide) (Tp.keep (W := w) (w1 := u) hu hm)
  rw [show Lf.nodes.length = 4 from rfl] at pa
  unfold Lf.page at pa
  have HT := Lib.hid ht
  have HSM : Hid (∀ y ∈ Lf.nodes.set 3 ⟨3, Ts.e, ⟨#[113]⟩, [], 2⟩, Lf.Small y) := Lf.smallSet ⟨show (Ts.e : ByteArray).size ≤ 1 by decide, show (⟨#[113]⟩ : ByteArray).size ≤ 1 by decide, show ([] : List (ByteArray × ByteArray)).length ≤ 1 by decide, fun z hz => by cases hz⟩
  have HNM : Hid (¬ Sk.May (Lf.nodes.set 3 ⟨3, Ts.e, ⟨#[113]⟩, [], 2⟩)) := Lf.not 3 ⟨3, Ts.e, ⟨#[113]⟩, [], 2⟩ rfl (by rintro (q | q); exact absurd q.1 (by decide); obtain ⟨y, hy, hk⟩ := q.2.2.2.1; obtain rfl : (⟨2, Ts.e, ⟨#[120]⟩, [], 1⟩ : Nd) = y := Option.some.inj hy; rcases hk with hk | hk; exact absurd hk (by decide); exact absurd hk (by decide))
  clear hd hd1 hm ht
  go_enter Tryz.func5, Tryz.ntmps5
  go_upto_region 4 with (go_at_call 17; refine aw.mono ?_; rintro e w1 ⟨rfl, q1⟩; clear aw)
  have pa := pa w1 q1
  go_upto_region 5 with (go_at_call 7; refine pa.mono ?_; rintro e w2 ⟨a2, d2, rfl, l2, b2⟩; clear pa)
  obtain ⟨bb, oo, aa, ad, rfl, _, hld, hdm, c0, c1, c2, c3, c4, _, _⟩ := Nm.cells (ns := Lf.nodes) l2 (i := 3) (x := ⟨3, Ts.e, ⟨#[113]⟩, [], 1⟩) rfl
  have hub : w1.heap.size ≤ bb ∧ bb < w2.heap.size ∧ Rm.Ub w2 bb := by
    obtain ⟨_, _, e9, _, _, hx9⟩ := id l2
    injection e9 with e91
    subst e91
    obtain ⟨b9, o9, _, e9, hb9, _⟩ := hx9 3 ⟨3, Ts.e, ⟨#[113]⟩, [], 1⟩ rfl
    injection e9 with e9
    injection e9 with e9
    subst e9
    exact hb9
  have fz := hub.2.2
  unfold Rm.Ub at fz
  have hq1 := q1.size
  have hbb : w.heap.size ≤ bb := Nat.le_trans hq1 hub.1
  have hB2 := q1.trans (b2.mono q1.size)
  have hS := Lf.set (ns := Lf.nodes) (b := bb) (o := oo) (d := d2) (i := 3) (r := 4) (x := ⟨3, Ts.e, ⟨#[113]⟩, [], 1⟩) (x' := ⟨3, Ts.e, ⟨#[113]⟩, [], 2⟩) (v := .int .i64 (2)) (old := .int .i64 (1)) (l2.on (R' := (· < w2.heap.size)) (w' := w2) fun j hj => ⟨hj.2.1, rfl⟩) rfl (fun _ => rfl) (fun _ => rfl) rfl (Lf.noInt _)
  have HS := Lib.hid hS
  have HB2 := Lib.hid hB2
  clear hS hB2 l2 b2 hub q1 hq1
  go_upto_region 31 with (go_at_call 14; refine (A8.num _ _).mono ?_; rintro e w' ⟨rfl, hw⟩; have hw := hw.symm; subst hw)
  obtain ⟨V, hV⟩ : ∃ V, w2.setCell ⟨bb, oo + 15 + 4, none⟩ (.int .i64 (2)) = V := ⟨_, rfl⟩
  have hS : Nd.Lies V (· < w2.heap.size) (Lf.nodes.set 3 ⟨3, Ts.e, ⟨#[113]⟩, [], 2⟩) (.slice (some ⟨bb, oo, none⟩) 4 d2) := by rw [← hV]; exact HS.out
  have hbV : Below w.heap.size w V := by rw [← hV]; exact HB2.out.setCell hbb _
  have hsz : V.heap.size = w2.heap.size := by rw [← hV]; simp
  have sk := Lf.skel rfl HSM.out HNM.out (some ⟨bb, oo, none⟩) d2 V (hS.on fun j hj => ⟨by omega, rfl⟩) (HT.out.on hbV)
  have HLV := Lib.hid hS
  have HBV := Lib.hid hbV
  try rw [hV]
  clear hV hS hbV HS c0 c1 c2 c3 c4 fz hbb hld hdm
  go_wp2_with (first | (go_at_call 9; refine sk.mono ?_; rintro e w3 ⟨rfl, b3⟩; clear sk; have tx := Lf.text rfl HSM.out HNM.out (some ⟨bb, oo, none⟩) d2 w3 (HLV.out.on fun j hj => ⟨Nat.lt_of_lt_of_le (show j < V.heap.size by omega) b3.size, b3.block j (by omega)⟩); have HB3 := Lib.hid (HBV.out.trans (b3.mono HBV.out.size)); clear b3) | (go_at_call 11; refine tx.mono ?_; rintro e w4 ⟨rfl, b4⟩; clear tx; have HB4 := Lib.hid (HB3.out.trans (b4.mono HB3.out.size)); clear b4) | (go_at_call 14; refine (A8.num _ _).mono ?_; rintro e w' ⟨rfl, hw⟩; have hw := hw.symm; subst hw))
  go_ret
  exact ⟨rfl, HB4.out⟩
set_option maxRecDepth 100000 in
set_option maxHeartbeats 4000000 in
theorem Lf.case9 (n x : Int) (m : Int) (w : World) (hm : w.cell? ⟨1, 0, none⟩ = some (.int .i64 m)) (ht : Pq.Tab w) (u : Nat) (hu : IntKind.u64.wrap n = (u : Int)) (hi : (u : Int) % 12 = 9) :
    Calls Tryz.prog 5 #[.int .i64 n, .int .i64 x] w fun e w' => e = .returned (.bool true) ∧ Below w.heap.size w w' := by
  obtain ⟨dd, hd, hd1⟩ : ∃ dd : Nat, 1 + x % 64 = (dd : Int) ∧ 1 ≤ dd ∧ dd ≤ 64 := ⟨(1 + x % 64).toNat, by omega, by omega, by omega⟩
  have h6 := Lf.and6 x
  have hw1 : IntKind.i64.wrap (1 + x % 64) = (dd : Int) := by rw [IntKind.wrap_i64]; omega
  have hw2 : IntKind.i64.wrap (3 + (dd : Int)) = 3 + (dd : Int) := by rw [IntKind.wrap_i64]; omega
  have hw3 : IntKind.i64.wrap (-(dd : Int)) = -(dd : Int) := by rw [IntKind.wrap_i64]; omega
  have aw := A8.awake m w hm ht
  have pa := fun u hu => Pq.parse m Lf.page Lf.nodes 0 Lf.is u (by decide) (Tp.keep (W := w) (w1 := u) hu hm)
  rw [show Lf.nodes.length = 4 from rfl] at pa
  unfold Lf.page at pa
  have HT := Lib.hid ht
  have HSM : Hid (∀ y ∈ Lf.nodes.set 2 ⟨3 + (dd : Int), Ts.e, ⟨#[120]⟩, [], 1⟩, Lf.Small y) := Lf.smallSet ⟨show (Ts.e : ByteArray).size ≤ 1 by decide, show (⟨#[120]⟩ : ByteArray).size ≤ 1 by decide, show ([] : List (ByteArray × ByteArray)).length ≤ 1 by decide, fun z hz => by cases hz⟩
  have HNM : Hid (¬ Sk.May (Lf.nodes.set 2 ⟨3 + (dd : Int), Ts.e, ⟨#[120]⟩, [], 1⟩)) := Lf.not 2 ⟨3 + (dd : Int), Ts.e, ⟨#[120]⟩, [], 1⟩ rfl (by rintro (q | q); exact absurd q.1 (by decide); rcases q.2.2.2.2 with q | q; exact absurd (show 3 + (dd : Int) = 1 from q.1) (by omega); rcases q.1 with q | q; exact absurd (show 3 + (dd : Int) = 2 from q) (by omega); exact absurd (show 3 + (dd : Int) = 3 from q) (by omega))
  clear hd hd1 hm ht
  go_enter Tryz.func5, Tryz.ntmps5
  go_upto_region 4 with (go_at_call 17; refine aw.mono ?_; rintro e w1 ⟨rfl, q1⟩; clear aw)
  have pa := pa w1 q1
  go_upto_region 5 with (go_at_call 7; refine pa.mono ?_; rintro e w2 ⟨a2, d2, rfl, l2, b2⟩; clear pa)
  obtain ⟨bb, oo, aa, ad, rfl, _, hld, hdm, c0, c1, c2, c3, c4, _, _⟩ := Nm.cells (ns := Lf.nodes) l2 (i := 2) (x := ⟨2, Ts.e, ⟨#[120]⟩, [], 1⟩) rfl
  have hub : w1.heap.size ≤ bb ∧ bb < w2.heap.size ∧ Rm.Ub w2 bb := by
    obtain ⟨_, _, e9, _, _, hx9⟩ := id l2
    injection e9 with e91
    subst e91
    obtain ⟨b9, o9, _, e9, hb9, _⟩ := hx9 2 ⟨2, Ts.e, ⟨#[120]⟩, [], 1⟩ rfl
    injection e9 with e9
    injection e9 with e9
    subst e9
    exact hb9
  have fz := hub.2.2
  unfold Rm.Ub at fz
  have hq1 := q1.size
  have hbb : w.heap.size ≤ bb := Nat.le_trans hq1 hub.1
  have hB2 := q1.trans (b2.mono q1.size)
  have hS := Lf.set (ns := Lf.nodes) (b := bb) (o := oo) (d := d2) (i := 2) (r := 0) (x := ⟨2, Ts.e, ⟨#[120]⟩, [], 1⟩) (x' := ⟨3 + (dd : Int), Ts.e, ⟨#[120]⟩, [], 1⟩) (v := .int .i64 (3 + (dd : Int))) (old := .int .i64 (2)) (l2.on (R' := (· < w2.heap.size)) (w' := w2) fun j hj => ⟨hj.2.1, rfl⟩) rfl (fun _ => rfl) (fun _ => rfl) rfl (Lf.noInt _)
  have HS := Lib.hid hS
  have HB2 := Lib.hid hB2
  clear hS hB2 l2 b2 hub q1 hq1
  go_upto_region 31 with (go_at_call 14; refine (A8.num _ _).mono ?_; rintro e w' ⟨rfl, hw⟩; have hw := hw.symm; subst hw)
  obtain ⟨V, hV⟩ : ∃ V, w2.setCell ⟨bb, oo + 10, none⟩ (.int .i64 (3 + (dd : Int))) = V := ⟨_, rfl⟩
  have hS : Nd.Lies V (· < w2.heap.size) (Lf.nodes.set 2 ⟨3 + (dd : Int), Ts.e, ⟨#[120]⟩, [], 1⟩) (.slice (some ⟨bb, oo, none⟩) 4 d2) := by rw [← hV]; exact HS.out
  have hbV : Below w.heap.size w V := by rw [← hV]; exact HB2.out.setCell hbb _
  have hsz : V.heap.size = w2.heap.size := by rw [← hV]; simp
  have sk := Lf.skel rfl HSM.out HNM.out (some ⟨bb, oo, none⟩) d2 V (hS.on fun j hj => ⟨by omega, rfl⟩) (HT.out.on hbV)
  have HLV := Lib.hid hS
  have HBV := Lib.hid hbV
  try rw [hV]
  clear hV hS hbV HS c0 c1 c2 c3 c4 fz hbb hld hdm
  go_wp2_with (first | (go_at_call 9; refine sk.mono ?_; rintro e w3 ⟨rfl, b3⟩; clear sk; have tx := Lf.text rfl HSM.out HNM.out (some ⟨bb, oo, none⟩) d2 w3 (HLV.out.on fun j hj => ⟨Nat.lt_of_lt_of_le (show j < V.heap.size by omega) b3.size, b3.block j (by omega)⟩); have HB3 := Lib.hid (HBV.out.trans (b3.mono HBV.out.size)); clear b3) | (go_at_call 11; refine tx.mono ?_; rintro e w4 ⟨rfl, b4⟩; clear tx; have HB4 := Lib.hid (HB3.out.trans (b4.mono HB3.out.size)); clear b4) | (go_at_call 14; refine (A8.num _ _).mono ?_; rintro e w' ⟨rfl, hw⟩; have hw := hw.symm; subst hw))
  go_ret
  exact ⟨rfl, HB4.out⟩
set_option maxRecDepth 100000 in
set_option maxHeartbeats 4000000 in
theorem Lf.case10 (n x : Int) (m : Int) (w : World) (hm : w.cell? ⟨1, 0, none⟩ = some (.int .i64 m)) (ht : Pq.Tab w) (u : Nat) (hu : IntKind.u64.wrap n = (u : Int)) (hi : (u : Int) % 12 = 10) :
    Calls Tryz.prog 5 #[.int .i64 n, .int .i64 x] w fun e w' => e = .returned (.bool true) ∧ Below w.heap.size w w' := by
  obtain ⟨dd, hd, hd1⟩ : ∃ dd : Nat, 1 + x % 64 = (dd : Int) ∧ 1 ≤ dd ∧ dd ≤ 64 := ⟨(1 + x % 64).toNat, by omega, by omega, by omega⟩
  have h6 := Lf.and6 x
  have hw1 : IntKind.i64.wrap (1 + x % 64) = (dd : Int) := by rw [IntKind.wrap_i64]; omega
  have hw2 : IntKind.i64.wrap (3 + (dd : Int)) = 3 + (dd : Int) := by rw [IntKind.wrap_i64]; omega
  have hw3 : IntKind.i64.wrap (-(dd : Int)) = -(dd : Int) := by rw [IntKind.wrap_i64]; omega
  have aw := A8.awake m w hm ht
  have pa := fun u hu => Pq.parse m Lf.page Lf.nodes 0 Lf.is u (by decide) (Tp.keep (W := w) (w1 := u) hu hm)
  rw [show Lf.nodes.length = 4 from rfl] at pa
  unfold Lf.page at pa
  have HT := Lib.hid ht
  have HSM : Hid (∀ y ∈ Lf.nodes.set 2 ⟨2, Ts.e, ⟨#[120]⟩, [(Ts.e, Ts.e)], 1⟩, Lf.Small y) := Lf.smallSet ⟨by decide, by decide, by decide, fun z hz => by rw [List.mem_singleton.1 hz]; decide⟩
  have HNM : Hid (¬ Sk.May (Lf.nodes.set 2 ⟨2, Ts.e, ⟨#[120]⟩, [(Ts.e, Ts.e)], 1⟩)) := Lf.not 2 ⟨2, Ts.e, ⟨#[120]⟩, [(Ts.e, Ts.e)], 1⟩ rfl (by rintro (q | q); exact absurd q.1 (by decide); rcases q.2.2.2.2 with q | q; exact absurd q.1 (by decide); exact absurd q.2.2 (by simp))
  clear hd hd1 hm ht
  go_enter Tryz.func5, Tryz.ntmps5
  go_upto_region 4 with (go_at_call 17; refine aw.mono ?_; rintro e w1 ⟨rfl, q1⟩; clear aw)
  have pa := pa w1 q1
  go_upto_region 5 with (go_at_call 7; refine pa.mono ?_; rintro e w2 ⟨a2, d2, rfl, l2, b2⟩; clear pa)
  obtain ⟨bb, oo, aa, ad, rfl, _, hld, hdm, c0, c1, c2, c3, c4, _, _⟩ := Nm.cells (ns := Lf.nodes) l2 (i := 2) (x := ⟨2, Ts.e, ⟨#[120]⟩, [], 1⟩) rfl
  have hub : w1.heap.size ≤ bb ∧ bb < w2.heap.size ∧ Rm.Ub w2 bb := by
    obtain ⟨_, _, e9, _, _, hx9⟩ := id l2
    injection e9 with e91
    subst e91
    obtain ⟨b9, o9, _, e9, hb9, _⟩ := hx9 2 ⟨2, Ts.e, ⟨#[120]⟩, [], 1⟩ rfl
    injection e9 with e9
    injection e9 with e9
    subst e9
    exact hb9
  have fz := hub.2.2
  unfold Rm.Ub at fz
  have hq1 := q1.size
  have hbb : w.heap.size ≤ bb := Nat.le_trans hq1 hub.1
  have hB2 := q1.trans (b2.mono q1.size)
  obtain ⟨U, hU⟩ : ∃ U, w2.alloc (.cells #[.string ⟨#[]⟩, .string ⟨#[]⟩] 50) = U := ⟨_, rfl⟩
  have hbU : Below w2.heap.size w2 U := by rw [← hU]; exact (Below.refl _ _).alloc (Nat.le_refl _) _
  have hUb : U.heap[w2.heap.size]? = some (.cells #[.string ⟨#[]⟩, .string ⟨#[]⟩] 50 (0, 0)) := by rw [← hU]; exact heap_alloc_new w2 _
  have hUs : w2.heap.size < U.heap.size := by rw [← hU]; simp
  have hAl : Ak.Lies U (· < U.heap.size) [(Ts.e, Ts.e)] (.slice (some ⟨w2.heap.size, 0, none⟩) 1 1) := Ak.Lies.lit [(Ts.e, Ts.e)] _ hUb rfl hUs (by decide)
  have hS := Lf.setA (ns := Lf.nodes) (b := bb) (o := oo) (d := d2) (i := 2) (x := ⟨2, Ts.e, ⟨#[120]⟩, [], 1⟩) (l2.on (R' := (· < U.heap.size)) (w' := U) fun j hj => ⟨Nat.lt_of_lt_of_le hj.2.1 hbU.size, hbU.block j hj.2.1⟩) rfl [(Ts.e, Ts.e)] (.slice (some ⟨w2.heap.size, 0, none⟩) 1 1) hAl
  have HS := Lib.hid hS
  have HBU := Lib.hid (hB2.trans (hbU.mono hB2.size))
  have uc3 := Tp.keep hbU c3
  have uf := Tp.keepF hbU hub.2.1 fz
  have n1 : bb ≠ w2.heap.size := by omega
  have n2 : w2.heap.size ≠ bb := by omega
  clear hS hB2 l2 b2 hub q1 hq1 hAl hUb hUs hbU
  go_upto_region 31 with (go_at_call 14; refine (A8.num _ _).mono ?_; rintro e w' ⟨rfl, hw⟩; have hw := hw.symm; subst hw)
  try rw [hU]
  clear hU uc3 uf
  obtain ⟨V, hV⟩ : ∃ V, U.setCell ⟨bb, oo + 10 + 3, none⟩ (.slice (some ⟨w2.heap.size, 0, none⟩) 1 1) = V := ⟨_, rfl⟩
  have hS : Nd.Lies V (· < U.heap.size) (Lf.nodes.set 2 ⟨2, Ts.e, ⟨#[120]⟩, [(Ts.e, Ts.e)], 1⟩) (.slice (some ⟨bb, oo, none⟩) 4 d2) := by rw [← hV]; exact HS.out
  have hbV : Below w.heap.size w V := by rw [← hV]; exact HBU.out.setCell hbb _
  have hsz : V.heap.size = U.heap.size := by rw [← hV]; simp
  have sk := Lf.skel rfl HSM.out HNM.out (some ⟨bb, oo, none⟩) d2 V (hS.on fun j hj => ⟨by omega, rfl⟩) (HT.out.on hbV)
  have HLV := Lib.hid hS
  have HBV := Lib.hid hbV
  try rw [hV]
  clear hV hS hbV HS c0 c1 c2 c3 c4 fz hbb hld hdm
  go_wp2_with (first | (go_at_call 9; refine sk.mono ?_; rintro e w3 ⟨rfl, b3⟩; clear sk; have tx := Lf.text rfl HSM.out HNM.out (some ⟨bb, oo, none⟩) d2 w3 (HLV.out.on fun j hj => ⟨Nat.lt_of_lt_of_le (show j < V.heap.size by omega) b3.size, b3.block j (by omega)⟩); have HB3 := Lib.hid (HBV.out.trans (b3.mono HBV.out.size)); clear b3) | (go_at_call 11; refine tx.mono ?_; rintro e w4 ⟨rfl, b4⟩; clear tx; have HB4 := Lib.hid (HB3.out.trans (b4.mono HB3.out.size)); clear b4) | (go_at_call 14; refine (A8.num _ _).mono ?_; rintro e w' ⟨rfl, hw⟩; have hw := hw.symm; subst hw))
  go_ret
  exact ⟨rfl, HB4.out⟩
set_option maxRecDepth 100000 in
set_option maxHeartbeats 4000000 in
theorem Lf.case11 (n x : Int) (m : Int) (w : World) (hm : w.cell? ⟨1, 0, none⟩ = some (.int .i64 m)) (ht : Pq.Tab w) (u : Nat) (hu : IntKind.u64.wrap n = (u : Int)) (hi : (u : Int) % 12 = 11) :
    Calls Tryz.prog 5 #[.int .i64 n, .int .i64 x] w fun e w' => e = .returned (.bool true) ∧ Below w.heap.size w w' := by
  obtain ⟨dd, hd, hd1⟩ : ∃ dd : Nat, 1 + x % 64 = (dd : Int) ∧ 1 ≤ dd ∧ dd ≤ 64 := ⟨(1 + x % 64).toNat, by omega, by omega, by omega⟩
  have h6 := Lf.and6 x
  have hw1 : IntKind.i64.wrap (1 + x % 64) = (dd : Int) := by rw [IntKind.wrap_i64]; omega
  have hw2 : IntKind.i64.wrap (3 + (dd : Int)) = 3 + (dd : Int) := by rw [IntKind.wrap_i64]; omega
  have hw3 : IntKind.i64.wrap (-(dd : Int)) = -(dd : Int) := by rw [IntKind.wrap_i64]; omega
  have aw := A8.awake m w hm ht
  have pa := fun u hu => Pq.parse m Lf.page Lf.nodes 0 Lf.is u (by decide) (Tp.keep (W := w) (w1 := u) hu hm)
  rw [show Lf.nodes.length = 4 from rfl] at pa
  unfold Lf.page at pa
  have HT := Lib.hid ht
  clear hd hd1 hm ht
  have hn : ¬ Sk.May [] := fun q => absurd q.1 (by decide)
  have HN := Lib.hid hn
  clear hn
  go_enter Tryz.func5, Tryz.ntmps5
  go_upto_region 4 with (go_at_call 17; refine aw.mono ?_; rintro e w1 ⟨rfl, q1⟩; clear aw)
  have pa := pa w1 q1
  go_upto_region 5 with (go_at_call 7; refine pa.mono ?_; rintro e w2 ⟨a2, d2, rfl, l2, b2⟩; clear pa)
  have hbV := q1.trans (b2.mono q1.size)
  have sk := Pq.skeleton [] none 0 w2 (Nm.nilNodes _ _) (by decide) (by decide) (HT.out.on hbV)
  have HBV := Lib.hid hbV
  clear hbV l2 b2 q1
  go_wp2_with (first | (go_at_call 9; refine sk.mono ?_; rintro e w3 ⟨b3, hc⟩; clear sk; have he : e = .returned (.tuple #[.string ⟨#[]⟩, .int .i64 800]) := (by rcases hc with q | q; exact q.2; exact absurd q.1 HN.out); subst he; have tx := Pq.texts [] none 0 w3 (Nm.nilNodes _ _) (by decide) (fun x hx => by cases hx); have HB3 := Lib.hid (HBV.out.trans (b3.mono HBV.out.size)); clear b3 hc) | (go_at_call 11; refine tx.mono ?_; rintro e w4 ⟨b4, hc⟩; clear tx; have he : e = .returned (.tuple #[.slice none 0 0, .int .i64 800]) := (by rcases hc with q | q; exact q.2; exact absurd q.1 HN.out); subst he; have HB4 := Lib.hid (HB3.out.trans (b4.mono HB3.out.size)); clear b4 hc) | (go_at_call 14; refine (A8.num _ _).mono ?_; rintro e w' ⟨rfl, hw⟩; have hw := hw.symm; subst hw))
  go_ret
  exact ⟨rfl, HB4.out⟩
end Go.Proofs.YtblpkjlodncpeaaGreatDoor

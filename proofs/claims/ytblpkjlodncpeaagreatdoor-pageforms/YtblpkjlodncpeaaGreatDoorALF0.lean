/-
  THE WALK of stolelaw8.PageForms, cases 0 to 3.
-/
import Derived.Test.YtblpkjlodncpeaaGreatDoorALFn
import Derived.Test.YtblpkjlodncpeaaGreatDoorATLit
namespace Go.Proofs.YtblpkjlodncpeaaGreatDoor
open Go.RowKit
set_option maxRecDepth 100000 in
set_option maxHeartbeats 4000000 in
theorem Lf.case0 (n x : Int) (m : Int) (w : World) (hm : w.cell? ⟨1, 0, none⟩ = some (.int .i64 m)) (ht : Pq.Tab w) (u : Nat) (hu : IntKind.u64.wrap n = (u : Int)) (hi : (u : Int) % 12 = 0) :
    Calls Tryz.prog 5 #[.int .i64 n, .int .i64 x] w fun e w' => e = .returned (.bool true) ∧ Below w.heap.size w w' := by
  obtain ⟨dd, hd, hd1⟩ : ∃ dd : Nat, 1 + x % 64 = (dd : Int) ∧ 1 ≤ dd ∧ dd ≤ 64 := ⟨(1 + x % 64).toNat, by omega, by omega, by omega⟩
  have h6 := Lf.and6 x
  have hw1 : IntKind.i64.wrap (1 + x % 64) = (dd : Int) := by rw [IntKind.wrap_i64]; omega
  have hw2 : IntKind.i64.wrap (3 + (dd : Int)) = 3 + (dd : Int) := by rw [IntKind.wrap_i64]; omega
  have hw3 : IntKind.i64.wrap (-(dd : Int)) = -(dd : Int) := by rw [IntKind.wrap_i64]; omega
  have aw := A8.awake m w hm ht
  have pa := fun u hu => Pq.parse m Lf.page Lf.nodes 0 Lf.is u (by decide) (Tp.keep (W := w) (w1 := u) hu hm)
  rw [show Lf.nodes.length = 4 from rfl] at pa
  unfold Lf.page at pa
  have HT := Lib.hid ht
  have HSM : Hid (∀ y ∈ Lf.nodes.set 0 ⟨0, Ts.e, Ts.e, [], 0⟩, Lf.Small y) := Lf.smallSet ⟨show (Ts.e : ByteArray).size ≤ 1 by decide, show (Ts.e : ByteArray).size ≤ 1 by decide, show ([] : List (ByteArray × ByteArray)).length ≤ 1 by decide, fun z hz => by cases hz⟩
  have HNM : Hid (¬ Sk.May (Lf.nodes.set 0 ⟨0, Ts.e, Ts.e, [], 0⟩)) := Lf.not 0 ⟨0, Ts.e, Ts.e, [], 0⟩ rfl (by rintro (q | q); exact absurd q.2.2.1 (by decide); exact absurd q.1 (by decide))
  clear hd hd1 hm ht
  go_enter Tryz.func5, Tryz.ntmps5
  go_upto_region 4 with (go_at_call 17; refine aw.mono ?_; rintro e w1 ⟨rfl, q1⟩; clear aw)
  have pa := pa w1 q1
  go_upto_region 5 with (go_at_call 7; refine pa.mono ?_; rintro e w2 ⟨a2, d2, rfl, l2, b2⟩; clear pa)
  obtain ⟨bb, oo, aa, ad, rfl, _, hld, hdm, c0, c1, c2, c3, c4, _, _⟩ := Nm.cells (ns := Lf.nodes) l2 (i := 0) (x := ⟨0, Ts.e, Ts.e, [], -1⟩) rfl
  have hub : w1.heap.size ≤ bb ∧ bb < w2.heap.size ∧ Rm.Ub w2 bb := by
    obtain ⟨_, _, e9, _, _, hx9⟩ := id l2
    injection e9 with e91
    subst e91
    obtain ⟨b9, o9, _, e9, hb9, _⟩ := hx9 0 ⟨0, Ts.e, Ts.e, [], -1⟩ rfl
    injection e9 with e9
    injection e9 with e9
    subst e9
    exact hb9
  rw [Nat.zero_mul, Nat.add_zero] at c0 c1 c2 c3 c4
  have fz := hub.2.2
  unfold Rm.Ub at fz
  have hq1 := q1.size
  have hbb : w.heap.size ≤ bb := Nat.le_trans hq1 hub.1
  have hB2 := q1.trans (b2.mono q1.size)
  have hS := Lf.set (ns := Lf.nodes) (b := bb) (o := oo) (d := d2) (i := 0) (r := 4) (x := ⟨0, Ts.e, Ts.e, [], -1⟩) (x' := ⟨0, Ts.e, Ts.e, [], 0⟩) (v := .int .i64 (0)) (old := .int .i64 (-1)) (l2.on (R' := (· < w2.heap.size)) (w' := w2) fun j hj => ⟨hj.2.1, rfl⟩) rfl (fun _ => rfl) (fun _ => rfl) rfl (Lf.noInt _)
  have HS := Lib.hid hS
  have HB2 := Lib.hid hB2
  clear hS hB2 l2 b2 hub q1 hq1
  go_upto_region 31 with (go_at_call 14; refine (A8.num _ _).mono ?_; rintro e w' ⟨rfl, hw⟩; have hw := hw.symm; subst hw)
  obtain ⟨V, hV⟩ : ∃ V, w2.setCell ⟨bb, oo + 4, none⟩ (.int .i64 (0)) = V := ⟨_, rfl⟩
  have hS : Nd.Lies V (· < w2.heap.size) (Lf.nodes.set 0 ⟨0, Ts.e, Ts.e, [], 0⟩) (.slice (some ⟨bb, oo, none⟩) 4 d2) := by rw [← hV]; exact HS.out
  have hbV : Below w.heap.size w V := by rw [← hV]; exact HB2.out.setCell hbb _
  have hsz : V.heap.size = w2.heap.size := by rw [← hV]; simp
  have sk := Lf.skel rfl HSM.out HNM.out (some ⟨bb, oo, none⟩) d2 V (hS.on fun j hj => ⟨by omega, rfl⟩) (HT.out.on hbV)
  have HLV := Lib.hid hS
  have HBV := Lib.hid hbV
  try rw [hV]
  clear hV hS hbV HS c0 c1 c2 c3 c4 fz hbb hld hdm
  go_wp2_with (first | (go_at_call 9; refine sk.mono ?_; rintro e w3 ⟨rfl, b3⟩; clear sk; have tx := Lf.text rfl HSM.out HNM.out (some ⟨bb, oo, none⟩) d2 w3 (HLV.out.on fun j hj => ⟨Nat.lt_of_lt_of_le (show j < V.heap.size by omega) b3.size, b3.block j (by omega)⟩); have HB3 := Lib.hid (HBV.out.trans (b3.mono HBV.out.size)); clear b3) | (go_at_call 11; refine tx.mono ?_; rintro e w4 ⟨rfl, b4⟩; clear tx; have HB4 := Lib.hid (HB3.out.trans (b4.mono HB3.out.size)); clear b4) | (go_at_call 14; refine (A8.num _ _).mono ?_; rintro e w' ⟨rfl, hw⟩; have hw := hw.symm; subst hw))
  go_ret
  exact ⟨rfl, HB4.out⟩
set_option maxRecDepth 100000 in
set_option maxHeartbeats 4000000 in
theorem Lf.case1 (n x : Int) (m : Int) (w : World) (hm : w.cell? ⟨1, 0, none⟩ = some (.int .i64 m)) (ht : Pq.Tab w) (u : Nat) (hu : IntKind.u64.wrap n = (u : Int)) (hi : (u : Int) % 12 = 1) :
    Calls Tryz.prog 5 #[.int .i64 n, .int .i64 x] w fun e w' => e = .returned (.bool true) ∧ Below w.heap.size w w' := by
  obtain ⟨dd, hd, hd1⟩ : ∃ dd : Nat, 1 + x % 64 = (dd : Int) ∧ 1 ≤ dd ∧ dd ≤ 64 := ⟨(1 + x % 64).toNat, by omega, by omega, by omega⟩
  have h6 := Lf.and6 x
  have hw1 : IntKind.i64.wrap (1 + x % 64) = (dd : Int) := by rw [IntKind.wrap_i64]; omega
  have hw2 : IntKind.i64.wrap (3 + (dd : Int)) = 3 + (dd : Int) := by rw [IntKind.wrap_i64]; omega
  have hw3 : IntKind.i64.wrap (-(dd : Int)) = -(dd : Int) := by rw [IntKind.wrap_i64]; omega
  have aw := A8.awake m w hm ht
  have pa := fun u hu => Pq.parse m Lf.page Lf.nodes 0 Lf.is u (by decide) (Tp.keep (W := w) (w1 := u) hu hm)
  rw [show Lf.nodes.length = 4 from rfl] at pa
  unfold Lf.page at pa
  have HT := Lib.hid ht
  have HSM : Hid (∀ y ∈ Lf.nodes.set 0 ⟨1, Ts.e, Ts.e, [], -1⟩, Lf.Small y) := Lf.smallSet ⟨show (Ts.e : ByteArray).size ≤ 1 by decide, show (Ts.e : ByteArray).size ≤ 1 by decide, show ([] : List (ByteArray × ByteArray)).length ≤ 1 by decide, fun z hz => by cases hz⟩
  have HNM : Hid (¬ Sk.May (Lf.nodes.set 0 ⟨1, Ts.e, Ts.e, [], -1⟩)) := Lf.not 0 ⟨1, Ts.e, Ts.e, [], -1⟩ rfl (by rintro (q | q); exact absurd q.2.1 (by decide); exact absurd q.1 (by decide))
  clear hd hd1 hm ht
  go_enter Tryz.func5, Tryz.ntmps5
  go_upto_region 4 with (go_at_call 17; refine aw.mono ?_; rintro e w1 ⟨rfl, q1⟩; clear aw)
  have pa := pa w1 q1
  go_upto_region 5 with (go_at_call 7; refine pa.mono ?_; rintro e w2 ⟨a2, d2, rfl, l2, b2⟩; clear pa)
  obtain ⟨bb, oo, aa, ad, rfl, _, hld, hdm, c0, c1, c2, c3, c4, _, _⟩ := Nm.cells (ns := Lf.nodes) l2 (i := 0) (x := ⟨0, Ts.e, Ts.e, [], -1⟩) rfl
  have hub : w1.heap.size ≤ bb ∧ bb < w2.heap.size ∧ Rm.Ub w2 bb := by
    obtain ⟨_, _, e9, _, _, hx9⟩ := id l2
    injection e9 with e91
    subst e91
    obtain ⟨b9, o9, _, e9, hb9, _⟩ := hx9 0 ⟨0, Ts.e, Ts.e, [], -1⟩ rfl
    injection e9 with e9
    injection e9 with e9
    subst e9
    exact hb9
  rw [Nat.zero_mul, Nat.add_zero] at c0 c1 c2 c3 c4
  have fz := hub.2.2
  unfold Rm.Ub at fz
  have hq1 := q1.size
  have hbb : w.heap.size ≤ bb := Nat.le_trans hq1 hub.1
  have hB2 := q1.trans (b2.mono q1.size)
  have hS := Lf.set (ns := Lf.nodes) (b := bb) (o := oo) (d := d2) (i := 0) (r := 0) (x := ⟨0, Ts.e, Ts.e, [], -1⟩) (x' := ⟨1, Ts.e, Ts.e, [], -1⟩) (v := .int .i64 (1)) (old := .int .i64 (0)) (l2.on (R' := (· < w2.heap.size)) (w' := w2) fun j hj => ⟨hj.2.1, rfl⟩) rfl (fun _ => rfl) (fun _ => rfl) rfl (Lf.noInt _)
  have HS := Lib.hid hS
  have HB2 := Lib.hid hB2
  clear hS hB2 l2 b2 hub q1 hq1
  go_upto_region 31 with (go_at_call 14; refine (A8.num _ _).mono ?_; rintro e w' ⟨rfl, hw⟩; have hw := hw.symm; subst hw)
  obtain ⟨V, hV⟩ : ∃ V, w2.setCell ⟨bb, oo, none⟩ (.int .i64 (1)) = V := ⟨_, rfl⟩
  have hS : Nd.Lies V (· < w2.heap.size) (Lf.nodes.set 0 ⟨1, Ts.e, Ts.e, [], -1⟩) (.slice (some ⟨bb, oo, none⟩) 4 d2) := by rw [← hV]; exact HS.out
  have hbV : Below w.heap.size w V := by rw [← hV]; exact HB2.out.setCell hbb _
  have hsz : V.heap.size = w2.heap.size := by rw [← hV]; simp
  have sk := Lf.skel rfl HSM.out HNM.out (some ⟨bb, oo, none⟩) d2 V (hS.on fun j hj => ⟨by omega, rfl⟩) (HT.out.on hbV)
  have HLV := Lib.hid hS
  have HBV := Lib.hid hbV
  try rw [hV]
  clear hV hS hbV HS c0 c1 c2 c3 c4 fz hbb hld hdm
  go_wp2_with (first | (go_at_call 9; refine sk.mono ?_; rintro e w3 ⟨rfl, b3⟩; clear sk; have tx := Lf.text rfl HSM.out HNM.out (some ⟨bb, oo, none⟩) d2 w3 (HLV.out.on fun j hj => ⟨Nat.lt_of_lt_of_le (show j < V.heap.size by omega) b3.size, b3.block j (by omega)⟩); have HB3 := Lib.hid (HBV.out.trans (b3.mono HBV.out.size)); clear b3) | (go_at_call 11; refine tx.mono ?_; rintro e w4 ⟨rfl, b4⟩; clear tx; have HB4 := Lib.hid (HB3.out.trans (b4.mono HB3.out.size)); clear b4) | (go_at_call 14; refine (A8.num _ _).mono ?_; rintro e w' ⟨rfl, hw⟩; have hw := hw.symm; subst hw))
  go_ret
  exact ⟨rfl, HB4.out⟩
set_option maxRecDepth 100000 in
set_option maxHeartbeats 4000000 in
theorem Lf.case2 (n x : Int) (m : Int) (w : World) (hm : w.cell? ⟨1, 0, none⟩ = some (.int .i64 m)) (ht : Pq.Tab w) (u : Nat) (hu : IntKind.u64.wrap n = (u : Int)) (hi : (u : Int) % 12 = 2) :
    Calls Tryz.prog 5 #[.int .i64 n, .int .i64 x] w fun e w' => e = .returned (.bool true) ∧ Below w.heap.size w w' := by
  obtain ⟨dd, hd, hd1⟩ : ∃ dd : Nat, 1 + x % 64 = (dd : Int) ∧ 1 ≤ dd ∧ dd ≤ 64 := ⟨(1 + x % 64).toNat, by omega, by omega, by omega⟩
  have h6 := Lf.and6 x
  have hw1 : IntKind.i64.wrap (1 + x % 64) = (dd : Int) := by rw [IntKind.wrap_i64]; omega
  have hw2 : IntKind.i64.wrap (3 + (dd : Int)) = 3 + (dd : Int) := by rw [IntKind.wrap_i64]; omega
  have hw3 : IntKind.i64.wrap (-(dd : Int)) = -(dd : Int) := by rw [IntKind.wrap_i64]; omega
  have aw := A8.awake m w hm ht
  have pa := fun u hu => Pq.parse m Lf.page Lf.nodes 0 Lf.is u (by decide) (Tp.keep (W := w) (w1 := u) hu hm)
  rw [show Lf.nodes.length = 4 from rfl] at pa
  unfold Lf.page at pa
  have HT := Lib.hid ht
  have HSM : Hid (∀ y ∈ Lf.nodes.set 0 ⟨0, ⟨#[120]⟩, Ts.e, [], -1⟩, Lf.Small y) := Lf.smallSet ⟨show (⟨#[120]⟩ : ByteArray).size ≤ 1 by decide, show (Ts.e : ByteArray).size ≤ 1 by decide, show ([] : List (ByteArray × ByteArray)).length ≤ 1 by decide, fun z hz => by cases hz⟩
  have HNM : Hid (¬ Sk.May (Lf.nodes.set 0 ⟨0, ⟨#[120]⟩, Ts.e, [], -1⟩)) := Lf.not 0 ⟨0, ⟨#[120]⟩, Ts.e, [], -1⟩ rfl (by rintro (q | q); exact absurd q.2.2.2.1 (by decide); exact absurd q.1 (by decide))
  clear hd hd1 hm ht
  go_enter Tryz.func5, Tryz.ntmps5
  go_upto_region 4 with (go_at_call 17; refine aw.mono ?_; rintro e w1 ⟨rfl, q1⟩; clear aw)
  have pa := pa w1 q1
  go_upto_region 5 with (go_at_call 7; refine pa.mono ?_; rintro e w2 ⟨a2, d2, rfl, l2, b2⟩; clear pa)
  obtain ⟨bb, oo, aa, ad, rfl, _, hld, hdm, c0, c1, c2, c3, c4, _, _⟩ := Nm.cells (ns := Lf.nodes) l2 (i := 0) (x := ⟨0, Ts.e, Ts.e, [], -1⟩) rfl
  have hub : w1.heap.size ≤ bb ∧ bb < w2.heap.size ∧ Rm.Ub w2 bb := by
    obtain ⟨_, _, e9, _, _, hx9⟩ := id l2
    injection e9 with e91
    subst e91
    obtain ⟨b9, o9, _, e9, hb9, _⟩ := hx9 0 ⟨0, Ts.e, Ts.e, [], -1⟩ rfl
    injection e9 with e9
    injection e9 with e9
    subst e9
    exact hb9
  rw [Nat.zero_mul, Nat.add_zero] at c0 c1 c2 c3 c4
  have fz := hub.2.2
  unfold Rm.Ub at fz
  have hq1 := q1.size
  have hbb : w.heap.size ≤ bb := Nat.le_trans hq1 hub.1
  have hB2 := q1.trans (b2.mono q1.size)
  have hS := Lf.set (ns := Lf.nodes) (b := bb) (o := oo) (d := d2) (i := 0) (r := 1) (x := ⟨0, Ts.e, Ts.e, [], -1⟩) (x' := ⟨0, ⟨#[120]⟩, Ts.e, [], -1⟩) (v := .string ⟨#[120]⟩) (old := .string Ts.e) (l2.on (R' := (· < w2.heap.size)) (w' := w2) fun j hj => ⟨hj.2.1, rfl⟩) rfl (fun _ => rfl) (fun _ => rfl) rfl Lf.noStr
  have HS := Lib.hid hS
  have HB2 := Lib.hid hB2
  clear hS hB2 l2 b2 hub q1 hq1
  go_upto_region 31 with (go_at_call 14; refine (A8.num _ _).mono ?_; rintro e w' ⟨rfl, hw⟩; have hw := hw.symm; subst hw)
  obtain ⟨V, hV⟩ : ∃ V, w2.setCell ⟨bb, oo + 1, none⟩ (.string ⟨#[120]⟩) = V := ⟨_, rfl⟩
  have hS : Nd.Lies V (· < w2.heap.size) (Lf.nodes.set 0 ⟨0, ⟨#[120]⟩, Ts.e, [], -1⟩) (.slice (some ⟨bb, oo, none⟩) 4 d2) := by rw [← hV]; exact HS.out
  have hbV : Below w.heap.size w V := by rw [← hV]; exact HB2.out.setCell hbb _
  have hsz : V.heap.size = w2.heap.size := by rw [← hV]; simp
  have sk := Lf.skel rfl HSM.out HNM.out (some ⟨bb, oo, none⟩) d2 V (hS.on fun j hj => ⟨by omega, rfl⟩) (HT.out.on hbV)
  have HLV := Lib.hid hS
  have HBV := Lib.hid hbV
  try rw [hV]
  clear hV hS hbV HS c0 c1 c2 c3 c4 fz hbb hld hdm
  go_wp2_with (first | (go_at_call 9; refine sk.mono ?_; rintro e w3 ⟨rfl, b3⟩; clear sk; have tx := Lf.text rfl HSM.out HNM.out (some ⟨bb, oo, none⟩) d2 w3 (HLV.out.on fun j hj => ⟨Nat.lt_of_lt_of_le (show j < V.heap.size by omega) b3.size, b3.block j (by omega)⟩); have HB3 := Lib.hid (HBV.out.trans (b3.mono HBV.out.size)); clear b3) | (go_at_call 11; refine tx.mono ?_; rintro e w4 ⟨rfl, b4⟩; clear tx; have HB4 := Lib.hid (HB3.out.trans (b4.mono HB3.out.size)); clear b4) | (go_at_call 14; refine (A8.num _ _).mono ?_; rintro e w' ⟨rfl, hw⟩; have hw := hw.symm; subst hw))
  go_ret
  exact ⟨rfl, HB4.out⟩
set_option maxRecDepth 100000 in
set_option maxHeartbeats 4000000 in
theorem Lf.case3 (n x : Int) (m : Int) (w : World) (hm : w.cell? ⟨1, 0, none⟩ = some (.int .i64 m)) (ht : Pq.Tab w) (u : Nat) (hu : IntKind.u64.wrap n = (u : Int)) (hi : (u : Int) % 12 = 3) :
    Calls Tryz.prog 5 #[.int .i64 n, .int .i64 x] w fun e w' => e = .returned (.bool true) ∧ Below w.heap.size w w' := by
  obtain ⟨dd, hd, hd1⟩ : ∃ dd : Nat, 1 + x % 64 = (dd : Int) ∧ 1 ≤ dd ∧ dd ≤ 64 := ⟨(1 + x % 64).toNat, by omega, by omega, by omega⟩
  have h6 := Lf.and6 x
  have hw1 : IntKind.i64.wrap (1 + x % 64) = (dd : Int) := by rw [IntKind.wrap_i64]; omega
  have hw2 : IntKind.i64.wrap (3 + (dd : Int)) = 3 + (dd : Int) := by rw [IntKind.wrap_i64]; omega
  have hw3 : IntKind.i64.wrap (-(dd : Int)) = -(dd : Int) := by rw [IntKind.wrap_i64]; omega
  have aw := A8.awake m w hm ht
  have pa := fun u hu => Pq.parse m Lf.page Lf.nodes 0 Lf.is u (by decide) (Tp.keep (W := w) (w1 := u) hu hm)
  rw [show Lf.nodes.length = 4 from rfl] at pa
  unfold Lf.page at pa
  have HT := Lib.hid ht
  have HSM : Hid (∀ y ∈ Lf.nodes.set 1 ⟨1, ⟨#[112]⟩, Ts.e, [(⟨#[97]⟩, ⟨#[98]⟩)], 1⟩, Lf.Small y) := Lf.smallSet ⟨show (⟨#[112]⟩ : ByteArray).size ≤ 1 by decide, show (Ts.e : ByteArray).size ≤ 1 by decide, show ([(⟨#[97]⟩, ⟨#[98]⟩)] : List (ByteArray × ByteArray)).length ≤ 1 by decide, fun z hz => by rw [List.mem_singleton.1 hz]; decide⟩
  have HNM : Hid (¬ Sk.May (Lf.nodes.set 1 ⟨1, ⟨#[112]⟩, Ts.e, [(⟨#[97]⟩, ⟨#[98]⟩)], 1⟩)) := Lf.not 1 ⟨1, ⟨#[112]⟩, Ts.e, [(⟨#[97]⟩, ⟨#[98]⟩)], 1⟩ rfl (by rintro (q | q); exact absurd q.1 (by decide); exact absurd q.2.2.1 (by decide))
  clear hd hd1 hm ht
  go_enter Tryz.func5, Tryz.ntmps5
  go_upto_region 4 with (go_at_call 17; refine aw.mono ?_; rintro e w1 ⟨rfl, q1⟩; clear aw)
  have pa := pa w1 q1
  go_upto_region 5 with (go_at_call 7; refine pa.mono ?_; rintro e w2 ⟨a2, d2, rfl, l2, b2⟩; clear pa)
  obtain ⟨bb, oo, aa, ad, rfl, _, hld, hdm, c0, c1, c2, c3, c4, _, _⟩ := Nm.cells (ns := Lf.nodes) l2 (i := 1) (x := ⟨1, ⟨#[112]⟩, Ts.e, [(⟨#[97]⟩, ⟨#[98]⟩)], 0⟩) rfl
  have hub : w1.heap.size ≤ bb ∧ bb < w2.heap.size ∧ Rm.Ub w2 bb := by
    obtain ⟨_, _, e9, _, _, hx9⟩ := id l2
    injection e9 with e91
    subst e91
    obtain ⟨b9, o9, _, e9, hb9, _⟩ := hx9 1 ⟨1, ⟨#[112]⟩, Ts.e, [(⟨#[97]⟩, ⟨#[98]⟩)], 0⟩ rfl
    injection e9 with e9
    injection e9 with e9
    subst e9
    exact hb9
  have fz := hub.2.2
  unfold Rm.Ub at fz
  have hq1 := q1.size
  have hbb : w.heap.size ≤ bb := Nat.le_trans hq1 hub.1
  have hB2 := q1.trans (b2.mono q1.size)
  have hS := Lf.set (ns := Lf.nodes) (b := bb) (o := oo) (d := d2) (i := 1) (r := 4) (x := ⟨1, ⟨#[112]⟩, Ts.e, [(⟨#[97]⟩, ⟨#[98]⟩)], 0⟩) (x' := ⟨1, ⟨#[112]⟩, Ts.e, [(⟨#[97]⟩, ⟨#[98]⟩)], 1⟩) (v := .int .i64 (1)) (old := .int .i64 (0)) (l2.on (R' := (· < w2.heap.size)) (w' := w2) fun j hj => ⟨hj.2.1, rfl⟩) rfl (fun _ => rfl) (fun _ => rfl) rfl (Lf.noInt _)
  have HS := Lib.hid hS
  have HB2 := Lib.hid hB2
  clear hS hB2 l2 b2 hub q1 hq1
  go_upto_region 31 with (go_at_call 14; refine (A8.num _ _).mono ?_; rintro e w' ⟨rfl, hw⟩; have hw := hw.symm; subst hw)
  obtain ⟨V, hV⟩ : ∃ V, w2.setCell ⟨bb, oo + 5 + 4, none⟩ (.int .i64 (1)) = V := ⟨_, rfl⟩
  have hS : Nd.Lies V (· < w2.heap.size) (Lf.nodes.set 1 ⟨1, ⟨#[112]⟩, Ts.e, [(⟨#[97]⟩, ⟨#[98]⟩)], 1⟩) (.slice (some ⟨bb, oo, none⟩) 4 d2) := by rw [← hV]; exact HS.out
  have hbV : Below w.heap.size w V := by rw [← hV]; exact HB2.out.setCell hbb _
  have hsz : V.heap.size = w2.heap.size := by rw [← hV]; simp
  have sk := Lf.skel rfl HSM.out HNM.out (some ⟨bb, oo, none⟩) d2 V (hS.on fun j hj => ⟨by omega, rfl⟩) (HT.out.on hbV)
  have HLV := Lib.hid hS
  have HBV := Lib.hid hbV
  try rw [hV]
  clear hV hS hbV HS c0 c1 c2 c3 c4 fz hbb hld hdm
  go_wp2_with (first | (go_at_call 9; refine sk.mono ?_; rintro e w3 ⟨rfl, b3⟩; clear sk; have tx := Lf.text rfl HSM.out HNM.out (some ⟨bb, oo, none⟩) d2 w3 (HLV.out.on fun j hj => ⟨Nat.lt_of_lt_of_le (show j < V.heap.size by omega) b3.size, b3.block j (by omega)⟩); have HB3 := Lib.hid (HBV.out.trans (b3.mono HBV.out.size)); clear b3) | (go_at_call 11; refine tx.mono ?_; rintro e w4 ⟨rfl, b4⟩; clear tx; have HB4 := Lib.hid (HB3.out.trans (b4.mono HB3.out.size)); clear b4) | (go_at_call 14; refine (A8.num _ _).mono ?_; rintro e w' ⟨rfl, hw⟩; have hw := hw.symm; subst hw))
  go_ret
  exact ⟨rfl, HB4.out⟩
end Go.Proofs.YtblpkjlodncpeaaGreatDoor

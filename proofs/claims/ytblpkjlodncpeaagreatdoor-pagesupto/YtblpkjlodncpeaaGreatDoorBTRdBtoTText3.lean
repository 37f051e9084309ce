/-
  THE WALK of the reader's readAttr, whole.
-/
import Derived.Test.YtblpkjlodncpeaaGreatDoorBTSd9toTRdA
import Derived.Test.YtblpkjlodncpeaaGreatDoorBTSimtoShelf8
import Derived.Deep.RegionHeld
namespace Go.Proofs.YtblpkjlodncpeaaGreatDoor
open Go.RowKit
theorem Rm.At.setValue {w : World} {g : Nat} {P : ByteArray} {r : Rd} {tv av : Value} (h : Rm.At w g P r tv av) (n : Nat) : Rm.At (w.setCell ⟨g, 33, none⟩ (.int .i64 (n : Int))) g P { r with value := n } tv av := by
 have hne : ∀ k, g + 1 ≤ k → (w.setCell ⟨g, 33, none⟩ (.int .i64 (n : Int))).heap[k]? = w.heap[k]? := fun k hk => Rm.set_ne _ _ _ _ hk
 exact ⟨h.box.setValue n, h.toks.on (by simp) (fun k hk => hne k (h.tvLt hk).1) (fun k hk _ _ hn => ⟨hn, hne k hk⟩), Rm.own_on h.attrs (fun k hk => hne k (h.avLt hk).1), h.apart⟩
set_option maxHeartbeats 4000000 in
theorem Rm.readAttr (r : Rd) (was now : Ts) (i : Nat) (w : World) (g : Nat) (P : ByteArray) (tv av : Value) (h : Rm.At w g P r tv av) (hP : P.size ≤ 65536) (hi : i ≤ P.size) (hv : (was.pl = 8 ∨ was.pl = 9 ∨ was.pl = 10) → r.value ≤ i) (ht : (was.pl = 8 ∨ was.pl = 9 ∨ was.pl = 10) → r.taken = true → r.attrs ≠ []) (hn : r.attrs.length ≤ 32) :
  Calls Tryz.prog 77 #[.pointer (some ⟨g, 0, none⟩), .agg #[.int .i64 was.pl, .string was.name, .bool was.fin, .string was.attr, .string was.held, .int .i64 was.read], .agg #[.int .i64 now.pl, .string now.name, .bool now.fin, .string now.attr, .string now.held, .int .i64 now.read], .int .i64 (i : Int)] w fun e w' => e = .returned (.tuple #[]) ∧ ∃ tv' av', Rm.At w' g P (Rd.readAttr P r was now i) tv' av' ∧ Rm.Kept w w' g tv av tv' av' := by
 have HH := Lib.hid h
 obtain ⟨W, hW⟩ : ∃ W, (w.alloc (.cells #[.int .i64 was.pl, .string was.name, .bool was.fin, .string was.attr, .string was.held, .int .i64 was.read] 76)).alloc (.cells #[.int .i64 now.pl, .string now.name, .bool now.fin, .string now.attr, .string now.held, .int .i64 now.read] 76) = W := ⟨_, rfl⟩
 have hbW : Below w.heap.size w W := by rw [← hW]; exact Tp.two _ _ _
 have hA := h.on hbW
 have HA := Lib.hid hA
 have HB := Lib.hid hbW
 have x33 := hA.box.value
 have x35 := hA.box.taken
 have xf := hA.box.fz
 have k0 : W.cell? ⟨w.heap.size, 0, none⟩ = some (.int .i64 was.pl) := by rw [← hW]; simp
 have k3 : W.cell? ⟨w.heap.size, 3, none⟩ = some (.string was.attr) := by rw [← hW]; simp
 have m0 : W.cell? ⟨w.heap.size + 1, 0, none⟩ = some (.int .i64 now.pl) := by rw [← hW]; simp
 have hlt := h.lt
 have n1 : w.heap.size ≠ g := by omega
 have n2 : w.heap.size + 1 ≠ g := by omega
 have n3 : g ≠ w.heap.size := by omega
 have n4 : g ≠ w.heap.size + 1 := by omega
 by_cases e0 : was.pl = now.pl
 ·
  have t0 : (was.pl == now.pl) = true := beq_iff_eq.2 e0
  have HR : Hid (Rd.readAttr P r was now i = r) := by unfold Rd.readAttr Hid; rw [if_pos e0]
  clear e0 h hA hbW hv ht
  go_enter Tryz.func77, Tryz.ntmps77
  go_wp2_with (refine Vm.stop 8 ?_)
  try rw [hW]
  refine ⟨?_⟩
  go_wp2
  refine bodyPost_ret (v := .tuple #[]) (by simp [results, Tryz.results77, go_sem]) rfl ⟨rfl, tv, av, ?_, Rm.Kept.of g _ _ HB.out⟩
  rw [HR.out]
  exact HA.out
 have t0 : (was.pl == now.pl) = false := beq_eq_false_iff_ne.2 e0
 by_cases e5 : was.pl = 5
 ·
  have t5 : (was.pl == 5) = true := beq_iff_eq.2 e5
  have HR : Hid (Rd.readAttr P r was now i = r.addAttr was.attr) := by unfold Rd.readAttr Hid; rw [if_neg e0, if_pos e5]
  have hadd := Rm.addAttr r was.attr W g P tv av HA.out hn
  clear e0 e5 h hA hbW hv ht
  go_enter Tryz.func77, Tryz.ntmps77
  go_wp2_with (refine Vm.stop 8 ?_)
  try rw [hW]
  refine ⟨?_⟩
  go_wp2_with (go_at_call 109; refine hadd.mono ?_; rintro e w1 ⟨rfl, tv1, av1, hA1, hK1⟩)
  go_end0
  refine ⟨rfl, tv1, av1, ?_, (Rm.Kept.of g _ _ HB.out).trans hK1⟩
  rw [HR.out]
  exact hA1
 have t5 : (was.pl == 5) = false := beq_eq_false_iff_ne.2 e5
 by_cases e7 : was.pl = 7
 ·
  have t7 : (was.pl == 7) = true := beq_iff_eq.2 e7
  have hw : IntKind.i64.wrap ((i : Int) + 1) = (i : Int) + 1 := by rw [IntKind.wrap_i64]; omega
  by_cases e10 : now.pl = 10
  ·
   have t10 : (now.pl != 10) = false := by simp [e10]
   have HR : Hid (Rd.readAttr P r was now i = { r with value := i }) := by unfold Rd.readAttr Hid; rw [if_neg e0, if_neg e5, if_pos e7, if_pos e10]
   clear e0 e5 e7 e10 h hA hbW hv ht
   go_enter Tryz.func77, Tryz.ntmps77
   go_wp2_with (refine Vm.stop 8 ?_)
   try rw [hW]
   refine ⟨?_⟩
   go_wp2
   go_end0
   refine ⟨rfl, tv, av, ?_, (Rm.Kept.of g _ _ HB.out).trans (Rm.Kept.set _ _ _ _ _ _)⟩
   rw [HR.out]
   exact HA.out.setValue i
  ·
   have t10 : (now.pl != 10) = true := by simp [e10]
   have HR : Hid (Rd.readAttr P r was now i = { r with value := i + 1 }) := by unfold Rd.readAttr Hid; rw [if_neg e0, if_neg e5, if_pos e7, if_neg e10]
   clear e0 e5 e7 e10 h hA hbW hv ht
   go_enter Tryz.func77, Tryz.ntmps77
   go_wp2_with (first | refine Vm.stop 8 ?_ | refine Vm.stop 27 ?_)
   try rw [hW]
   refine ⟨?_⟩
   go_wp2_with (refine Vm.stop 27 ?_)
   have hV := HA.out.setValue i
   have HV := Lib.hid hV
   have HKV := Lib.hid (Rm.Kept.set W g 33 (.int .i64 (i : Int)) tv av)
   have y33 := hV.box.value
   have yf := hV.box.fz
   have m0' : (W.setCell ⟨g, 33, none⟩ (.int .i64 (i : Int))).cell? ⟨w.heap.size + 1, 0, none⟩ = some (.int .i64 now.pl) := (Rm.out _ _ _ _ n2 _).trans m0
   generalize W.setCell ⟨g, 33, none⟩ (.int .i64 (i : Int)) = W2 at *
   clear hV x33 x35 xf k0 k3 m0 hW
   refine ⟨?_⟩
   go_wp2
   go_end0
   refine ⟨rfl, tv, av, ?_, (Rm.Kept.of g _ _ HB.out).trans (HKV.out.trans (Rm.Kept.set _ _ _ _ _ _))⟩
   rw [HR.out]
   exact HV.out.setValue (i + 1)
 have t7 : (was.pl == 7) = false := beq_eq_false_iff_ne.2 e7
 by_cases e8 : was.pl = 8 ∨ was.pl = 9 ∨ was.pl = 10
 ·
  cases htk : r.taken with
  | true =>
   have hne := ht e8 htk
   obtain ⟨m, hm⟩ : ∃ m, r.attrs.length = m + 1 := ⟨r.attrs.length - 1, by have : r.attrs.length ≠ 0 := (fun q => hne (List.eq_nil_of_length_eq_zero q)); omega⟩
   have hh := Rm.readVal r was now i w g P tv av h hP hi (hv e8) htk m hm (by omega) e0 e8
   have HR : Rd.readAttr P r was now i = { r with attrs := Rd.setLast r.attrs (Rd.dec (P.extract r.value i)) } := by unfold Rd.readAttr; rw [if_neg e0, if_neg e5, if_neg e7, if_pos e8, if_pos htk]
   rw [HR]
   exact hh
  | false =>
   rw [htk] at x35
   have HR : Hid (Rd.readAttr P r was now i = r) := by unfold Rd.readAttr Hid; rw [if_neg e0, if_neg e5, if_neg e7, if_pos e8, if_neg (by rw [htk]; decide)]
   rcases e8 with e8 | e8 | e8
   all_goals
    try (have q8 : (was.pl == 8) = true := beq_iff_eq.2 e8)
    try (have q9 : (was.pl == 9) = true := beq_iff_eq.2 e8)
    try (have q10 : (was.pl == 10) = true := beq_iff_eq.2 e8)
    try (have q8 : (was.pl == 8) = false := beq_eq_false_iff_ne.2 (by omega))
    try (have q9 : (was.pl == 9) = false := beq_eq_false_iff_ne.2 (by omega))
    clear e0 e5 e7 e8 h hA hbW hv ht
    go_enter Tryz.func77, Tryz.ntmps77
    go_wp2_with (refine Vm.stop 8 ?_)
    try rw [hW]
    refine ⟨?_⟩
    go_wp2
    go_end0
    refine ⟨rfl, tv, av, ?_, Rm.Kept.of g _ _ HB.out⟩
    rw [HR.out]
    exact HA.out
 ·
  have q8 : (was.pl == 8) = false := beq_eq_false_iff_ne.2 (fun q => e8 (.inl q))
  have q9 : (was.pl == 9) = false := beq_eq_false_iff_ne.2 (fun q => e8 (.inr (.inl q)))
  have q10 : (was.pl == 10) = false := beq_eq_false_iff_ne.2 (fun q => e8 (.inr (.inr q)))
  have HR : Hid (Rd.readAttr P r was now i = r) := by unfold Rd.readAttr Hid; rw [if_neg e0, if_neg e5, if_neg e7, if_neg e8]
  clear e0 e5 e7 e8 h hA hbW hv ht
  go_enter Tryz.func77, Tryz.ntmps77
  go_wp2_with (refine Vm.stop 8 ?_)
  try rw [hW]
  refine ⟨?_⟩
  go_wp2
  go_end0
  refine ⟨rfl, tv, av, ?_, Rm.Kept.of g _ _ HB.out⟩
  rw [HR.out]
  exact HA.out
set_option maxHeartbeats 2000000 in
theorem Rm.tellComment (r : Rd) (s : Ts) (i : Nat) (w : World) (g : Nat) (P : ByteArray) (tv av : Value) (h : Rm.At w g P r tv av) (hP : P.size ≤ 65536) (hi : i ≤ P.size) (h2 : s.pl ≠ 17 → r.opn + 2 ≤ i) (h4 : s.pl = 17 → r.opn + 6 ≤ i) (hn : r.toks.length ≤ 1000000) :
  Calls Tryz.prog 79 #[.pointer (some ⟨g, 0, none⟩), .agg #[.int .i64 s.pl, .string s.name, .bool s.fin, .string s.attr, .string s.held, .int .i64 s.read], .int .i64 (i : Int)] w fun e w' => e = .returned (.tuple #[]) ∧ ∃ tv' av', Rm.At w' g P (Rd.tellComment P r s i) tv' av' ∧ Rm.Kept w w' g tv av tv' av' := by
 have hbA : Below w.heap.size w (w.alloc (.cells #[.int .i64 s.pl, .string s.name, .bool s.fin, .string s.attr, .string s.held, .int .i64 s.read] 76)) := (Below.refl _ _).alloc (Nat.le_refl _) _
 have c0 := h.box.page
 have c32 := h.box.opn
 have hlt := h.lt
 have n1 : w.heap.size ≠ g := by omega
 have n2 : g ≠ w.heap.size := by omega
 have HH := Lib.hid h
 have hw : IntKind.i64.wrap ((i : Int) + 1) = ((i + 1 : Nat) : Int) := by rw [IntKind.wrap_i64]; omega
 by_cases e : s.pl = 17
 ·
  have hle := h4 e
  have t0 : (s.pl == 17) = true := beq_iff_eq.2 e
  have HT : Hid (Rd.tellComment P r s i = r.tell ⟨3, Ts.e, P.extract (r.opn + 4) (i - 2), [], false⟩ (i + 1)) := by unfold Rd.tellComment Hid; rw [if_pos e]
  have hcut := Rm.text_cut P (r.opn + 4) (i - 2) (by omega) (by omega)
  rw [show ((r.opn + 4 : Nat) : Int) = (r.opn : Int) + 4 by omega, show ((i - 2 : Nat) : Int) = (i : Int) - 2 by omega] at hcut
  have hsz := Rm.cut_size P (r.opn + 4) (i - 2)
  generalize P.extract (r.opn + 4) (i - 2) = C at *
  have tell := fun (u : World) (hb : Below w.heap.size w u) => Rm.tell r ⟨3, Ts.e, C, [], false⟩ (.slice none 0 0) (i + 1) u g P tv av (HH.out.on hb) (Ak.Lies.nil _ _) hn
  rw [show ((i + 1 : Nat) : Int) = (i : Int) + 1 by omega] at tell
  have hC := fun u : World => Tp.clone C u (by omega)
  clear h h2 h4 e hw
  go_enter Tryz.func79, Tryz.ntmps79
  go_wp2_with (first | (go_at_call 28; refine (hC _).mono ?_; rintro e w1 ⟨rfl, hb1⟩; have q1 : Below w.heap.size w w1 := hbA.trans (hb1.mono (by first | (simp; done) | omega)); clear hb1) | (go_at_call 75; refine (tell _ q1).mono ?_; rintro e w2 ⟨rfl, tv2, hA, hK⟩))
  go_end0
  refine ⟨rfl, tv2, .slice none 0 0, ?_, (Rm.Kept.of g tv av q1).trans hK⟩
  rw [HT.out]
  exact hA
 ·
  have hle := h2 e
  have t0 : (s.pl == 17) = false := beq_eq_false_iff_ne.2 e
  have HT : Hid (Rd.tellComment P r s i = r.tell ⟨3, Ts.e, P.extract (r.opn + 2) (i), [], false⟩ (i + 1)) := by unfold Rd.tellComment Hid; rw [if_neg e]
  have hcut := Rm.text_cut P (r.opn + 2) (i) (by omega) (by omega)
  rw [show ((r.opn + 2 : Nat) : Int) = (r.opn : Int) + 2 by omega] at hcut
  have hsz := Rm.cut_size P (r.opn + 2) (i)
  generalize P.extract (r.opn + 2) (i) = C at *
  have tell := fun (u : World) (hb : Below w.heap.size w u) => Rm.tell r ⟨3, Ts.e, C, [], false⟩ (.slice none 0 0) (i + 1) u g P tv av (HH.out.on hb) (Ak.Lies.nil _ _) hn
  rw [show ((i + 1 : Nat) : Int) = (i : Int) + 1 by omega] at tell
  have hC := fun u : World => Tp.clone C u (by omega)
  clear h h2 h4 e hw
  go_enter Tryz.func79, Tryz.ntmps79
  go_wp2_with (first | (go_at_call 28; refine (hC _).mono ?_; rintro e w1 ⟨rfl, hb1⟩; have q1 : Below w.heap.size w w1 := hbA.trans (hb1.mono (by first | (simp; done) | omega)); clear hb1) | (go_at_call 75; refine (tell _ q1).mono ?_; rintro e w2 ⟨rfl, tv2, hA, hK⟩))
  go_end0
  refine ⟨rfl, tv2, .slice none 0 0, ?_, (Rm.Kept.of g tv av q1).trans hK⟩
  rw [HT.out]
  exact hA
set_option maxHeartbeats 4000000 in
theorem Rm.tellTag (r : Rd) (s : Ts) (i : Nat) (w : World) (g : Nat) (P : ByteArray) (tv av : Value) (h : Rm.At w g P r tv av) (hi : i ≤ 65536) (hn : r.toks.length ≤ 1000000) :
  Calls Tryz.prog 78 #[.pointer (some ⟨g, 0, none⟩), .agg #[.int .i64 s.pl, .string s.name, .bool s.fin, .string s.attr, .string s.held, .int .i64 s.read], .int .i64 (i : Int)] w fun e w' => e = .returned (.tuple #[]) ∧ ∃ tv' av', Rm.At w' g P (r.tellTag s i) tv' av' ∧ Rm.Kept w w' g tv av tv' av' := by
 obtain ⟨p, n, f, at', he, rd⟩ := s
 simp only
 have hbA : Below w.heap.size w (w.alloc (.cells #[.int .i64 p, .string n, .bool f, .string at', .string he, .int .i64 rd] 76)) := (Below.refl _ _).alloc (Nat.le_refl _) _
 have c34 := h.box.attrs
 have hlt := h.lt
 have n1 : w.heap.size ≠ g := by omega
 have n2 : g ≠ w.heap.size := by omega
 have HH := Lib.hid h
 cases f with
 | true =>
  have HT : Hid (r.tellTag ⟨p, n, true, at', he, rd⟩ i = r.tell ⟨2, n, Ts.e, [], false⟩ (i + 1)) := rfl
  have tell := fun (u : World) (hb : Below w.heap.size w u) => Rm.tell r ⟨2, n, Ts.e, [], false⟩ (.slice none 0 0) (i + 1) u g P tv av (HH.out.on hb) (Ak.Lies.nil _ _) hn
  rw [show ((i + 1 : Nat) : Int) = (i : Int) + 1 by omega] at tell
  clear h
  go_enter Tryz.func78, Tryz.ntmps78
  go_wp2_with (go_at_call 75; refine (tell _ hbA).mono ?_; rintro e w2 ⟨rfl, tv2, hA, hK⟩)
  refine bodyPost_ret (v := .tuple #[]) (by simp [results, Tryz.results78, go_sem]) rfl ⟨rfl, tv2, .slice none 0 0, ?_, (Rm.Kept.of g tv av hbA).trans hK⟩
  rw [HT.out]
  exact hA
 | false =>
  have HT : Hid (r.tellTag ⟨p, n, false, at', he, rd⟩ i = r.tell ⟨1, n, Ts.e, r.attrs, p == 12⟩ (i + 1)) := rfl
  have tell := fun (u : World) (hb : Below w.heap.size w u) => Rm.tell r ⟨1, n, Ts.e, r.attrs, p == 12⟩ av (i + 1) u g P tv av (HH.out.on hb) ((Ak.Lies.own (HH.out.on hb).attrs).on fun k hk => ⟨⟨((HH.out.on hb).avLt hk).1, ((HH.out.on hb).avLt hk).2, fun e => HH.out.apart k e hk, Rm.Ub.own (HH.out.on hb).attrs hk⟩, rfl⟩) hn
  rw [show ((i + 1 : Nat) : Int) = (i : Int) + 1 by omega] at tell
  obtain ⟨aa, ad, rfl⟩ := Rm.form h.attrs
  have hw : IntKind.i64.wrap ((i : Int) + 1) = (i : Int) + 1 := by rw [IntKind.wrap_i64]; omega
  clear h
  go_enter Tryz.func78, Tryz.ntmps78
  go_wp2_with fail
  go_region_with (go_at_call 75; refine (tell _ hbA.drew).mono ?_; rintro e w2 ⟨rfl, tv2, hA, hK⟩)
  all_goals go_wp2
  all_goals go_end0
  all_goals refine ⟨rfl, tv2, .slice none 0 0, ?_, (Rm.Kept.of g tv _ hbA.drew).trans hK⟩
  all_goals rw [HT.out]
  all_goals exact hA
end Go.Proofs.YtblpkjlodncpeaaGreatDoor

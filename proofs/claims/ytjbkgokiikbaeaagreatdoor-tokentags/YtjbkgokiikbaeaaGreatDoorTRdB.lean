/-
  THE WALK of the reader's readAttr, whole.
-/
import Derived.Test.YtjbkgokiikbaeaaGreatDoorTRdA
namespace Go.Proofs.YtjbkgokiikbaeaaGreatDoor
open Go.RowKit
theorem Rm.At.setValue {w : World} {g : Nat} {P : ByteArray} {r : Rd} {tv av : Value} (h : Rm.At w g P r tv av) (n : Nat) : Rm.At (w.setCell ⟨g, 33, none⟩ (.int .i64 (n : Int))) g P { r with value := n } tv av := by
  have hne : ∀ k, g + 1 ≤ k → (w.setCell ⟨g, 33, none⟩ (.int .i64 (n : Int))).heap[k]? = w.heap[k]? := fun k hk => Rm.set_ne _ _ _ _ hk
  exact ⟨h.box.setValue n, h.toks.on (by simp) (fun k hk => hne k (h.tvLt hk).1) (fun k hk _ _ hn => ⟨hn, hne k hk⟩), Rm.own_on h.attrs (fun k hk => hne k (h.avLt hk).1), h.apart⟩
set_option maxHeartbeats 4000000 in
theorem Rm.readAttr (r : Rd) (was now : Ts) (i : Nat) (w : World) (g : Nat) (P : ByteArray) (tv av : Value) (h : Rm.At w g P r tv av) (hP : P.size ≤ 65536) (hi : i ≤ P.size) (hv : (was.pl = 8 ∨ was.pl = 9 ∨ was.pl = 10) → r.value ≤ i) (ht : (was.pl = 8 ∨ was.pl = 9 ∨ was.pl = 10) → r.taken = true → r.attrs ≠ []) (hn : r.attrs.length ≤ 32) :
    Calls Tryz.prog 76 #[.pointer (some ⟨g, 0, none⟩), .agg #[.int .i64 was.pl, .string was.name, .bool was.fin, .string was.attr, .string was.held, .int .i64 was.read], .agg #[.int .i64 now.pl, .string now.name, .bool now.fin, .string now.attr, .string now.held, .int .i64 now.read], .int .i64 (i : Int)] w fun e w' => e = .returned (.tuple #[]) ∧ ∃ tv' av', Rm.At w' g P (Rd.readAttr P r was now i) tv' av' ∧ Rm.Kept w w' g tv av tv' av' := by
  have HH := Lib.hid h
  obtain ⟨W, hW⟩ : ∃ W, (w.alloc (.cells #[.int .i64 was.pl, .string was.name, .bool was.fin, .string was.attr, .string was.held, .int .i64 was.read] 23)).alloc (.cells #[.int .i64 now.pl, .string now.name, .bool now.fin, .string now.attr, .string now.held, .int .i64 now.read] 23) = W := ⟨_, rfl⟩
  have hbW : Below w.heap.size w W := by rw [← hW]; exact Tp.two _ _ _
  have hA := h.on hbW
  have HA := Lib.hid hA
  have HB := Lib.hid hbW
  have x33 := hA.box.value
  have x35 := hA.box.taken
  have xf := hA.box.fz
  have k0 : W.cell? ⟨w.heap.size, 0, none⟩ = some (.int .i64 was.pl) := by rw [← hW]; simp
  have k3 : W.cell? ⟨w.heap.size, 3, none⟩ = some (.string was.attr) := by rw [← hW]; simp
  have m0 : W.cell? ⟨w.heap.size + 1, 0, none⟩ = some (.int .i64 now.pl) := by rw [← hW]; simp
  have hlt := h.lt
  have n1 : w.heap.size ≠ g := by omega
  have n2 : w.heap.size + 1 ≠ g := by omega
  have n3 : g ≠ w.heap.size := by omega
  have n4 : g ≠ w.heap.size + 1 := by omega
  by_cases e0 : was.pl = now.pl
  · have t0 : (was.pl == now.pl) = true := beq_iff_eq.2 e0
    have HR : Hid (Rd.readAttr P r was now i = r) := by unfold Rd.readAttr Hid; rw [if_pos e0]
    clear e0 h hA hbW hv ht
    go_enter Tryz.func76, Tryz.ntmps76
    go_wp2_with (refine Vm.stop 8 ?_)
    try rw [hW]
    refine ⟨?_⟩
    go_wp2
    refine bodyPost_ret (v := .tuple #[]) (by simp [results, Tryz.results76, go_sem]) rfl ⟨rfl, tv, av, ?_, Rm.Kept.of g _ _ HB.out⟩
    rw [HR.out]
    exact HA.out
  have t0 : (was.pl == now.pl) = false := beq_eq_false_iff_ne.2 e0
  by_cases e5 : was.pl = 5
  · have t5 : (was.pl == 5) = true := beq_iff_eq.2 e5
    have HR : Hid (Rd.readAttr P r was now i = r.addAttr was.attr) := by unfold Rd.readAttr Hid; rw [if_neg e0, if_pos e5]
    have hadd := Rm.addAttr r was.attr W g P tv av HA.out hn
    clear e0 e5 h hA hbW hv ht
    go_enter Tryz.func76, Tryz.ntmps76
    go_wp2_with (refine Vm.stop 8 ?_)
    try rw [hW]
    refine ⟨?_⟩
    go_wp2_with (go_at_call 99; refine hadd.mono ?_; rintro e w1 ⟨rfl, tv1, av1, hA1, hK1⟩)
    go_end0
    refine ⟨rfl, tv1, av1, ?_, (Rm.Kept.of g _ _ HB.out).trans hK1⟩
    rw [HR.out]
    exact hA1
  have t5 : (was.pl == 5) = false := beq_eq_false_iff_ne.2 e5
  by_cases e7 : was.pl = 7
  · have t7 : (was.pl == 7) = true := beq_iff_eq.2 e7
    have hw : IntKind.i64.wrap ((i : Int) + 1) = (i : Int) + 1 := by rw [IntKind.wrap_i64]; omega
    by_cases e10 : now.pl = 10
    · have t10 : (now.pl != 10) = false := by simp [e10]
      have HR : Hid (Rd.readAttr P r was now i = { r with value := i }) := by unfold Rd.readAttr Hid; rw [if_neg e0, if_neg e5, if_pos e7, if_pos e10]
      clear e0 e5 e7 e10 h hA hbW hv ht
      go_enter Tryz.func76, Tryz.ntmps76
      go_wp2_with (refine Vm.stop 8 ?_)
      try rw [hW]
      refine ⟨?_⟩
      go_wp2
      go_end0
      refine ⟨rfl, tv, av, ?_, (Rm.Kept.of g _ _ HB.out).trans (Rm.Kept.set _ _ _ _ _ _)⟩
      rw [HR.out]
      exact HA.out.setValue i
    · have t10 : (now.pl != 10) = true := by simp [e10]
      have HR : Hid (Rd.readAttr P r was now i = { r with value := i + 1 }) := by unfold Rd.readAttr Hid; rw [if_neg e0, if_neg e5, if_pos e7, if_neg e10]
      clear e0 e5 e7 e10 h hA hbW hv ht
      go_enter Tryz.func76, Tryz.ntmps76
      go_wp2_with (first | refine Vm.stop 8 ?_ | refine Vm.stop 27 ?_)
      try rw [hW]
      refine ⟨?_⟩
      go_wp2_with (refine Vm.stop 27 ?_)
      have hV := HA.out.setValue i
      have HV := Lib.hid hV
      have HKV := Lib.hid (Rm.Kept.set W g 33 (.int .i64 (i : Int)) tv av)
      have y33 := hV.box.value
      have yf := hV.box.fz
      have m0' : (W.setCell ⟨g, 33, none⟩ (.int .i64 (i : Int))).cell? ⟨w.heap.size + 1, 0, none⟩ = some (.int .i64 now.pl) := (Rm.out _ _ _ _ n2 _).trans m0
      generalize W.setCell ⟨g, 33, none⟩ (.int .i64 (i : Int)) = W2 at *
      clear hV x33 x35 xf k0 k3 m0 hW
      refine ⟨?_⟩
      go_wp2
      go_end0
      refine ⟨rfl, tv, av, ?_, (Rm.Kept.of g _ _ HB.out).trans (HKV.out.trans (Rm.Kept.set _ _ _ _ _ _))⟩
      rw [HR.out]
      exact HV.out.setValue (i + 1)
  have t7 : (was.pl == 7) = false := beq_eq_false_iff_ne.2 e7
  by_cases e8 : was.pl = 8 ∨ was.pl = 9 ∨ was.pl = 10
  · cases htk : r.taken with
    | true =>
      have hne := ht e8 htk
      obtain ⟨m, hm⟩ : ∃ m, r.attrs.length = m + 1 := ⟨r.attrs.length - 1, by have : r.attrs.length ≠ 0 := (fun q => hne (List.eq_nil_of_length_eq_zero q)); omega⟩
      have hh := Rm.readVal r was now i w g P tv av h hP hi (hv e8) htk m hm (by omega) e0 e8
      have HR : Rd.readAttr P r was now i = { r with attrs := Rd.setLast r.attrs (Rd.dec (P.extract r.value i)) } := by unfold Rd.readAttr; rw [if_neg e0, if_neg e5, if_neg e7, if_pos e8, if_pos htk]
      rw [HR]
      exact hh
    | false =>
      rw [htk] at x35
      have HR : Hid (Rd.readAttr P r was now i = r) := by unfold Rd.readAttr Hid; rw [if_neg e0, if_neg e5, if_neg e7, if_pos e8, if_neg (by rw [htk]; decide)]
      rcases e8 with e8 | e8 | e8
      all_goals
        try (have q8 : (was.pl == 8) = true := beq_iff_eq.2 e8)
        try (have q9 : (was.pl == 9) = true := beq_iff_eq.2 e8)
        try (have q10 : (was.pl == 10) = true := beq_iff_eq.2 e8)
        try (have q8 : (was.pl == 8) = false := beq_eq_false_iff_ne.2 (by omega))
        try (have q9 : (was.pl == 9) = false := beq_eq_false_iff_ne.2 (by omega))
        clear e0 e5 e7 e8 h hA hbW hv ht
        go_enter Tryz.func76, Tryz.ntmps76
        go_wp2_with (refine Vm.stop 8 ?_)
        try rw [hW]
        refine ⟨?_⟩
        go_wp2
        go_end0
        refine ⟨rfl, tv, av, ?_, Rm.Kept.of g _ _ HB.out⟩
        rw [HR.out]
        exact HA.out
  · have q8 : (was.pl == 8) = false := beq_eq_false_iff_ne.2 (fun q => e8 (.inl q))
    have q9 : (was.pl == 9) = false := beq_eq_false_iff_ne.2 (fun q => e8 (.inr (.inl q)))
    have q10 : (was.pl == 10) = false := beq_eq_false_iff_ne.2 (fun q => e8 (.inr (.inr q)))
    have HR : Hid (Rd.readAttr P r was now i = r) := by unfold Rd.readAttr Hid; rw [if_neg e0, if_neg e5, if_neg e7, if_neg e8]
    clear e0 e5 e7 e8 h hA hbW hv ht
    go_enter Tryz.func76, Tryz.ntmps76
    go_wp2_with (refine Vm.stop 8 ?_)
    try rw [hW]
    refine ⟨?_⟩
    go_wp2
    go_end0
    refine ⟨rfl, tv, av, ?_, Rm.Kept.of g _ _ HB.out⟩
    rw [HR.out]
    exact HA.out
end Go.Proofs.YtjbkgokiikbaeaaGreatDoor

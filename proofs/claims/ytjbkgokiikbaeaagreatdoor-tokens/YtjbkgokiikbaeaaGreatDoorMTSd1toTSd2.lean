/-
  THE WALK of the reference's value: what a byte in a tag does to the attribute under way.
-/
import Derived.Test.YtjbkgokiikbaeaaGreatDoorTSc9
namespace Go.Proofs.YtjbkgokiikbaeaaGreatDoor
open Go.RowKit
theorem Rf.commit_st (x : Rf) : x.commit.st = x.st := by unfold Rf.commit; (repeat' split) <;> rfl
set_option maxHeartbeats 4000000 in
theorem Sc.value (P : ByteArray) (x : Rf) (s : Ts) (i : Nat) (w : World) (g : Nat) (bv ov av : Value) (h : Sc.At w g P x bv ov av) (hl : x.pv.size ≤ 65536) (ha : x.attrs.length ≤ 32) (hi : i < P.size) (hp : P.size ≤ 65536) :
    Calls Tryz.prog 83 #[.pointer (some ⟨g, 0, none⟩), .agg #[.int .i64 s.pl, .string s.name, .bool s.fin, .string s.attr, .string s.held, .int .i64 s.read], .int .i64 (i : Int)] w fun e w' => e = .returned (.tuple #[]) ∧ ∃ av', Sc.At w' g P (x.value P s i) bv ov av' ∧ Sc.Kept w w' g bv ov av bv ov av' := by
  have hbA : Below w.heap.size w (w.alloc (.cells #[.int .i64 s.pl, .string s.name, .bool s.fin, .string s.attr, .string s.held, .int .i64 s.read] 23)) := (Below.refl _ _).alloc (Nat.le_refl _) _
  have h0 := h.on hbA
  have hk0 := Sc.Kept.of g bv ov av hbA
  have hlt := h.lt
  have n1 : w.heap.size ≠ g := by omega
  have n2 : g ≠ w.heap.size := by omega
  have c1 := h.box.cell 1 _ rfl
  have c4 := h.box.cell 4 _ rfl
  have fz := h.box.fz
  have HA0 := Lib.hid h0
  have HK0 := Lib.hid hk0
  have c1' : ∀ o, (w.alloc o).cell? ⟨g, 1, none⟩ = _ := fun o => (World.cell?_alloc_lt _ _ _ hlt).trans c1
  have c4' : ∀ o, (w.alloc o).cell? ⟨g, 4, none⟩ = _ := fun o => (World.cell?_alloc_lt _ _ _ hlt).trans c4
  have f0 := h0.box.fz
  by_cases h5 : x.st.pl = 5
  · have t5 : (x.st.pl == 5) = true := by rw [h5]; rfl
    by_cases hw5 : s.pl = 5
    · have tw : (s.pl == 5) = true := by rw [hw5]; rfl
      have HX : Hid (x.value P s i = { x with pn := x.st.attr }) := by unfold Hid Rf.value; rw [if_neg (fun q => q.2 hw5), if_pos h5]
      have hb1 : Below (w.setCell ⟨g, 13, none⟩ (.string x.st.attr)).heap.size (w.setCell ⟨g, 13, none⟩ (.string x.st.attr)) ((w.setCell ⟨g, 13, none⟩ (.string x.st.attr)).alloc (.cells #[.int .i64 s.pl, .string s.name, .bool s.fin, .string s.attr, .string s.held, .int .i64 s.read] 23)) := ((Below.refl _ _).alloc (Nat.le_refl _) _)
      have hA1 := (h.set (x' := { x with pn := x.st.attr }) 13 (.string x.st.attr) (by decide) rfl rfl rfl rfl).on hb1
      have hK1 := (Sc.Kept.set w g 13 (.string x.st.attr) bv ov av).trans (Sc.Kept.of g bv ov av hb1)
      have k13 := h0.box.cell 13 _ rfl
      have HA1 := Lib.hid hA1
      have HK1 := Lib.hid hK1
      clear h h0 hk0 hA1 hK1 hbA hb1 h5 hw5
      go_enter Tryz.func83, Tryz.ntmps83
      go_wp2
      go_end0
      exact ⟨rfl, _, by rw [HX.out]; exact HA1.out, HK1.out⟩
    · have tw : (s.pl == 5) = false := beq_eq_false_iff_ne.2 hw5
      have HX : Hid (x.value P s i = { x.commit with has := true, pn := x.st.attr, pv := Ts.e }) := by unfold Hid Rf.value; rw [if_pos ⟨h5, hw5⟩]
      have com := Sc.commit P x _ g bv ov av h0 hl ha
      have hcs := Rf.commit_st x
      clear h h0 hk0 hbA h5 hw5
      go_enter Tryz.func83, Tryz.ntmps83
      go_wp2_with (go_at_call 106; refine com.mono ?_; rintro e w1 ⟨rfl, av1, hA1, hK1⟩; have e4 := hA1.box.cell 4 _ rfl; rw [hcs] at e4; have e12 := hA1.box.cell 12 _ rfl; have e13 := hA1.box.cell 13 _ rfl; have e14 := hA1.box.cell 14 _ rfl; have ef := hA1.box.fz; have hA2 := ((hA1.set (x' := { x.commit with has := true }) 12 (.bool true) (by decide) rfl rfl rfl rfl).set (x' := { x.commit with has := true, pn := x.st.attr }) 13 (.string x.st.attr) (by decide) rfl rfl rfl rfl).set (x' := { x.commit with has := true, pn := x.st.attr, pv := Ts.e }) 14 (.string ⟨#[]⟩) (by decide) rfl rfl rfl rfl; have hK2 := ((HK0.out.trans hK1).trans (Sc.Kept.set _ g 12 (.bool true) bv ov av1)).trans ((Sc.Kept.set _ g 13 (.string x.st.attr) bv ov av1).trans (Sc.Kept.set _ g 14 (.string ⟨#[]⟩) bv ov av1)); have HA2 := Lib.hid hA2; have HK2 := Lib.hid hK2; clear com hA1 hK1 hA2 hK2)
      go_end0
      exact ⟨rfl, _, by rw [HX.out]; exact HA2.out, HK2.out⟩
  · have t5 : (x.st.pl == 5) = false := beq_eq_false_iff_ne.2 h5
    by_cases hc : x.st.pl = 10 ∨ (x.st.pl = s.pl ∧ (x.st.pl = 8 ∨ x.st.pl = 9))
    · have HX : Hid (x.value P s i = { x with pv := x.pv ++ P.extract i (i + 1) }) := by unfold Hid Rf.value; rw [if_neg (fun q => h5 q.1), if_neg h5, if_pos hc]
      have hb1 : Below (w.setCell ⟨g, 14, none⟩ (.string (x.pv ++ P.extract i (i + 1)))).heap.size (w.setCell ⟨g, 14, none⟩ (.string (x.pv ++ P.extract i (i + 1)))) ((w.setCell ⟨g, 14, none⟩ (.string (x.pv ++ P.extract i (i + 1)))).alloc (.cells #[.int .i64 s.pl, .string s.name, .bool s.fin, .string s.attr, .string s.held, .int .i64 s.read] 23)).drew := ((Below.refl _ _).alloc (Nat.le_refl _) _).drew
      have hA1 := (h.set (x' := { x with pv := x.pv ++ P.extract i (i + 1) }) 14 (.string (x.pv ++ P.extract i (i + 1))) (by decide) rfl rfl rfl rfl).on hb1
      have hK1 := (Sc.Kept.set w g 14 (.string (x.pv ++ P.extract i (i + 1))) bv ov av).trans (Sc.Kept.of g bv ov av hb1)
      have c0 := h.box.cell 0 _ rfl
      have c14 := h.box.cell 14 _ rfl
      have c0' : ∀ o, (w.alloc o).cell? ⟨g, 0, none⟩ = _ := fun o => (World.cell?_alloc_lt _ _ _ hlt).trans c0
      have c14' : ∀ o, (w.alloc o).cell? ⟨g, 14, none⟩ = _ := fun o => (World.cell?_alloc_lt _ _ _ hlt).trans c14
      have hcut := Rm.text_cut P i (i + 1) (by omega) (by omega)
      rw [show ((i + 1 : Nat) : Int) = (i : Int) + 1 by omega] at hcut
      have hwr : IntKind.i64.wrap ((i : Int) + 1) = (i : Int) + 1 := by rw [IntKind.wrap_i64]; omega
      have hes : (P.extract i (i + 1)).size = 1 := by rw [ByteArray.size_extract]; omega
      have HA1 := Lib.hid hA1
      have HK1 := Lib.hid hK1
      clear h h0 hk0 hA1 hK1 hbA hb1
      have hd : (x.st.pl == 10) = true ∨ (x.st.pl == 10) = false ∧ (x.st.pl == s.pl) = true ∧ ((x.st.pl == 8) = true ∨ (x.st.pl == 8) = false ∧ (x.st.pl == 9) = true) := by
        simp only [beq_iff_eq, beq_eq_false_iff_ne]
        omega
      rcases hd with q1 | ⟨q1, q2, q3 | ⟨q3, q4⟩⟩
      all_goals
        clear hc h5
        go_enter Tryz.func83, Tryz.ntmps83
        go_wp2_with fail
        go_region
        go_wp2
        go_end0
        exact ⟨rfl, _, by rw [HX.out]; exact HA1.out, HK1.out⟩
    · have HX : Hid (x.value P s i = x) := by unfold Hid Rf.value; rw [if_neg (fun q => h5 q.1), if_neg h5, if_neg hc]
      clear h h0 hk0 hbA
      have hd : (x.st.pl == 10) = false ∧ ((x.st.pl == s.pl) = false ∨ (x.st.pl == s.pl) = true ∧ (x.st.pl == 8) = false ∧ (x.st.pl == 9) = false) := by
        simp only [beq_iff_eq, beq_eq_false_iff_ne]
        omega
      rcases hd with ⟨q1, q2 | ⟨q2, q3, q4⟩⟩
      all_goals
        clear hc h5
        go_enter Tryz.func83, Tryz.ntmps83
        go_wp2
        go_end0
        exact ⟨rfl, _, by rw [HX.out]; exact HA0.out, HK0.out⟩
end Go.Proofs.YtjbkgokiikbaeaaGreatDoor
/-
  THE REFERENCE's SCAN: a state laid into its cells.
-/
namespace Go.Proofs.YtjbkgokiikbaeaaGreatDoor
open Go.RowKit
/-- the state's six cells, stored one behind the other -/
theorem Sc.At.putSt {w : World} {g : Nat} {P : ByteArray} {x : Rf} {bv ov av : Value} (h : Sc.At w g P x bv ov av) (N : Ts) :
    Sc.At ((((((w.setCell ⟨g, 1, none⟩ (.int .i64 N.pl)).setCell ⟨g, 2, none⟩ (.string N.name)).setCell ⟨g, 3, none⟩ (.bool N.fin)).setCell ⟨g, 4, none⟩ (.string N.attr)).setCell ⟨g, 5, none⟩ (.string N.held)).setCell ⟨g, 6, none⟩ (.int .i64 N.read)) g P { x with st := N } bv ov av ∧
    Sc.Kept w ((((((w.setCell ⟨g, 1, none⟩ (.int .i64 N.pl)).setCell ⟨g, 2, none⟩ (.string N.name)).setCell ⟨g, 3, none⟩ (.bool N.fin)).setCell ⟨g, 4, none⟩ (.string N.attr)).setCell ⟨g, 5, none⟩ (.string N.held)).setCell ⟨g, 6, none⟩ (.int .i64 N.read)) g bv ov av bv ov av :=
  ⟨(((((h.set (x' := { x with st := { x.st with pl := N.pl } }) 1 (.int .i64 N.pl) (by decide) rfl rfl rfl rfl).set (x' := { x with st := { x.st with pl := N.pl, name := N.name } }) 2 (.string N.name) (by decide) rfl rfl rfl rfl).set (x' := { x with st := { x.st with pl := N.pl, name := N.name, fin := N.fin } }) 3 (.bool N.fin) (by decide) rfl rfl rfl rfl).set (x' := { x with st := { x.st with pl := N.pl, name := N.name, fin := N.fin, attr := N.attr } }) 4 (.string N.attr) (by decide) rfl rfl rfl rfl).set (x' := { x with st := { x.st with pl := N.pl, name := N.name, fin := N.fin, attr := N.attr, held := N.held } }) 5 (.string N.held) (by decide) rfl rfl rfl rfl).set (x' := { x with st := N }) 6 (.int .i64 N.read) (by decide) rfl rfl rfl rfl,
   ((((((Sc.Kept.set w g 1 _ bv ov av).trans (Sc.Kept.set _ g 2 _ bv ov av)).trans (Sc.Kept.set _ g 3 _ bv ov av)).trans (Sc.Kept.set _ g 4 _ bv ov av)).trans (Sc.Kept.set _ g 5 _ bv ov av)).trans (Sc.Kept.set _ g 6 _ bv ov av))⟩
end Go.Proofs.YtjbkgokiikbaeaaGreatDoor

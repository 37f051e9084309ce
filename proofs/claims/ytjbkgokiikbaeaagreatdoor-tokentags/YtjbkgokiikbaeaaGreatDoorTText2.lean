/-
  THE WALKS of the reader's tellText and tellComment.
-/
import Derived.Test.YtjbkgokiikbaeaaGreatDoorTText
import Derived.Deep.QuietTactic
import Derived.BigQuiet
namespace Go.Proofs.YtjbkgokiikbaeaaGreatDoor
open Go.RowKit
theorem Rm.text_cut (P : ByteArray) (a b : Nat) (h1 : a ≤ b) (h2 : b ≤ P.size) (u : World) : (Instr.slice 9 (.string P) (some (.int .i64 (a : Int))) (some (.int .i64 (b : Int))) none).run Tryz.prog u = .ok (.string (P.extract a b)) u := by
  have h := Wk.run_cut u P (a : Int) (b : Int) (by omega) (by omega) (by omega)
  rwa [Int.toNat_natCast, Int.toNat_natCast] at h
theorem Rm.cut_size (P : ByteArray) (a b : Nat) : (P.extract a b).size ≤ P.size := by
  rw [ByteArray.size_extract]; omega
set_option maxHeartbeats 2000000 in
theorem Rm.tellText (r : Rd) (fin : Nat) (held : ByteArray) (w : World) (g : Nat) (P : ByteArray) (tv av : Value) (h : Rm.At w g P r tv av) (hP : P.size ≤ 65536) (hf : r.text ≤ fin) (hfP : fin ≤ P.size) (hn : r.toks.length ≤ 1000000) :
    Calls Tryz.prog 32 #[.pointer (some ⟨g, 0, none⟩), .int .i64 (fin : Int), .string held] w fun e w' => e = .returned (.tuple #[]) ∧ ∃ tv' av', Rm.At w' g P (Rd.tellText P r fin held) tv' av' ∧ Rm.Kept w w' g tv av tv' av' := by
  have c0 := h.box.page
  have c31 := h.box.text
  have HH := Lib.hid h
  by_cases he : r.text = fin
  · have t0 : ((r.text : Int) == (fin : Int)) = true := beq_iff_eq.2 (by omega)
    have HE := Lib.hid he
    clear h he
    go_enter Tryz.func32, Tryz.ntmps32
    go_wp2
    refine bodyPost_ret (v := .tuple #[]) (by simp [results, Tryz.results32, go_sem]) rfl ⟨rfl, tv, av, ?_, Rm.Kept.refl _ _ _ _⟩
    unfold Rd.tellText
    rw [if_pos HE.out]
    exact HH.out
  · have t0 : ((r.text : Int) == (fin : Int)) = false := beq_eq_false_iff_ne.2 (by omega)
    have hcut := Rm.text_cut P r.text fin hf hfP
    have hsz := Rm.cut_size P r.text fin
    have HT : Hid (Rd.tellText P r fin held = r.tell ⟨0, Ts.e, Rd.textOf P r.text fin held, [], false⟩ fin) := by unfold Rd.tellText Hid; rw [if_neg he]
    have HTO : Hid (Rd.textOf P r.text fin held = if Ts.kind held = 3 ∨ Ts.kind held = 4 then P.extract r.text fin else Rd.dec (P.extract r.text fin)) := rfl
    have hx : ∀ X, Rd.textOf P r.text fin held = X → Hid (Rd.tellText P r fin held = r.tell ⟨0, Ts.e, X, [], false⟩ fin) := fun X e => by rw [← e]; exact HT
    clear HT
    by_cases k3 : Ts.kind held = 3
    · have HT := hx (P.extract r.text fin) (by rw [HTO.out, if_pos (.inl k3)])
      have u3 : (Ts.kind held == 3) = true := beq_iff_eq.2 k3
      clear k3 HTO hx
      have tell := fun (u : World) (hb : Below w.heap.size w u) => Rm.tell r ⟨0, Ts.e, P.extract r.text fin, [], false⟩ (.slice none 0 0) fin u g P tv av (HH.out.on hb) (Ak.Lies.nil _ _) hn
      clear h he hf hfP
      go_enter Tryz.func32, Tryz.ntmps32
      go_wp2_with fail
      go_quiet (fail)
      go_wp2_with (first | (go_at_call 79; refine (Tp.kind held _).mono ?_; rintro e w' ⟨rfl, rfl⟩) | (go_at_call 80; refine (Tp.clone (P.extract r.text fin) _ (by omega)).mono ?_; rintro e w1 ⟨rfl, hb1⟩; have q1 : Below w.heap.size w w1 := Below.trans (by first | exact Wk.below_drews (Below.refl _ _) _ | exact (Below.refl _ _).drew) (hb1.mono (by first | (simp; done) | omega)); clear hb1) | (go_at_call 74; refine (tell _ q1).mono ?_; rintro e w2 ⟨rfl, tv2, hA, hK⟩))
      go_end0
      refine ⟨rfl, tv2, .slice none 0 0, ?_, (Rm.Kept.of g tv av q1).trans hK⟩
      rw [HT.out]
      exact hA
    have u3 : (Ts.kind held == 3) = false := beq_eq_false_iff_ne.2 k3
    by_cases k4 : Ts.kind held = 4
    · have HT := hx (P.extract r.text fin) (by rw [HTO.out, if_pos (.inr k4)])
      have u4 : (Ts.kind held == 4) = true := beq_iff_eq.2 k4
      clear k3 k4 HTO hx
      have tell := fun (u : World) (hb : Below w.heap.size w u) => Rm.tell r ⟨0, Ts.e, P.extract r.text fin, [], false⟩ (.slice none 0 0) fin u g P tv av (HH.out.on hb) (Ak.Lies.nil _ _) hn
      clear h he hf hfP
      go_enter Tryz.func32, Tryz.ntmps32
      go_wp2_with fail
      go_quiet (fail)
      go_wp2_with (first | (go_at_call 79; refine (Tp.kind held _).mono ?_; rintro e w' ⟨rfl, rfl⟩) | (go_at_call 80; refine (Tp.clone (P.extract r.text fin) _ (by omega)).mono ?_; rintro e w1 ⟨rfl, hb1⟩; have q1 : Below w.heap.size w w1 := Below.trans (by first | exact Wk.below_drews (Below.refl _ _) _ | exact (Below.refl _ _).drew) (hb1.mono (by first | (simp; done) | omega)); clear hb1) | (go_at_call 74; refine (tell _ q1).mono ?_; rintro e w2 ⟨rfl, tv2, hA, hK⟩))
      go_end0
      refine ⟨rfl, tv2, .slice none 0 0, ?_, (Rm.Kept.of g tv av q1).trans hK⟩
      rw [HT.out]
      exact hA
    have HT := hx (Rd.dec (P.extract r.text fin)) (by rw [HTO.out, if_neg (by simp [k3, k4])])
    have u4 : (Ts.kind held == 4) = false := beq_eq_false_iff_ne.2 k4
    have hD : ∀ u : World, Calls Tryz.prog 81 #[.string (P.extract r.text fin)] u fun e w' => e = .returned (.string (Rd.dec (P.extract r.text fin))) ∧ Below u.heap.size u w' := fun u => Rr.decode (P.extract r.text fin) u (by omega)
    clear k3 k4 HTO hx
    generalize Rd.dec (P.extract r.text fin) = D at *
    have tell := fun (u : World) (hb : Below w.heap.size w u) => Rm.tell r ⟨0, Ts.e, D, [], false⟩ (.slice none 0 0) fin u g P tv av (HH.out.on hb) (Ak.Lies.nil _ _) hn
    clear h he hf hfP
    go_enter Tryz.func32, Tryz.ntmps32
    go_wp2_with fail
    go_quiet (fail)
    go_wp2_with (first | (go_at_call 79; refine (Tp.kind held _).mono ?_; rintro e w' ⟨rfl, rfl⟩) | (go_at_call 81; refine (hD _).mono ?_; rintro e w1 ⟨rfl, hb1⟩; have q1 : Below w.heap.size w w1 := Below.trans (by first | exact Wk.below_drews (Below.refl _ _) _ | exact (Below.refl _ _).drew) (hb1.mono (by first | (simp; done) | omega)); clear hb1) | (go_at_call 74; refine (tell _ q1).mono ?_; rintro e w2 ⟨rfl, tv2, hA, hK⟩))
    go_end0
    refine ⟨rfl, tv2, .slice none 0 0, ?_, (Rm.Kept.of g tv av q1).trans hK⟩
    rw [HT.out]
    exact hA
end Go.Proofs.YtjbkgokiikbaeaaGreatDoor

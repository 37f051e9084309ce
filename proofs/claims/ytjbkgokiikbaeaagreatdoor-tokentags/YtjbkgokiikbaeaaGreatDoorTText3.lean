/-
  THE WALKS of the reader's tellComment and tellTag.
-/
import Derived.Test.YtjbkgokiikbaeaaGreatDoorTText2
import Derived.Deep.RegionHeld
namespace Go.Proofs.YtjbkgokiikbaeaaGreatDoor
open Go.RowKit
set_option maxHeartbeats 2000000 in
theorem Rm.tellComment (r : Rd) (s : Ts) (i : Nat) (w : World) (g : Nat) (P : ByteArray) (tv av : Value) (h : Rm.At w g P r tv av) (hP : P.size ≤ 65536) (hi : i ≤ P.size) (h2 : s.pl ≠ 17 → r.opn + 2 ≤ i) (h4 : s.pl = 17 → r.opn + 6 ≤ i) (hn : r.toks.length ≤ 1000000) :
    Calls Tryz.prog 78 #[.pointer (some ⟨g, 0, none⟩), .agg #[.int .i64 s.pl, .string s.name, .bool s.fin, .string s.attr, .string s.held, .int .i64 s.read], .int .i64 (i : Int)] w fun e w' => e = .returned (.tuple #[]) ∧ ∃ tv' av', Rm.At w' g P (Rd.tellComment P r s i) tv' av' ∧ Rm.Kept w w' g tv av tv' av' := by
  have hbA : Below w.heap.size w (w.alloc (.cells #[.int .i64 s.pl, .string s.name, .bool s.fin, .string s.attr, .string s.held, .int .i64 s.read] 23)) := (Below.refl _ _).alloc (Nat.le_refl _) _
  have c0 := h.box.page
  have c32 := h.box.opn
  have hlt := h.lt
  have n1 : w.heap.size ≠ g := by omega
  have n2 : g ≠ w.heap.size := by omega
  have HH := Lib.hid h
  have hw : IntKind.i64.wrap ((i : Int) + 1) = ((i + 1 : Nat) : Int) := by rw [IntKind.wrap_i64]; omega
  by_cases e : s.pl = 17
  · have hle := h4 e
    have t0 : (s.pl == 17) = true := beq_iff_eq.2 e
    have HT : Hid (Rd.tellComment P r s i = r.tell ⟨3, Ts.e, P.extract (r.opn + 4) (i - 2), [], false⟩ (i + 1)) := by unfold Rd.tellComment Hid; rw [if_pos e]
    have hcut := Rm.text_cut P (r.opn + 4) (i - 2) (by omega) (by omega)
    rw [show ((r.opn + 4 : Nat) : Int) = (r.opn : Int) + 4 by omega, show ((i - 2 : Nat) : Int) = (i : Int) - 2 by omega] at hcut
    have hsz := Rm.cut_size P (r.opn + 4) (i - 2)
    generalize P.extract (r.opn + 4) (i - 2) = C at *
    have tell := fun (u : World) (hb : Below w.heap.size w u) => Rm.tell r ⟨3, Ts.e, C, [], false⟩ (.slice none 0 0) (i + 1) u g P tv av (HH.out.on hb) (Ak.Lies.nil _ _) hn
    rw [show ((i + 1 : Nat) : Int) = (i : Int) + 1 by omega] at tell
    have hC := fun u : World => Tp.clone C u (by omega)
    clear h h2 h4 e hw
    go_enter Tryz.func78, Tryz.ntmps78
    go_wp2_with (first | (go_at_call 80; refine (hC _).mono ?_; rintro e w1 ⟨rfl, hb1⟩; have q1 : Below w.heap.size w w1 := hbA.trans (hb1.mono (by first | (simp; done) | omega)); clear hb1) | (go_at_call 74; refine (tell _ q1).mono ?_; rintro e w2 ⟨rfl, tv2, hA, hK⟩))
    go_end0
    refine ⟨rfl, tv2, .slice none 0 0, ?_, (Rm.Kept.of g tv av q1).trans hK⟩
    rw [HT.out]
    exact hA
  · have hle := h2 e
    have t0 : (s.pl == 17) = false := beq_eq_false_iff_ne.2 e
    have HT : Hid (Rd.tellComment P r s i = r.tell ⟨3, Ts.e, P.extract (r.opn + 2) (i), [], false⟩ (i + 1)) := by unfold Rd.tellComment Hid; rw [if_neg e]
    have hcut := Rm.text_cut P (r.opn + 2) (i) (by omega) (by omega)
    rw [show ((r.opn + 2 : Nat) : Int) = (r.opn : Int) + 2 by omega] at hcut
    have hsz := Rm.cut_size P (r.opn + 2) (i)
    generalize P.extract (r.opn + 2) (i) = C at *
    have tell := fun (u : World) (hb : Below w.heap.size w u) => Rm.tell r ⟨3, Ts.e, C, [], false⟩ (.slice none 0 0) (i + 1) u g P tv av (HH.out.on hb) (Ak.Lies.nil _ _) hn
    rw [show ((i + 1 : Nat) : Int) = (i : Int) + 1 by omega] at tell
    have hC := fun u : World => Tp.clone C u (by omega)
    clear h h2 h4 e hw
    go_enter Tryz.func78, Tryz.ntmps78
    go_wp2_with (first | (go_at_call 80; refine (hC _).mono ?_; rintro e w1 ⟨rfl, hb1⟩; have q1 : Below w.heap.size w w1 := hbA.trans (hb1.mono (by first | (simp; done) | omega)); clear hb1) | (go_at_call 74; refine (tell _ q1).mono ?_; rintro e w2 ⟨rfl, tv2, hA, hK⟩))
    go_end0
    refine ⟨rfl, tv2, .slice none 0 0, ?_, (Rm.Kept.of g tv av q1).trans hK⟩
    rw [HT.out]
    exact hA
set_option maxHeartbeats 4000000 in
theorem Rm.tellTag (r : Rd) (s : Ts) (i : Nat) (w : World) (g : Nat) (P : ByteArray) (tv av : Value) (h : Rm.At w g P r tv av) (hi : i ≤ 65536) (hn : r.toks.length ≤ 1000000) :
    Calls Tryz.prog 77 #[.pointer (some ⟨g, 0, none⟩), .agg #[.int .i64 s.pl, .string s.name, .bool s.fin, .string s.attr, .string s.held, .int .i64 s.read], .int .i64 (i : Int)] w fun e w' => e = .returned (.tuple #[]) ∧ ∃ tv' av', Rm.At w' g P (r.tellTag s i) tv' av' ∧ Rm.Kept w w' g tv av tv' av' := by
  obtain ⟨p, n, f, at', he, rd⟩ := s
  simp only
  have hbA : Below w.heap.size w (w.alloc (.cells #[.int .i64 p, .string n, .bool f, .string at', .string he, .int .i64 rd] 23)) := (Below.refl _ _).alloc (Nat.le_refl _) _
  have c34 := h.box.attrs
  have hlt := h.lt
  have n1 : w.heap.size ≠ g := by omega
  have n2 : g ≠ w.heap.size := by omega
  have HH := Lib.hid h
  cases f with
  | true =>
    have HT : Hid (r.tellTag ⟨p, n, true, at', he, rd⟩ i = r.tell ⟨2, n, Ts.e, [], false⟩ (i + 1)) := rfl
    have tell := fun (u : World) (hb : Below w.heap.size w u) => Rm.tell r ⟨2, n, Ts.e, [], false⟩ (.slice none 0 0) (i + 1) u g P tv av (HH.out.on hb) (Ak.Lies.nil _ _) hn
    rw [show ((i + 1 : Nat) : Int) = (i : Int) + 1 by omega] at tell
    clear h
    go_enter Tryz.func77, Tryz.ntmps77
    go_wp2_with (go_at_call 74; refine (tell _ hbA).mono ?_; rintro e w2 ⟨rfl, tv2, hA, hK⟩)
    refine bodyPost_ret (v := .tuple #[]) (by simp [results, Tryz.results77, go_sem]) rfl ⟨rfl, tv2, .slice none 0 0, ?_, (Rm.Kept.of g tv av hbA).trans hK⟩
    rw [HT.out]
    exact hA
  | false =>
    have HT : Hid (r.tellTag ⟨p, n, false, at', he, rd⟩ i = r.tell ⟨1, n, Ts.e, r.attrs, p == 12⟩ (i + 1)) := rfl
    have tell := fun (u : World) (hb : Below w.heap.size w u) => Rm.tell r ⟨1, n, Ts.e, r.attrs, p == 12⟩ av (i + 1) u g P tv av (HH.out.on hb) ((Ak.Lies.own (HH.out.on hb).attrs).on fun k hk => ⟨⟨((HH.out.on hb).avLt hk).1, ((HH.out.on hb).avLt hk).2, fun e => HH.out.apart k e hk⟩, rfl⟩) hn
    rw [show ((i + 1 : Nat) : Int) = (i : Int) + 1 by omega] at tell
    obtain ⟨aa, ad, rfl⟩ := Rm.form h.attrs
    have hw : IntKind.i64.wrap ((i : Int) + 1) = (i : Int) + 1 := by rw [IntKind.wrap_i64]; omega
    clear h
    go_enter Tryz.func77, Tryz.ntmps77
    go_wp2_with fail
    go_region_with (go_at_call 74; refine (tell _ hbA.drew).mono ?_; rintro e w2 ⟨rfl, tv2, hA, hK⟩)
    all_goals go_wp2
    all_goals go_end0
    all_goals refine ⟨rfl, tv2, .slice none 0 0, ?_, (Rm.Kept.of g tv _ hbA.drew).trans hK⟩
    all_goals rw [HT.out]
    all_goals exact hA
end Go.Proofs.YtjbkgokiikbaeaaGreatDoor

/-
  THE WALK of the reference's byte: a byte in the midst of what may be a tag.
-/
import Derived.Test.YtblpkjlodncpeaaGreatDoorBTSd1toTSd5
import Derived.Test.YtblpkjlodncpeaaGreatDoorBTFittoRefTok
import Derived.Test.YtblpkjlodncpeaaGreatDoorBTSim3toKMay
import Derived.Test.YtblpkjlodncpeaaGreatDoorBTSdAtoTSd8
import Derived.Test.YtblpkjlodncpeaaGreatDoorBTBoxtoTOk
import Derived.Test.YtblpkjlodncpeaaGreatDoorBTSimtoShelf8
import Derived.Deep.RegionHeld
namespace Go.Proofs.YtblpkjlodncpeaaGreatDoor
open Go.RowKit
set_option maxRecDepth 100000 in
set_option maxHeartbeats 8000000 in
theorem Sc.byteNone (P : ByteArray) (x : Rf) (i : Nat) (w : World) (g : Nat) (bv ov av : Value) (h : Sc.At w g P x bv ov av) (hf : Ts.Fit x.st) (hi : i < P.size) (_hp : P.size ≤ 65536) (c : UInt8) (hc : P[i] = c) (N : Ts) (hN : x.st.step c = N) (_hE : ¬ ((x.st.pl = 22 ∧ N.pl = 0) ∨ (Rf.inTag x.st.pl ∧ ¬ Rf.inTag N.pl))) (_hV : ¬ Rf.inTag N.pl) (_hC : ¬ (13 ≤ x.st.pl ∧ x.st.pl ≤ 18 ∧ N.pl = 0)) (_hT : Rf.inText N.pl ∧ Rf.inText x.st.pl) (_hO : ¬ (N.pl = 1 ∨ N.pl = 20)) (_hD : ¬ (N.pl = 0 ∨ N.pl = 19)) (Z : Rf) (HZ : Hid ((({ x with st := N } : Rf)) = Z)) :
  Calls Tryz.prog 41 #[.pointer (some ⟨g, 0, none⟩), .int .i64 (i : Int)] w fun e w' => e = .returned (.tuple #[]) ∧ ∃ bv' ov' av', Sc.At w' g P Z bv' ov' av' ∧ Sc.Kept w w' g bv ov av bv' ov' av' := by
 have HD3 : Hid (((x.st.pl == 22) = true ∧ (N.pl == 0) = false ∧ Ts.inTag x.st.pl = false) ∨ ((x.st.pl == 22) = false ∧ Ts.inTag x.st.pl = false) ∨ ((x.st.pl == 22) = false ∧ Ts.inTag x.st.pl = true ∧ Ts.inTag N.pl = true)) := by
  unfold Hid
  (try unfold Rf.inTag at *)
  (try unfold Rf.inText at *)
  simp only [beq_iff_eq, beq_eq_false_iff_ne, Ts.inTag, decide_eq_true_eq, decide_eq_false_iff_not, Bool.and_eq_true, Bool.and_eq_false_iff]
  omega
 have HD6 : Hid (Ts.inTag N.pl = false) := by
  unfold Hid
  (try unfold Rf.inTag at *)
  (try unfold Rf.inText at *)
  simp only [Ts.inTag, decide_eq_false_iff_not, Bool.and_eq_false_iff]
  omega
 have HD8 : Hid (decide ((13 : Int) ≤ x.st.pl) = false ∨ (decide ((13 : Int) ≤ x.st.pl) = true ∧ decide (x.st.pl ≤ 18) = false) ∨ (decide ((13 : Int) ≤ x.st.pl) = true ∧ decide (x.st.pl ≤ 18) = true ∧ (N.pl == 0) = false)) := by
  unfold Hid
  (try unfold Rf.inTag at *)
  (try unfold Rf.inText at *)
  simp only [beq_eq_false_iff_ne, decide_eq_true_eq, decide_eq_false_iff_not]
  omega
 have HD15 : Hid ((decide (N.pl = 0) || decide (N.pl = 1) || decide (N.pl = 2) || decide ((19 : Int) ≤ N.pl)) = true ∧ (decide (x.st.pl = 0) || decide (x.st.pl = 1) || decide (x.st.pl = 2) || decide ((19 : Int) ≤ x.st.pl)) = true) := by
  unfold Hid
  (try unfold Rf.inTag at *)
  (try unfold Rf.inText at *)
  simp only [decide_eq_true_eq, Bool.or_eq_true]
  omega
 have HD16 : Hid ((N.pl == 1) = false ∧ (N.pl == 20) = false) := by
  unfold Hid
  (try unfold Rf.inTag at *)
  (try unfold Rf.inText at *)
  simp only [beq_eq_false_iff_ne]
  omega
 have HD20 : Hid ((N.pl == 0) = false ∧ (N.pl == 19) = false) := by
  unfold Hid
  (try unfold Rf.inTag at *)
  (try unfold Rf.inText at *)
  simp only [beq_eq_false_iff_ne]
  omega
 clear _hE _hV _hC _hT _hO _hD
 have c0 := h.box.cell 0 _ rfl
 have c1 := h.box.cell 1 _ rfl
 have c2 := h.box.cell 2 _ rfl
 have c3 := h.box.cell 3 _ rfl
 have c4 := h.box.cell 4 _ rfl
 have c5 := h.box.cell 5 _ rfl
 have c6 := h.box.cell 6 _ rfl
 have hst := fun u => Rs.step x.st hf c u
 simp only [hN] at hst
 have hcn : P[i].toNat = c.toNat := by rw [hc]
 clear hN
 have hlt := h.lt
 have n1 : w.heap.size ≠ g := by omega
 have n2 : g ≠ w.heap.size := by omega
 go_enter Tryz.func41, Tryz.ntmps41
 go_wp2_with fail
 obtain ⟨W, hW⟩ : ∃ W, w.alloc (.cells #[.int .i64 x.st.pl, .string x.st.name, .bool x.st.fin, .string x.st.attr, .string x.st.held, .int .i64 x.st.read] 76) = W := ⟨_, rfl⟩
 have hbW : Below w.heap.size w W := by rw [← hW]; exact (Below.refl _ _).alloc (Nat.le_refl _) _
 have hS : Sc.St W w.heap.size x.st := by rw [← hW]; exact Sc.six_cells _ _ _ _ _ _ _ _
 have k0 := hS 0 _ rfl
 have k1 := hS 1 _ rfl
 have k2 := hS 2 _ rfl
 have k3 := hS 3 _ rfl
 have k4 := hS 4 _ rfl
 have k5 := hS 5 _ rfl
 have y0 := Tp.keep hbW c0
 have hAW := h.on hbW
 rw [hW]
 clear hW c0 c1 c2 c3 c4 c5 c6
 have HAW := Lib.hid hAW
 have HKW := Lib.hid (Sc.Kept.of g bv ov av hbW)
 have HF := Lib.hid h.free
 have HS := Lib.hid hS
 clear h hS hbW hAW
 go_cut [] from 12 to 22 (fun wc => Hid (Sc.At wc g P { x with st := N } bv ov av ∧ Sc.Kept W wc g bv ov av bv ov av))
 case first =>
  go_region_with (go_at_call 87; refine (hst _).mono ?_; rintro e w1 ⟨rfl, hb1⟩; have hb1 := Sc.undrew hb1; have hA1 := HAW.out.on hb1; have e1 := hA1.box.cell 1 _ rfl; have e2 := hA1.box.cell 2 _ rfl; have e3 := hA1.box.cell 3 _ rfl; have e4 := hA1.box.cell 4 _ rfl; have e5 := hA1.box.cell 5 _ rfl; have e6 := hA1.box.cell 6 _ rfl; have ef := hA1.box.fz; have HA1 := Lib.hid hA1; have HB1 := Lib.hid hb1; clear hA1 hb1)
  all_goals (try go_wp2_with fail)
  all_goals go_meet
  all_goals exact Lib.hid ⟨(HA1.out.putSt N).1, (Sc.Kept.of g bv ov av HB1.out).trans (HA1.out.putSt N).2⟩
 case rest =>
  have hA := hcut.out.1
  have hK := HKW.out.trans hcut.out.2
  have hS2 := HS.out.kept hcut.out.2 HF.out
  clear k0 k1 k2 k3 k4 k5 y0 hst hf HAW HKW HS
  have k0 := hS2 0 _ rfl
  have k1 := hS2 1 _ rfl
  have k2 := hS2 2 _ rfl
  have k3 := hS2 3 _ rfl
  have k4 := hS2 4 _ rfl
  have k5 := hS2 5 _ rfl
  have x0 : wc.cell? ⟨g, 0, none⟩ = some (.string P) := hA.box.cell 0 _ rfl
  have x1 : wc.cell? ⟨g, 1, none⟩ = some (.int .i64 N.pl) := hA.box.cell 1 _ rfl
  have x7 : wc.cell? ⟨g, 7, none⟩ = some (.int .i64 x.hold) := hA.box.cell 7 _ rfl
  have ef := hA.box.fz
  have HA := Lib.hid hA
  have HK := Lib.hid hK
  clear hcut hA hK hS2
  generalize w.heap.size = gs at *
  go_upto_region 3 with fail
  go_cut [28] from 28 to 45 (fun s wx => s = .bool false ∧ wx = wc)
  case first =>
   rcases HD3.out with ⟨q0, q1, q2⟩ | ⟨q0, q1⟩ | ⟨q0, q1, q2⟩
   ·
    have itag := fun u => Rs.inTag x.st.pl false q2 u
    go_wp2_with (go_at_call 88; (first | refine (itag _).mono ?_ | refine (ntag _).mono ?_); rintro e w' ⟨rfl, hw⟩; have hw := hw.symm; subst hw)
    go_meet
    exact ⟨rfl, rfl⟩
   ·
    have itag := fun u => Rs.inTag x.st.pl false q1 u
    go_wp2_with (go_at_call 88; (first | refine (itag _).mono ?_ | refine (ntag _).mono ?_); rintro e w' ⟨rfl, hw⟩; have hw := hw.symm; subst hw)
    go_meet
    exact ⟨rfl, rfl⟩
   ·
    have itag := fun u => Rs.inTag x.st.pl true q1 u
    have ntag := fun u => Rs.inTag N.pl true q2 u
    go_wp2_with (go_at_call 88; (first | refine (itag _).mono ?_ | refine (ntag _).mono ?_); rintro e w' ⟨rfl, hw⟩; have hw := hw.symm; subst hw)
    go_meet
    exact ⟨rfl, rfl⟩
  case rest =>
  clear HD3
  obtain ⟨rfl, rfl⟩ := hcut
  have ntag := fun u => Rs.inTag N.pl false HD6.out u
  go_upto_region 8 with ((go_at_call 88; refine (ntag _).mono ?_; rintro e w' ⟨rfl, hw⟩; have hw := hw.symm; subst hw))
  clear ntag
  go_cut [59] from 59 to 71 (fun s wx => s = .bool false ∧ wx = wc)
  case first =>
   rcases HD8.out with q0 | ⟨q0, q1⟩ | ⟨q0, q1, q2⟩
   ·
    go_wp2_with fail
    go_meet
    exact ⟨rfl, rfl⟩
   ·
    go_wp2_with fail
    go_meet
    exact ⟨rfl, rfl⟩
   ·
    go_wp2_with fail
    go_meet
    exact ⟨rfl, rfl⟩
  case rest =>
  clear HD8
  obtain ⟨rfl, rfl⟩ := hcut
  go_upto_region 15 with fail
  go_cut [114] from 114 to 123 (fun s wx => s = .bool false ∧ wx = wc)
  case first =>
   rcases HD15.out with ⟨q0, q1⟩
   ·
    have ntxt := fun u => Rl.inText N.pl true q0 u
    have itxt := fun u => Rl.inText x.st.pl true q1 u
    clear q0 q1
    go_wp2_with (first | (go_at_call_of 42 N.pl; refine (ntxt _).mono ?_; rintro e w' ⟨rfl, hw⟩; have hw := hw.symm; subst hw) | (go_at_call_of 42 x.st.pl; refine (itxt _).mono ?_; rintro e w' ⟨rfl, hw⟩; have hw := hw.symm; subst hw))
    go_meet
    exact ⟨rfl, rfl⟩
  case rest =>
  clear HD15
  obtain ⟨rfl, rfl⟩ := hcut
  go_upto_region 16 with fail
  go_cut [124] from 124 to 130 (fun s wx => s = .bool false ∧ wx = wc)
  case first =>
   rcases HD16.out with ⟨q0, q1⟩
   ·
    go_wp2_with fail
    go_meet
    exact ⟨rfl, rfl⟩
  case rest =>
  clear HD16
  obtain ⟨rfl, rfl⟩ := hcut
  go_upto_region 20 with fail
  go_cut [147] from 147 to 153 (fun s wx => s = .bool false ∧ wx = wc)
  case first =>
   rcases HD20.out with ⟨q0, q1⟩
   ·
    go_wp2_with fail
    go_meet
    exact ⟨rfl, rfl⟩
  case rest =>
  clear HD20
  obtain ⟨rfl, rfl⟩ := hcut
  clear x7
  go_wp2_with fail
  go_end0
  exact ⟨rfl, _, _, _, by rw [← HZ.out]; exact HA.out, HK.out⟩
def Tk.Nice (t : Tk) : Prop := t.name.size ≤ 32 ∧ t.attrs.length ≤ 32 ∧ ∀ a ∈ t.attrs, a.1.size ≤ 32
theorem Tk.nice_text (k : Int) (x : ByteArray) (b : Bool) : Tk.Nice ⟨k, Ts.e, x, [], b⟩ := ⟨Nat.zero_le _, Nat.zero_le _, fun a h => by simp at h⟩
structure Rf.Nice (x : Rf) : Prop where
 out : ∀ t ∈ x.out, t.Nice
 attrs : ∀ a ∈ x.attrs, a.1.size ≤ 32
 pn : x.pn.size ≤ 32
 len : x.attrs.length ≤ 32
theorem Rf.Nice.start : Rf.Nice Rf.start := ⟨fun t h => by simp [Rf.start] at h, fun a h => by simp [Rf.start] at h, Nat.zero_le _, Nat.zero_le _⟩
theorem Rf.Nice.commit {x : Rf} (h : Rf.Nice x) : Rf.Nice x.commit := by
 unfold Rf.commit
 split
 ·
  split
  ·
   exact ⟨h.out, h.attrs, h.pn, h.len⟩
  ·
   split
   ·
    refine ⟨h.out, fun a ha => ?_, h.pn, by simp only [List.length_append, List.length_singleton]; omega⟩
    rcases List.mem_append.1 ha with q | q
    ·
     exact h.attrs a q
    ·
     rw [List.mem_singleton.1 q]; exact h.pn
   ·
    exact ⟨h.out, h.attrs, h.pn, h.len⟩
 ·
  exact h
theorem Rf.Nice.flush {x : Rf} (h : Rf.Nice x) : Rf.Nice x.flush := by
 unfold Rf.flush
 split
 ·
  exact h
 ·
  refine ⟨fun t ht => ?_, h.attrs, h.pn, h.len⟩
  rcases List.mem_append.1 ht with q | q
  ·
   exact h.out t q
  ·
   rw [List.mem_singleton.1 q]; exact Tk.nice_text _ _ _
theorem Ts.Fit.names {s : Ts} (h : Ts.Fit s) : s.name.size ≤ 32 ∧ s.attr.size ≤ 32 ∧ s.held.size ≤ 32 := by
 have := h.small
 unfold Ts.Small at this
 omega
theorem Rf.Nice.put {x : Rf} (h : Rf.Nice x) (N : Ts) : Rf.Nice ({ x with st := N } : Rf) := ⟨h.out, h.attrs, h.pn, h.len⟩
theorem Rf.Nice.go {P : ByteArray} {x : Rf} {i : Nat} (h : Rf.Nice x) (hw : Ts.Fit x.st) (N : Ts) (hN : Ts.Fit N) : Rf.Nice (Rf.go P x N i) := by
 have hp := h.put N
 obtain ⟨w1, w2, w3⟩ := hw.names
 obtain ⟨m1, m2, m3⟩ := hN.names
 unfold Rf.go
 dsimp only
 split
 ·
  have hc := hp.commit.flush
  refine ⟨fun t ht => ?_, fun a ha => by simp [Rf.emit] at ha, ?_, Nat.zero_le _⟩
  ·
   rcases List.mem_append.1 (show t ∈ (({ x with st := N } : Rf).commit.flush).out ++ [Rf.tag x.st (({ x with st := N } : Rf).commit.flush).attrs] from ht) with q | q
   ·
    exact hc.out t q
   ·
    rw [List.mem_singleton.1 q]
    unfold Rf.tag
    split
    ·
     refine ⟨?_, Nat.zero_le _, fun a ha => by simp at ha⟩
     show (if x.st.held ≠ Ts.e then x.st.held else x.st.name).size ≤ 32
     split <;> assumption
    ·
     exact ⟨w1, hc.len, hc.attrs⟩
  ·
   exact hc.pn
 split
 ·
  unfold Rf.value
  split
  ·
   exact ⟨hp.commit.out, hp.commit.attrs, m2, hp.commit.len⟩
  split
  ·
   exact ⟨hp.out, hp.attrs, m2, hp.len⟩
  split
  ·
   exact ⟨hp.out, hp.attrs, hp.pn, hp.len⟩
  ·
   exact hp
 split
 ·
  have hc := hp.flush
  refine ⟨fun t ht => ?_, hc.attrs, hc.pn, hc.len⟩
  rcases List.mem_append.1 ht with q | q
  ·
   exact hc.out t q
  ·
   rw [List.mem_singleton.1 q]; exact Tk.nice_text _ _ _
 split
 ·
  exact hp
 split
 ·
  split
  ·
   exact ⟨hp.out, hp.attrs, hp.pn, hp.len⟩
  ·
   exact ⟨hp.out, hp.attrs, hp.pn, hp.len⟩
 split
 ·
  exact ⟨hp.out, hp.attrs, hp.pn, hp.len⟩
 ·
  exact hp
theorem Rf.Nice.run {P : ByteArray} : ∀ (l : List UInt8) {x : Rf} {i : Nat}, Rf.Nice x → Ts.Fit x.st → Rf.Nice (Rf.run P x i l)
 | [], _, _, h, _ => h
 | c :: l, x, i, h, hf => Rf.Nice.run (P := P) l (x := Rf.byte P x i c) (i := i + 1) (h.go hf _ (hf.step c)) (by rw [Rf.byte_st]; exact hf.step c)
theorem Rf.Nice.tokens (s : ByteArray) : ∀ t ∈ Rd.tokens s, t.Nice := by
 rw [← Rf.tokens_eq]
 have h := Rf.Nice.run (P := Rd.page s) (Rd.lines s.data.toList) (i := 0) Rf.Nice.start Ts.Fit.start
 unfold Rf.tokens Rf.done
 generalize Rf.run (Rd.page s) Rf.start 0 (Rd.lines s.data.toList) = x at *
 split
 ·
  exact (Rf.Nice.flush (x := x.adds (Rd.page s) x.hold.toNat (Rd.page s).size) ⟨h.out, h.attrs, h.pn, h.len⟩).out
 ·
  exact h.flush.out
theorem Sc.byte (P : ByteArray) (x : Rf) (i : Nat) (w : World) (g : Nat) (bv ov av : Value) (h : Sc.At w g P x bv ov av) (hf : Ts.Fit x.st) (hs : Rf.Sm x i) (hi : i < P.size) (hp : P.size ≤ 65536) (c : UInt8) (hc : P[i] = c) (hcm : 13 ≤ x.st.pl → x.st.pl ≤ 18 → (x.st.step c).pl = 0 → 0 ≤ x.hold ∧ x.hold + 2 ≤ i ∧ (x.st.pl = 17 → x.hold + 6 ≤ i)) :
  Calls Tryz.prog 41 #[.pointer (some ⟨g, 0, none⟩), .int .i64 (i : Int)] w fun e w' => e = .returned (.tuple #[]) ∧ ∃ bv' ov' av', Sc.At w' g P (x.byte P i c) bv' ov' av' ∧ Sc.Kept w w' g bv ov av bv' ov' av' := by
 have h1 : x.pv.size ≤ 65536 := by have := hs.pv; omega
 have h2 := hs.attrs
 have h3 : x.buf.length ≤ 65536 := by have := hs.buf; omega
 have h4 : x.out.length ≤ 1000000 := by have := hs.out; omega
 have h5 : 0 ≤ x.hold → x.hold ≤ i := fun q => (hs.hold q).1
 unfold Rf.byte
 obtain ⟨N, hN⟩ : ∃ N, x.st.step c = N := ⟨_, rfl⟩
 rw [hN] at hcm ⊢
 unfold Rf.go
 dsimp only
 by_cases hE : (x.st.pl = 22 ∧ N.pl = 0) ∨ (Rf.inTag x.st.pl ∧ ¬ Rf.inTag N.pl)
 ·
  rw [if_pos hE]
  exact Sc.byteEmit P x i w g bv ov av h hf hi hp c hc N hN hE h1 h2 h3 h4 _ (Lib.hid rfl)
 rw [if_neg hE]
 by_cases hV : Rf.inTag N.pl
 ·
  rw [if_pos hV]
  exact Sc.byteValue P x i w g bv ov av h hf hi hp c hc N hN hE hV h1 h2 _ (Lib.hid rfl)
 rw [if_neg hV]
 by_cases hC : 13 ≤ x.st.pl ∧ x.st.pl ≤ 18 ∧ N.pl = 0
 ·
  rw [if_pos hC]
  obtain ⟨a0, a2, a6⟩ := hcm hC.1 hC.2.1 hC.2.2
  by_cases h17 : x.st.pl = 17
  ·
   rw [if_pos h17]
   exact Sc.byteCom17 P x i w g bv ov av h hf hi hp c hc N hN hE hV hC h17 (a6 h17) a0 h3 h4 _ (Lib.hid rfl)
  ·
   rw [if_neg h17]
   exact Sc.byteCom P x i w g bv ov av h hf hi hp c hc N hN hE hV hC h17 a2 a0 h3 h4 _ (Lib.hid rfl)
 rw [if_neg hC]
 by_cases hT : ¬ Rf.inText N.pl ∨ ¬ Rf.inText x.st.pl
 ·
  rw [if_pos hT]
  exact Sc.byteSkip P x i w g bv ov av h hf hi hp c hc N hN hE hV hC hT _ (Lib.hid rfl)
 have hT' : Rf.inText N.pl ∧ Rf.inText x.st.pl := ⟨Decidable.byContradiction fun q => hT (.inl q), Decidable.byContradiction fun q => hT (.inr q)⟩
 rw [if_neg hT]
 by_cases hO : N.pl = 1 ∨ N.pl = 20
 ·
  rw [if_pos hO]
  exact Sc.byteOpen P x i w g bv ov av h hf hi hp c hc N hN hE hV hC hT' hO h3 h5 _ (Lib.hid rfl)
 rw [if_neg hO]
 by_cases hD : N.pl = 0 ∨ N.pl = 19
 ·
  rw [if_pos hD]
  exact Sc.byteText P x i w g bv ov av h hf hi hp c hc N hN hE hV hC hT' hO hD h3 h5 _ (Lib.hid rfl)
 rw [if_neg hD]
 exact Sc.byteNone P x i w g bv ov av h hf hi hp c hc N hN hE hV hC hT' hO hD _ (Lib.hid rfl)
theorem Rm.ba_beq (a b : ByteArray) : (a.toList == b.toList) = decide (a = b) := by
 rw [ByteArray.toList_eq, ByteArray.toList_eq, Bool.eq_iff_iff, beq_iff_eq, decide_eq_true_iff]
 constructor
 ·
  intro h
  cases a; cases b
  simp only at h
  congr 1
  exact Array.toList_inj.1 h
 ·
  rintro rfl; rfl
theorem Rm.isName (n v nm : ByteArray) (q : Nat) (w : World) (hq : w.cell? ⟨q, 0, none⟩ = some (.string nm)) :
  Calls Tryz.prog 134 #[.agg #[.string n, .string v], .pointer (some ⟨q, 0, none⟩)] w fun e w' => e = .returned (.bool (decide (n = nm))) ∧ Below w.heap.size w w' := by
 have hlt := World.block_lt_of_cell? _ _ hq
 simp only at hlt
 have n1 : w.heap.size ≠ q := by omega
 have n2 : q ≠ w.heap.size := by omega
 have hb := Rm.ba_beq n nm
 generalize decide (n = nm) = b at *
 go_enter Tryz.func134, Tryz.ntmps134
 go_wp2
 go_ret
 exact ⟨rfl, (Below.refl _ _).alloc (Nat.le_refl _) _⟩
set_option maxHeartbeats 1000000 in
theorem Rm.indexFunc (al : List (ByteArray × ByteArray)) (a : Option Addr) (d : Nat) (nm : ByteArray) (q : Nat) (w : World) (hl : Ak.Lies w (· < w.heap.size) al (.slice a al.length d)) (hq : w.cell? ⟨q, 0, none⟩ = some (.string nm)) :
  Calls Tryz.prog 139 #[.slice a al.length d, .func (.func 134) #[] #[.pointer (some ⟨q, 0, none⟩)]] w fun e w' => ∃ i : Int, e = .returned (.int .i64 i) ∧ decide (0 ≤ i) = al.any (fun x => decide (x.1 = nm)) ∧ Below w.heap.size w w' := by
 obtain ⟨a', d', e, hd1, hd2, hx⟩ := hl
 injection e with e1 e2 e3
 subst e1
 subst e3
 have hqlt := World.block_lt_of_cell? _ _ hq
 simp only at hqlt
 have hbig : al.length ≤ 9223372036854775807 := by unfold maxLen at hd2; omega
 have HX := Lib.hid hx
 clear hx
 go_enter Tryz.func139, Tryz.ntmps139
 go_wp2
 go_loopw [8] (fun i wr => ∃ k : Nat, k ≤ al.length ∧ i = .int .i64 (k : Int) ∧ Below w.heap.size w wr ∧ Hid ((al.take k).any (fun x => decide (x.1 = nm)) = false)) (fun i _ => al.length - (intOf i).toNat)
 case atStart => exact ⟨0, Nat.zero_le _, rfl, Below.refl _ _, by simp [Hid]⟩
 case round =>
  obtain ⟨k, hk, rfl, hb, HN⟩ := hrel
  by_cases hlt : k < al.length
  ·
   obtain ⟨b, o, rfl, hbl, c1, c2⟩ := HX.out k al[k] (List.getElem?_eq_getElem hlt)
   have k1 := Tp.keep hb c1
   have k2 := Tp.keep hb c2
   have hqr := Tp.keep hb hq
   have hcall := fun u (hu : Below wr.heap.size wr u) => Rm.isName al[k].1 al[k].2 nm q u (Tp.keep hu hqr)
   have HT : Hid (al.take (k + 1) = al.take k ++ [al[k]]) := List.take_succ_eq_append_getElem hlt
   have HA : Hid (decide (al[k].1 = nm) = true → al.any (fun x => decide (x.1 = nm)) = true) := fun hh => List.any_eq_true.2 ⟨al[k], List.getElem_mem hlt, hh⟩
   generalize al[k] = y at *
   cases hy : decide (y.1 = nm) with
   | true =>
    rw [hy] at hcall
    go_wp2_with (go_at_call 134; refine (hcall _ (Below.refl _ _)).mono ?_; rintro e w' ⟨rfl, hb'⟩)
    go_ret
    exact ⟨_, rfl, by rw [HA.out hy]; simp, hb.trans (hb'.mono hb.size)⟩
   | false =>
    rw [hy] at hcall
    go_wp2_with (go_at_call 134; refine (hcall _ (Below.refl _ _)).mono ?_; rintro e w' ⟨rfl, hb'⟩)
    go_roundw
    case rel => exact ⟨k + 1, by omega, by go_num, hb.trans (hb'.mono hb.size), by unfold Hid; rw [HT.out, List.any_append, HN.out]; simp only [List.any_cons, List.any_nil, hy, Bool.or_false]⟩
    case measure => simp [intOf]; omega
  ·
   have hke : k = al.length := by omega
   have HE := Lib.hid hke
   clear hke
   go_wp2
   go_ret
   refine ⟨_, rfl, ?_, hb⟩
   have := HN.out
   rw [HE.out, List.take_length] at this
   rw [this]
   rfl
theorem Rm.containsFunc (al : List (ByteArray × ByteArray)) (a : Option Addr) (d : Nat) (nm : ByteArray) (q : Nat) (w : World) (hl : Ak.Lies w (· < w.heap.size) al (.slice a al.length d)) (hq : w.cell? ⟨q, 0, none⟩ = some (.string nm)) :
  Calls Tryz.prog 116 #[.slice a al.length d, .func (.func 134) #[] #[.pointer (some ⟨q, 0, none⟩)]] w fun e w' => e = .returned (.bool (al.any (fun x => decide (x.1 = nm)))) ∧ Below w.heap.size w w' := by
 have h := fun u => Rm.indexFunc al a d nm q u
 generalize al.any (fun x => decide (x.1 = nm)) = r at *
 go_enter Tryz.func116, Tryz.ntmps116
 go_wp2_with (go_at_call 139; refine (h _ hl hq).mono ?_; rintro e w' ⟨i, rfl, hi, hb⟩)
 go_ret
 exact ⟨rfl, hb⟩
theorem Rm.kept_pushA {W W1 w4 : World} {tv av v' : Value} {g : Nat} (hb : Below W.heap.size W W1) (hg : W1.grownBy w4 av.ownBlock) (hf : v'.ownBlock = av.ownBlock ∨ v'.ownBlock = some W1.heap.size) : Rm.Kept W w4 g tv av tv v' :=
 ⟨hg.os.trans hb.os, hg.tape.trans hb.tape, hg.output.trans hb.output, Nat.le_trans hb.size hg.size, fun k hk hfr =>
  ⟨(hg.block k (Nat.lt_of_lt_of_le hk hb.size) (fun e => hfr.2.2 e.symm)).trans (hb.block k hk), hfr.1, hfr.2.1, fun e => by
   rcases hf with e' | e'
   ·
    rw [e'] at e; exact hfr.2.2 e
   ·
    rw [e'] at e; have := Option.some.inj e; have := hb.size; omega⟩⟩
theorem Rm.two_cells (W : World) (n : ByteArray) (g1 : Nat) (h : g1 = W.heap.size) : ∀ j u, (Ak.cells [(n, Ts.e)])[j]? = some u → (W.alloc (.cells #[.string n, .string ⟨#[]⟩] 50)).cell? ⟨g1, j, none⟩ = some u := by
 subst h
 intro j u hj
 unfold World.cell?
 rw [show (W.alloc (.cells #[.string n, .string ⟨#[]⟩] 50)).heap[W.heap.size]? = some _ from heap_alloc_new W _]
 simpa [Ak.cells, Ts.e] using hj
set_option maxHeartbeats 4000000 in
theorem Rm.addAttr (r : Rd) (nm : ByteArray) (w : World) (g : Nat) (P : ByteArray) (tv av : Value) (h : Rm.At w g P r tv av) (hn : r.attrs.length ≤ 32) :
  Calls Tryz.prog 109 #[.pointer (some ⟨g, 0, none⟩), .string nm] w fun e w' => e = .returned (.tuple #[]) ∧ ∃ tv' av', Rm.At w' g P (r.addAttr nm) tv' av' ∧ Rm.Kept w w' g tv av tv' av' := by
 obtain ⟨aa, ad, rfl⟩ := Rm.form h.attrs
 have HH := Lib.hid h
 have c34 := h.box.attrs
 have c35 := h.box.taken
 have cf := h.box.fz
 have hlt := h.lt
 have n1 : w.heap.size ≠ g := by omega
 have n2 : g ≠ w.heap.size := by omega
 have hbA : Below w.heap.size w (w.alloc (.cells #[.string nm] 9)) := (Below.refl _ _).alloc (Nat.le_refl _) _
 have HA := Lib.hid hbA
 have hlies : Ak.Lies w (· < w.heap.size) r.attrs (.slice aa r.attrs.length ad) := (Ak.Lies.own h.attrs).on fun k hk => ⟨(h.avLt hk).2, rfl⟩
 have HL := Lib.hid hlies
 by_cases h32 : r.attrs.length < 32
 ·
  have t32 : decide ((r.attrs.length : Int) < 32) = true := decide_eq_true (by omega)
  have hc := fun (u : World) (hu : Below (w.alloc (.cells #[.string nm] 9)).heap.size (w.alloc (.cells #[.string nm] 9)) u) => Rm.containsFunc r.attrs aa ad nm w.heap.size u (HL.out.on fun k hk => ⟨by have := hu.size; simp at this; omega, (hu.block k (by simp; omega)).trans (HA.out.block k hk)⟩) (Tp.keep hu (by simp))
  cases hany : r.attrs.any (fun x => decide (x.1 = nm)) with
  | true =>
   rw [hany] at hc
   have HR : Hid (r.addAttr nm = { r with taken := false }) := by unfold Rd.addAttr Hid; rw [if_neg (by rw [hany]; simp)]
   clear h hlies
   go_enter Tryz.func109, Tryz.ntmps109
   go_wp2_with (go_at_call 116; refine (hc _ (Below.refl _ _)).mono ?_; rintro e w1 ⟨rfl, hb1⟩; have q1 : Below w.heap.size w w1 := hbA.trans (hb1.mono (by simp)); have hq := HH.out.on q1; have d34 := hq.box.attrs; have d35 := hq.box.taken; have df := hq.box.fz; have dq := Tp.keep hb1 (b := w.heap.size) (o := 0) (v := .string nm) (by simp); have hs1 : w.heap.size < w1.heap.size := (by have hs := hb1.size; simp at hs; omega); have HQ := Lib.hid hq; clear hb1 hc hq)
   go_end0
   refine ⟨rfl, tv, .slice aa r.attrs.length ad, ?_, (Rm.Kept.of g _ _ q1).trans (Rm.Kept.set _ _ _ _ _ _)⟩
   rw [HR.out]
   have hq := HQ.out
   have hne : ∀ k, g + 1 ≤ k → (w1.setCell ⟨g, 35, none⟩ (.bool false)).heap[k]? = w1.heap[k]? := fun k hk => Rm.set_ne _ _ _ _ hk
   exact ⟨hq.box.setTaken false, hq.toks.on (by simp) (fun k hk => hne k (hq.tvLt hk).1) (fun k hk _ _ hn => ⟨hn, hne k hk⟩), Rm.own_on hq.attrs (fun k hk => hne k (hq.avLt hk).1), hq.apart⟩
  | false =>
   rw [hany] at hc
   have HR : Hid (r.addAttr nm = { r with attrs := r.attrs ++ [(nm, Ts.e)], taken := true }) := by unfold Rd.addAttr Hid; rw [if_pos ⟨h32, hany⟩]
   clear h hlies
   go_enter Tryz.func109, Tryz.ntmps109
   go_wp2_with (go_at_call 116; refine (hc _ (Below.refl _ _)).mono ?_; rintro e w1 ⟨rfl, hb1⟩; have q1 : Below w.heap.size w w1 := hbA.trans (hb1.mono (by simp)); have hq := HH.out.on q1; have d34 := hq.box.attrs; have d35 := hq.box.taken; have df := hq.box.fz; have dq := Tp.keep hb1 (b := w.heap.size) (o := 0) (v := .string nm) (by simp); have hs1 : w.heap.size < w1.heap.size := (by have hs := hb1.size; simp at hs; omega); have HQ := Lib.hid hq; clear hb1 hc hq)
   obtain ⟨W, hW⟩ : ∃ W, w1.setCell ⟨g, 35, none⟩ (.bool true) = W := ⟨_, rfl⟩
   have hAt : Rm.At W g P { r with taken := true } tv (.slice aa r.attrs.length ad) := by
    rw [← hW]
    have hq := HQ.out
    have hne : ∀ k, g + 1 ≤ k → (w1.setCell ⟨g, 35, none⟩ (.bool true)).heap[k]? = w1.heap[k]? := fun k hk => Rm.set_ne _ _ _ _ hk
    exact ⟨hq.box.setTaken true, hq.toks.on (by simp) (fun k hk => hne k (hq.tvLt hk).1) (fun k hk _ _ hn => ⟨hn, hne k hk⟩), Rm.own_on hq.attrs (fun k hk => hne k (hq.avLt hk).1), hq.apart⟩
   have hKW : Rm.Kept w W g tv (.slice aa r.attrs.length ad) tv (.slice aa r.attrs.length ad) := by rw [← hW]; exact (Rm.Kept.of g _ _ q1).trans (Rm.Kept.set _ _ _ _ _ _)
   have hqW : W.cell? ⟨w.heap.size, 0, none⟩ = some (.string nm) := by rw [← hW, Rm.out _ _ _ _ n1]; exact dq
   have hsW : W.heap.size = w1.heap.size := by rw [← hW]; simp
   rw [hW]
   have e34 := hAt.box.attrs
   have ef := hAt.box.fz
   have e34' : ∀ o, (W.alloc o).cell? ⟨g, 34, none⟩ = some (.slice aa r.attrs.length ad) := fun o => (World.cell?_alloc_lt _ _ _ hAt.lt).trans e34
   have HAt := Lib.hid hAt
   have HK := Lib.hid hKW
   have HO := Lib.hid hAt.attrs
   have n5 : w1.heap.size ≠ g := by omega
   have n6 : w1.heap.size ≠ w.heap.size := by omega
   have n7 : g ≠ w1.heap.size := by omega
   have n8 : w.heap.size ≠ w1.heap.size := by omega
   have HN : Hid (r.attrs.length + 1 ≤ maxLen ∧ (r.attrs.length + 1) * 32 ≤ 140737488355328) := ⟨by unfold maxLen; omega, by omega⟩
   clear hW d34 d35 df dq hAt hKW HQ q1 hbA c34 c35 cf HL hn h32 hany
   go_region_law (first | (refine Ro.step_push rfl (.tmp 32) (.tmp 35) 46 50 2 32 _ rfl Tryz.underlying46 Rm.infoA rfl (by decide) (.slice aa r.attrs.length ad) (by simp [Act.eval]) (HO.out.alloc _) w1.heap.size (Ak.cells [(nm, Ts.e)]) (by simp [Act.eval]) (Rm.two_cells _ nm _ (by first | omega | (simp; omega))) rfl (Ak.cells_one _) HN.out.1 HN.out.2 (by first | omega | (simp; omega)) ?_; intro v' w4 R4 hg4 hf4; obtain ⟨a4, d4, rfl⟩ := Rm.form R4; have HR4 := Lib.hid R4; have HG4 := Lib.hid hg4; have HF4 := Lib.hid hf4; have B4 := HAt.out.box.on (w' := w4) (by have hq := hg4.size; first | omega | (simp at hq; omega)) (fun k hk => (hg4.block k (by first | omega | (simp; omega)) (fun e => by have := (HO.out.lt k e.symm).1; omega)).trans (Below.heap_alloc _ _ _ (by first | omega | (simp; omega)))); have d34 := B4.attrs; have df := B4.fz; have HB4 := Lib.hid B4; clear R4 hg4 hf4 B4))
   all_goals go_wp2
   all_goals go_end0
   all_goals
    have hq : Below W.heap.size W (W.drew.alloc (.cells #[.string nm, .string ⟨#[]⟩] 50)) := (Below.refl _ _).drew.alloc (Nat.le_refl _) _
    have hk4 : Rm.Kept W w4 g tv (.slice aa r.attrs.length ad) tv (.slice a4 (r.attrs.length + 1) d4) := Rm.kept_pushA hq HG4.out HF4.out
    refine ⟨rfl, tv, .slice a4 (r.attrs.length + 1) d4, ?_, HK.out.trans (hk4.trans (Rm.Kept.set _ _ _ _ _ _))⟩
    rw [HR.out]
    have hne : ∀ k, g + 1 ≤ k → (w4.setCell ⟨g, 34, none⟩ (.slice a4 (r.attrs.length + 1) d4)).heap[k]? = w4.heap[k]? := fun k hk => Rm.set_ne _ _ _ _ hk
    have hold : ∀ k, k < W.heap.size → (Value.slice aa r.attrs.length ad).ownBlock ≠ some k → w4.heap[k]? = W.heap[k]? ∧ (Value.slice a4 (r.attrs.length + 1) d4).ownBlock ≠ some k := fun k hk hn => ⟨(HG4.out.block k (Nat.lt_of_lt_of_le hk hq.size) (fun e => hn e.symm)).trans (hq.block k hk), fun e => by
     rcases HF4.out with e' | e'
     ·
      rw [e'] at e; exact hn e
     ·
      rw [e'] at e; have hh := Option.some.inj e; simp only [World.size_alloc, World.size_drew] at hh; omega⟩
    refine ⟨HB4.out.setAttrs _, HAt.out.toks.on (by have h1 := HG4.out.size; simp only [World.size_alloc, World.size_drew, World.size_setCell] at h1 ⊢; omega) (fun k hk => (hne k (HAt.out.tvLt hk).1).trans (hold k (HAt.out.tvLt hk).2 (HAt.out.apart k hk)).1) (fun k hk hk2 _ hn => ⟨(hold k hk2 hn).2, (hne k hk).trans (hold k hk2 hn).1⟩), ?_, fun k hk => (hold k (HAt.out.tvLt hk).2 (HAt.out.apart k hk)).2⟩
    have := Rm.own_on HR4.out (w' := w4.setCell ⟨g, 34, none⟩ (.slice a4 (r.attrs.length + 1) d4)) (fun k hk => hne k (HR4.out.lt k hk).1)
    rw [← Ak.cells_append] at this
    simpa using this
 ·
  have t32 : decide ((r.attrs.length : Int) < 32) = false := decide_eq_false (by omega)
  have HR : Hid (r.addAttr nm = { r with taken := false }) := by unfold Rd.addAttr Hid; rw [if_neg (fun e => h32 e.1)]
  clear h hlies h32
  go_enter Tryz.func109, Tryz.ntmps109
  go_wp2
  go_end0
  refine ⟨rfl, tv, .slice aa r.attrs.length ad, ?_, (Rm.Kept.set w g 35 _ _ _).trans (Rm.Kept.of g _ _ ((Below.refl _ _).alloc (Nat.le_refl _) _))⟩
  rw [HR.out]
  have hq := HH.out
  have hne : ∀ k, g + 1 ≤ k → (w.setCell ⟨g, 35, none⟩ (.bool false)).heap[k]? = w.heap[k]? := fun k hk => Rm.set_ne _ _ _ _ hk
  have hs : Rm.At (w.setCell ⟨g, 35, none⟩ (.bool false)) g P { r with taken := false } tv (.slice aa r.attrs.length ad) := ⟨hq.box.setTaken false, hq.toks.on (by simp) (fun k hk => hne k (hq.tvLt hk).1) (fun k hk _ _ hn => ⟨hn, hne k hk⟩), Rm.own_on hq.attrs (fun k hk => hne k (hq.avLt hk).1), hq.apart⟩
  exact hs.on ((Below.refl _ _).alloc (Nat.le_refl _) _)
theorem Ak.snoc {al : List (ByteArray × ByteArray)} {m : Nat} (h : al.length = m + 1) : ∃ init x, al = init ++ [x] ∧ init.length = m := by
 refine ⟨al.dropLast, al.getLast (by intro e; rw [e] at h; simp at h), (List.dropLast_concat_getLast _).symm, ?_⟩
 rw [List.length_dropLast]; omega
theorem Ak.setLast_snoc (init : List (ByteArray × ByteArray)) (x : ByteArray × ByteArray) (D : ByteArray) : Rd.setLast (init ++ [x]) D = init ++ [(x.1, D)] := by
 unfold Rd.setLast
 rw [List.length_append]
 simp only [List.length_cons, List.length_nil, Nat.zero_add, Nat.add_sub_cancel]
 induction init with
 | nil => rfl
 | cons a l ih => simpa using ih
theorem Ak.cells_set {al : List (ByteArray × ByteArray)} {m : Nat} (h : al.length = m + 1) (D : ByteArray) : (Ak.cells al).set (m * 2 + 1) (.string D) = Ak.cells (Rd.setLast al D) ∧ (Rd.setLast al D).length = m + 1 := by
 obtain ⟨init, x, rfl, hl⟩ := Ak.snoc h
 rw [Ak.setLast_snoc, Ak.cells_append, Ak.cells_append]
 have h2 := Ak.cells_length init
 rw [hl] at h2
 refine ⟨?_, by simp [hl]⟩
 rw [List.set_append_right _ _ (by omega), h2, Nat.add_sub_cancel_left]
 rfl
set_option maxHeartbeats 4000000 in
theorem Rm.readVal (r : Rd) (was now : Ts) (i : Nat) (w : World) (g : Nat) (P : ByteArray) (tv av : Value) (h : Rm.At w g P r tv av) (hP : P.size ≤ 65536) (hi : i ≤ P.size) (hv : r.value ≤ i) (ht : r.taken = true) (m : Nat) (hm : r.attrs.length = m + 1) (hm32 : m ≤ 32) (ne : was.pl ≠ now.pl) (h8 : was.pl = 8 ∨ was.pl = 9 ∨ was.pl = 10) :
  Calls Tryz.prog 77 #[.pointer (some ⟨g, 0, none⟩), .agg #[.int .i64 was.pl, .string was.name, .bool was.fin, .string was.attr, .string was.held, .int .i64 was.read], .agg #[.int .i64 now.pl, .string now.name, .bool now.fin, .string now.attr, .string now.held, .int .i64 now.read], .int .i64 (i : Int)] w fun e w' => e = .returned (.tuple #[]) ∧ ∃ tv' av', Rm.At w' g P { r with attrs := Rd.setLast r.attrs (Rd.dec (P.extract r.value i)) } tv' av' ∧ Rm.Kept w w' g tv av tv' av' := by
 obtain ⟨b, ad, rfl⟩ : ∃ b ad, av = .slice (some ⟨b, 0, none⟩) (m + 1) ad := by
  rcases h.attrs.2 with ⟨_, e⟩ | ⟨b, cap, cur, e, _⟩
  ·
   omega
  ·
   exact ⟨b, cap, by rw [e, hm]⟩
 have HH := Lib.hid h
 have hb0 : g < b := (h.avLt rfl).1
 have hb1 : b < w.heap.size := (h.avLt rfl).2
 obtain ⟨W, hW⟩ : ∃ W, (w.alloc (.cells #[.int .i64 was.pl, .string was.name, .bool was.fin, .string was.attr, .string was.held, .int .i64 was.read] 76)).alloc (.cells #[.int .i64 now.pl, .string now.name, .bool now.fin, .string now.attr, .string now.held, .int .i64 now.read] 76) = W := ⟨_, rfl⟩
 have hbW : Below w.heap.size w W := by rw [← hW]; exact Tp.two _ _ _
 have hA := h.on hbW
 have HA := Lib.hid hA
 have HB := Lib.hid hbW
 have x0 := hA.box.page
 have x33 := hA.box.value
 have x34 := hA.box.attrs
 have x35 := hA.box.taken
 have hW0 : W.cell? ⟨w.heap.size, 0, none⟩ = some (.int .i64 was.pl) := by rw [← hW]; simp
 have hW1 : W.cell? ⟨w.heap.size + 1, 0, none⟩ = some (.int .i64 now.pl) := by rw [← hW]; simp
 rw [ht] at x35
 have hcut := Rm.text_cut P r.value i hv hi
 have hsz := Rm.cut_size P r.value i
 have hD : ∀ u : World, Calls Tryz.prog 81 #[.string (P.extract r.value i)] u fun e w' => e = .returned (.string (Rd.dec (P.extract r.value i))) ∧ Below u.heap.size u w' := fun u => Rr.decode (P.extract r.value i) u (by omega)
 generalize Rd.dec (P.extract r.value i) = D at *
 generalize P.extract r.value i = E at *
 have t0 : (was.pl == now.pl) = false := beq_eq_false_iff_ne.2 ne
 have t5 : (was.pl == 5) = false := beq_eq_false_iff_ne.2 (by omega)
 have t7 : (was.pl == 7) = false := beq_eq_false_iff_ne.2 (by omega)
 have hgb : g ≠ b := by omega
 have hw1 : IntKind.i64.wrap ((m : Int) + 1 - 1) = (m : Int) := by rw [IntKind.wrap_i64]; omega
 have hw2 : IntKind.i64.wrap (m : Int) = (m : Int) := by rw [IntKind.wrap_i64]; omega
 have hl1 : (m : Int) < (m : Int) + 1 := by omega
 have hl2 : (0 : Int) ≤ (m : Int) := by omega
 have hbg : b ≠ g := by omega
 obtain ⟨vold, hvold⟩ : ∃ vold, W.cell? ⟨b, m * 2 + 1, none⟩ = some vold := by
  have hl := Ak.cells_length r.attrs
  rw [hm] at hl
  obtain ⟨y, hy⟩ : ∃ y, r.attrs[m]? = some y := ⟨_, List.getElem?_eq_getElem (by omega)⟩
  have := HA.out.attrs.cells (g := b) rfl _ _ (Ak.cells_get r.attrs m y hy).2
  rw [Ro.add, Nat.zero_add] at this
  exact ⟨_, this⟩
 have hvf : ∀ j, W.frozen? ⟨b, j, none⟩ = false := fun j => by
  have := HA.out.attrs
  rw [hm] at this
  exact this.frozenAt j
 clear ne h hbW hA hv hi
 rcases h8 with e8 | e8 | e8
 all_goals
  try (have q8 : (was.pl == 8) = true := beq_iff_eq.2 e8)
  try (have q9 : (was.pl == 9) = true := beq_iff_eq.2 e8)
  try (have q10 : (was.pl == 10) = true := beq_iff_eq.2 e8)
  try (have q8 : (was.pl == 8) = false := beq_eq_false_iff_ne.2 (by omega))
  try (have q9 : (was.pl == 9) = false := beq_eq_false_iff_ne.2 (by omega))
  clear e8
  go_enter Tryz.func77, Tryz.ntmps77
  go_wp2_with (refine Vm.stop 8 ?_)
  try rw [hW]
  refine ⟨?_⟩
  go_wp2_with fail
  go_region_held (fun u => u.cell? ⟨g, 0, none⟩ = some (.string P) ∧ u.cell? ⟨g, 33, none⟩ = some (.int .i64 (r.value : Int)) ∧ u.cell? ⟨g, 34, none⟩ = some (.slice (some ⟨b, 0, none⟩) (m + 1) ad)) (go_keep) (first | (go_at_call 81; refine (hD _).mono ?_; rintro e w1 ⟨rfl, hb1⟩; have y0 := Tp.keep hb1 x0; have y33 := Tp.keep hb1 x33; have y34 := Tp.keep hb1 x34; have yv := Tp.keep hb1 hvold; have yf := Tp.keepF hb1 (b := b) (by first | omega | (simp; omega) | exact World.block_lt_of_cell? _ _ hvold) hvf; have HB1 := Lib.hid hb1; clear hb1))
  all_goals go_wp2
  all_goals go_end0
  all_goals
   have hb1 : Below W.heap.size W w1 := (Below.refl W.heap.size W).drew.trans HB1.out
   have hq := HA.out.on hb1
   have hne : ∀ k, k ≠ b → (w1.setCell ⟨b, m * 2 + 1, none⟩ (.string D)).heap[k]? = w1.heap[k]? := fun k hk => Below.heap_setCell _ _ _ _ hk
   refine ⟨rfl, tv, .slice (some ⟨b, 0, none⟩) (m + 1) ad, ⟨hq.box.on (by simp) (fun k hk => hne k (by omega)), hq.toks.on (by simp) (fun k hk => hne k (fun e => hq.apart k hk (by rw [e]; rfl))) (fun k _ _ _ hn => ⟨hn, hne k (fun e => hn (by rw [e]; rfl))⟩), ?_, hq.apart⟩, (Rm.Kept.of g _ _ (HB.out.trans (hb1.mono HB.out.size))).trans ⟨rfl, rfl, rfl, by simp, fun k _ hf => ⟨hne k (fun e => hf.2.2 (by rw [e]; rfl)), hf⟩⟩⟩
   have ho := hq.attrs
   rw [hm] at ho
   have hst := (ho.stored (m * 2 + 1) (.string D)).1
   obtain ⟨h1, h2⟩ := Ak.cells_set hm D
   rw [h1] at hst
   rw [h2]
   exact hst
end Go.Proofs.YtblpkjlodncpeaaGreatDoor

/-
  PLAIN: along a page the reference's scan stays small: what is gathered, the tokens, the attributes, the place that is held.
-/
import Derived.Test.YtjbkgokiikbaeaaGreatDoorMTSim3toRKit5
import Derived.Test.YtjbkgokiikbaeaaGreatDoorTSd3
import Derived.Test.YtjbkgokiikbaeaaGreatDoorTSd4
import Derived.Test.YtjbkgokiikbaeaaGreatDoorTSd5
import Derived.Test.YtjbkgokiikbaeaaGreatDoorTSdA
import Derived.Test.YtjbkgokiikbaeaaGreatDoorTSd6
import Derived.Test.YtjbkgokiikbaeaaGreatDoorTSd7
import Derived.Test.YtjbkgokiikbaeaaGreatDoorTSd8
import Derived.Test.YtjbkgokiikbaeaaGreatDoorTSd9
namespace Go.Proofs.YtjbkgokiikbaeaaGreatDoor
/-- small, behind i bytes -/
structure Rf.Sm (x : Rf) (i : Nat) : Prop where
  pv : x.pv.size ≤ i
  attrs : x.attrs.length ≤ 32
  buf : x.buf.length ≤ i
  hold : 0 ≤ x.hold → x.hold ≤ i ∧ (x.buf.length : Int) ≤ x.hold
  out : x.out.length ≤ 2 * i
theorem Rf.Sm.start : Rf.Sm Rf.start 0 := ⟨Nat.le_refl _, Nat.zero_le _, Nat.le_refl _, fun h => absurd h (by decide), Nat.le_refl _⟩
theorem Rf.commit_len (x : Rf) (h : x.attrs.length ≤ 32) : x.commit.attrs.length ≤ 32 := by
  unfold Rf.commit
  repeat' split
  all_goals first | exact h | (simp only [List.length_append, List.length_singleton]; omega)
theorem Rf.commit_pv (x : Rf) : x.commit.pv = x.pv := by
  unfold Rf.commit
  repeat' split
  all_goals rfl
theorem Rf.flush_pv (x : Rf) : x.flush.pv = x.pv := by
  unfold Rf.flush
  split <;> rfl
theorem Rf.flush_out_len (x : Rf) : x.flush.out.length ≤ x.out.length + 1 := by
  unfold Rf.flush
  split
  · omega
  · simp
theorem Rf.commit_hold (x : Rf) : x.commit.hold = x.hold := (Rf.commit_rest x).2.2.2.2.2
theorem Rf.value_st (P : ByteArray) (x : Rf) (was : Ts) (i : Nat) : (x.value P was i).st = x.st := by
  unfold Rf.value
  repeat' split
  all_goals first | rfl | exact (Rf.commit_rest x).1
theorem Rf.emit_st (x : Rf) (was : Ts) : (x.emit was).st = x.st := by
  unfold Rf.emit
  exact (Rf.flush_rest _).1.trans (Rf.commit_rest x).1
theorem Rf.go_st (P : ByteArray) (x : Rf) (N : Ts) (i : Nat) : (Rf.go P x N i).st = N := by
  unfold Rf.go
  dsimp only
  split
  · exact Rf.emit_st _ x.st
  split
  · exact Rf.value_st _ _ _ _
  split
  · exact (Rf.flush_rest _).1
  split
  · rfl
  split
  · split <;> rfl
  split <;> rfl
theorem Rf.byte_st (P : ByteArray) (x : Rf) (i : Nat) (c : UInt8) : (x.byte P i c).st = x.st.step c := Rf.go_st P x _ i
theorem Rf.Sm.go {P : ByteArray} {x : Rf} {i : Nat} (h : Rf.Sm x i) (hi : i < P.size) (N : Ts) : Rf.Sm (Rf.go P x N i) (i + 1) := by
  have hpv := h.pv
  have hat := h.attrs
  have hbf := h.buf
  have hho := h.hold
  have hou := h.out
  unfold Rf.go
  dsimp only
  have hm : Rf.Sm ({ x with st := N } : Rf) (i + 1) := ⟨by show x.pv.size ≤ _; omega, hat, by show x.buf.length ≤ _; omega, fun q => by obtain ⟨a, b⟩ := hho q; exact ⟨by show x.hold ≤ _; omega, b⟩, by show x.out.length ≤ _; omega⟩
  split
  · have h1 := Rf.flush_out_len ({ x with st := N } : Rf).commit
    rw [(Rf.commit_rest _).2.1] at h1
    have h1 : (({ x with st := N } : Rf).commit.flush).out.length ≤ x.out.length + 1 := h1
    refine ⟨?_, Nat.zero_le _, ?_, fun q => absurd q (by show ¬ (0 : Int) ≤ -1; decide), ?_⟩
    · show (({ x with st := N } : Rf).commit.flush).pv.size ≤ _
      rw [Rf.flush_pv, Rf.commit_pv]
      show x.pv.size ≤ _
      omega
    · show (({ x with st := N } : Rf).commit.flush).buf.length ≤ _
      rw [Rf.flush_buf]
      exact Nat.zero_le _
    · show ((({ x with st := N } : Rf).commit.flush).out ++ [_]).length ≤ _
      rw [List.length_append]
      simp only [List.length_singleton]
      omega
  split
  · unfold Rf.value
    split
    · have hc := Rf.commit_rest ({ x with st := N } : Rf)
      refine ⟨Nat.zero_le _, Rf.commit_len _ hat, ?_, ?_, ?_⟩
      · show ({ x with st := N } : Rf).commit.buf.length ≤ _
        rw [hc.2.2.1]
        exact hm.buf
      · show 0 ≤ ({ x with st := N } : Rf).commit.hold → ({ x with st := N } : Rf).commit.hold ≤ _ ∧ ((({ x with st := N } : Rf).commit.buf.length : Nat) : Int) ≤ ({ x with st := N } : Rf).commit.hold
        rw [hc.2.2.1, hc.2.2.2.2.2]
        exact hm.hold
      · show ({ x with st := N } : Rf).commit.out.length ≤ _
        rw [hc.2.1]
        exact hm.out
    split
    · exact ⟨hm.pv, hm.attrs, hm.buf, hm.hold, hm.out⟩
    split
    · refine ⟨?_, hm.attrs, hm.buf, hm.hold, hm.out⟩
      show (x.pv ++ P.extract i (i + 1)).size ≤ i + 1
      rw [ByteArray.size_append, ByteArray.size_extract]
      omega
    · exact hm
  split
  · have h1 := Rf.flush_out_len ({ x with st := N } : Rf)
    have h1 : (({ x with st := N } : Rf).flush).out.length ≤ x.out.length + 1 := h1
    refine ⟨?_, ?_, ?_, fun q => absurd q (by show ¬ (0 : Int) ≤ -1; decide), ?_⟩
    · show (({ x with st := N } : Rf).flush).pv.size ≤ _
      rw [Rf.flush_pv]
      exact hm.pv
    · show (({ x with st := N } : Rf).flush).attrs.length ≤ _
      rw [(Rf.flush_rest _).2.1]
      exact hat
    · show (({ x with st := N } : Rf).flush).buf.length ≤ _
      rw [Rf.flush_buf]
      exact Nat.zero_le _
    · show ((({ x with st := N } : Rf).flush).out ++ [_]).length ≤ _
      rw [List.length_append]
      simp only [List.length_singleton]
      omega
  split
  · exact hm
  split
  · split
    · next q =>
      obtain ⟨a, b⟩ := hho q
      have hl := Rf.sl_len P x.hold.toNat i (by omega)
      have hb : (x.buf ++ Rf.sl P x.hold.toNat i).length ≤ i := by rw [List.length_append, hl]; omega
      refine ⟨hm.pv, hat, ?_, fun _ => ?_, hm.out⟩
      · show (x.buf ++ Rf.sl P x.hold.toNat i).length ≤ i + 1
        omega
      · show (i : Int) ≤ ((i + 1 : Nat) : Int) ∧ (((x.buf ++ Rf.sl P x.hold.toNat i).length : Nat) : Int) ≤ (i : Int)
        omega
    · refine ⟨hm.pv, hat, hm.buf, fun _ => ?_, hm.out⟩
      show (i : Int) ≤ ((i + 1 : Nat) : Int) ∧ ((x.buf.length : Nat) : Int) ≤ (i : Int)
      omega
  split
  · refine ⟨hm.pv, hat, ?_, fun q => absurd q (by show ¬ (0 : Int) ≤ -1; decide), hm.out⟩
    show (x.buf ++ Rf.sl P (if 0 ≤ x.hold then x.hold.toNat else i) (i + 1)).length ≤ i + 1
    rw [List.length_append, Rf.sl_len P _ _ (by omega)]
    split
    · next q =>
      obtain ⟨a, b⟩ := hho q
      omega
    · omega
  · exact hm
theorem Rf.run_snoc (P : ByteArray) : ∀ (l : List UInt8) (x : Rf) (i : Nat) (c : UInt8), Rf.run P x i (l ++ [c]) = Rf.byte P (Rf.run P x i l) (i + l.length) c
  | [], x, i, c => rfl
  | d :: l, x, i, c => by
    show Rf.run P (Rf.byte P x i d) (i + 1) (l ++ [c]) = Rf.byte P (Rf.run P (Rf.byte P x i d) (i + 1) l) (i + (l.length + 1)) c
    rw [Rf.run_snoc P l, show i + 1 + l.length = i + (l.length + 1) by omega]
theorem Rf.Sm.run {P : ByteArray} : ∀ (l : List UInt8) {x : Rf} {i : Nat}, Rf.Sm x i → Ts.Fit x.st → i + l.length ≤ P.size → Rf.Sm (Rf.run P x i l) (i + l.length) ∧ Ts.Fit (Rf.run P x i l).st
  | [], x, i, h, hf, _ => ⟨h, hf⟩
  | c :: l, x, i, h, hf, hl => by
    have hl' : i + (l.length + 1) ≤ P.size := hl
    have := Rf.Sm.run (P := P) l (x := Rf.byte P x i c) (i := i + 1) (h.go (P := P) (by omega) _) (by rw [Rf.byte_st]; exact hf.step c) (by omega)
    rw [show i + 1 + l.length = i + (c :: l).length by simp; omega] at this
    exact this
/-- a comment that ends: where it began -/
theorem Rf.Sim.cm {P : ByteArray} {i : Nat} {x : Rf} {r : Rd} (h : Rf.Sim P i x r) (c : UInt8) (h1 : 13 ≤ x.st.pl) (h2 : x.st.pl ≤ 18) (h3 : (x.st.step c).pl = 0) : 0 ≤ x.hold ∧ x.hold + 2 ≤ i ∧ (x.st.pl = 17 → x.hold + 6 ≤ i) := by
  rw [h.st] at h1 h2 h3 ⊢
  obtain ⟨k, hk⟩ : ∃ k : Nat, r.st.pl = (k : Int) := ⟨r.st.pl.toNat, by omega⟩
  have hnx := Ts.step_next r.st c k hk (by omega)
  have ho := h.com h1 h2
  obtain ⟨a, b⟩ := h.ok.cm k hk hnx (o := r.opn) (by rw [h3, if_neg (by decide)]) (Rf.inTag_false (by omega)) (Rf.loose_false (by omega)) (Rf.loose_true (by omega))
  have hx : x.hold = (r.opn : Int) := ho.1
  rw [hx]
  refine ⟨by omega, ?_, fun q => by have := b q; omega⟩
  by_cases q : r.st.pl = 17
  · have := b q; omega
  · have := a q; omega
end Go.Proofs.YtjbkgokiikbaeaaGreatDoor
/-
  PLAIN: the names of a page's tokens and of their attributes have at most 32 bytes, a tag has at most 32 attributes.
-/
namespace Go.Proofs.YtjbkgokiikbaeaaGreatDoor
def Tk.Nice (t : Tk) : Prop := t.name.size ≤ 32 ∧ t.attrs.length ≤ 32 ∧ ∀ a ∈ t.attrs, a.1.size ≤ 32
theorem Tk.nice_text (k : Int) (x : ByteArray) (b : Bool) : Tk.Nice ⟨k, Ts.e, x, [], b⟩ := ⟨Nat.zero_le _, Nat.zero_le _, fun a h => by simp at h⟩
structure Rf.Nice (x : Rf) : Prop where
  out : ∀ t ∈ x.out, t.Nice
  attrs : ∀ a ∈ x.attrs, a.1.size ≤ 32
  pn : x.pn.size ≤ 32
  len : x.attrs.length ≤ 32
theorem Rf.Nice.start : Rf.Nice Rf.start := ⟨fun t h => by simp [Rf.start] at h, fun a h => by simp [Rf.start] at h, Nat.zero_le _, Nat.zero_le _⟩
theorem Rf.Nice.commit {x : Rf} (h : Rf.Nice x) : Rf.Nice x.commit := by
  unfold Rf.commit
  split
  · split
    · exact ⟨h.out, h.attrs, h.pn, h.len⟩
    · split
      · refine ⟨h.out, fun a ha => ?_, h.pn, by simp only [List.length_append, List.length_singleton]; omega⟩
        rcases List.mem_append.1 ha with q | q
        · exact h.attrs a q
        · rw [List.mem_singleton.1 q]; exact h.pn
      · exact ⟨h.out, h.attrs, h.pn, h.len⟩
  · exact h
theorem Rf.Nice.flush {x : Rf} (h : Rf.Nice x) : Rf.Nice x.flush := by
  unfold Rf.flush
  split
  · exact h
  · refine ⟨fun t ht => ?_, h.attrs, h.pn, h.len⟩
    rcases List.mem_append.1 ht with q | q
    · exact h.out t q
    · rw [List.mem_singleton.1 q]; exact Tk.nice_text _ _ _
theorem Ts.Fit.names {s : Ts} (h : Ts.Fit s) : s.name.size ≤ 32 ∧ s.attr.size ≤ 32 ∧ s.held.size ≤ 32 := by
  have := h.small
  unfold Ts.Small at this
  omega
theorem Rf.Nice.put {x : Rf} (h : Rf.Nice x) (N : Ts) : Rf.Nice ({ x with st := N } : Rf) := ⟨h.out, h.attrs, h.pn, h.len⟩
theorem Rf.Nice.go {P : ByteArray} {x : Rf} {i : Nat} (h : Rf.Nice x) (hw : Ts.Fit x.st) (N : Ts) (hN : Ts.Fit N) : Rf.Nice (Rf.go P x N i) := by
  have hp := h.put N
  obtain ⟨w1, w2, w3⟩ := hw.names
  obtain ⟨m1, m2, m3⟩ := hN.names
  unfold Rf.go
  dsimp only
  split
  · have hc := hp.commit.flush
    refine ⟨fun t ht => ?_, fun a ha => by simp [Rf.emit] at ha, ?_, Nat.zero_le _⟩
    · rcases List.mem_append.1 (show t ∈ (({ x with st := N } : Rf).commit.flush).out ++ [Rf.tag x.st (({ x with st := N } : Rf).commit.flush).attrs] from ht) with q | q
      · exact hc.out t q
      · rw [List.mem_singleton.1 q]
        unfold Rf.tag
        split
        · refine ⟨?_, Nat.zero_le _, fun a ha => by simp at ha⟩
          show (if x.st.held ≠ Ts.e then x.st.held else x.st.name).size ≤ 32
          split <;> assumption
        · exact ⟨w1, hc.len, hc.attrs⟩
    · exact hc.pn
  split
  · unfold Rf.value
    split
    · exact ⟨hp.commit.out, hp.commit.attrs, m2, hp.commit.len⟩
    split
    · exact ⟨hp.out, hp.attrs, m2, hp.len⟩
    split
    · exact ⟨hp.out, hp.attrs, hp.pn, hp.len⟩
    · exact hp
  split
  · have hc := hp.flush
    refine ⟨fun t ht => ?_, hc.attrs, hc.pn, hc.len⟩
    rcases List.mem_append.1 ht with q | q
    · exact hc.out t q
    · rw [List.mem_singleton.1 q]; exact Tk.nice_text _ _ _
  split
  · exact hp
  split
  · split
    · exact ⟨hp.out, hp.attrs, hp.pn, hp.len⟩
    · exact ⟨hp.out, hp.attrs, hp.pn, hp.len⟩
  split
  · exact ⟨hp.out, hp.attrs, hp.pn, hp.len⟩
  · exact hp
theorem Rf.Nice.run {P : ByteArray} : ∀ (l : List UInt8) {x : Rf} {i : Nat}, Rf.Nice x → Ts.Fit x.st → Rf.Nice (Rf.run P x i l)
  | [], _, _, h, _ => h
  | c :: l, x, i, h, hf => Rf.Nice.run (P := P) l (x := Rf.byte P x i c) (i := i + 1) (h.go hf _ (hf.step c)) (by rw [Rf.byte_st]; exact hf.step c)
theorem Rf.Nice.tokens (s : ByteArray) : ∀ t ∈ Rd.tokens s, t.Nice := by
  rw [← Rf.tokens_eq]
  have h := Rf.Nice.run (P := Rd.page s) (Rd.lines s.data.toList) (i := 0) Rf.Nice.start Ts.Fit.start
  unfold Rf.tokens Rf.done
  generalize Rf.run (Rd.page s) Rf.start 0 (Rd.lines s.data.toList) = x at *
  split
  · exact (Rf.Nice.flush (x := x.adds (Rd.page s) x.hold.toNat (Rd.page s).size) ⟨h.out, h.attrs, h.pn, h.len⟩).out
  · exact h.flush.out
theorem Rf.done_small {P : ByteArray} {x : Rf} (h : Rf.Sm x P.size) : (Rf.done P x).length ≤ 2 * P.size + 1 := by
  unfold Rf.done
  split
  · exact Nat.le_trans (Rf.flush_out_len _) (by show x.out.length + 1 ≤ _; have := h.out; omega)
  · exact Nat.le_trans (Rf.flush_out_len _) (by have := h.out; omega)
theorem Rf.tokens_small (s : ByteArray) : (Rd.tokens s).length ≤ 2 * (Rd.page s).size + 1 := by
  rw [← Rf.tokens_eq]
  have e : (Rd.lines s.data.toList).length = (Rd.page s).size := by
    have : (Rd.page s).data.toList = Rd.lines s.data.toList := by unfold Rd.page; exact List.toList_toArray
    rw [← this]
    rfl
  have h := (Rf.Sm.run (P := Rd.page s) (Rd.lines s.data.toList) Rf.Sm.start Ts.Fit.start (by omega)).1
  rw [Nat.zero_add, e] at h
  exact Rf.done_small h
end Go.Proofs.YtjbkgokiikbaeaaGreatDoor
/-
  THE WALK of the reference's byte, whole.
-/
namespace Go.Proofs.YtjbkgokiikbaeaaGreatDoor
open Go.RowKit
theorem Sc.byte (P : ByteArray) (x : Rf) (i : Nat) (w : World) (g : Nat) (bv ov av : Value) (h : Sc.At w g P x bv ov av) (hf : Ts.Fit x.st) (hs : Rf.Sm x i) (hi : i < P.size) (hp : P.size ≤ 65536) (c : UInt8) (hc : P[i] = c) (hcm : 13 ≤ x.st.pl → x.st.pl ≤ 18 → (x.st.step c).pl = 0 → 0 ≤ x.hold ∧ x.hold + 2 ≤ i ∧ (x.st.pl = 17 → x.hold + 6 ≤ i)) :
    Calls Tryz.prog 34 #[.pointer (some ⟨g, 0, none⟩), .int .i64 (i : Int)] w fun e w' => e = .returned (.tuple #[]) ∧ ∃ bv' ov' av', Sc.At w' g P (x.byte P i c) bv' ov' av' ∧ Sc.Kept w w' g bv ov av bv' ov' av' := by
  have h1 : x.pv.size ≤ 65536 := by have := hs.pv; omega
  have h2 := hs.attrs
  have h3 : x.buf.length ≤ 65536 := by have := hs.buf; omega
  have h4 : x.out.length ≤ 1000000 := by have := hs.out; omega
  have h5 : 0 ≤ x.hold → x.hold ≤ i := fun q => (hs.hold q).1
  unfold Rf.byte
  obtain ⟨N, hN⟩ : ∃ N, x.st.step c = N := ⟨_, rfl⟩
  rw [hN] at hcm ⊢
  unfold Rf.go
  dsimp only
  by_cases hE : (x.st.pl = 22 ∧ N.pl = 0) ∨ (Rf.inTag x.st.pl ∧ ¬ Rf.inTag N.pl)
  · rw [if_pos hE]
    exact Sc.byteEmit P x i w g bv ov av h hf hi hp c hc N hN hE h1 h2 h3 h4 _ (Lib.hid rfl)
  rw [if_neg hE]
  by_cases hV : Rf.inTag N.pl
  · rw [if_pos hV]
    exact Sc.byteValue P x i w g bv ov av h hf hi hp c hc N hN hE hV h1 h2 _ (Lib.hid rfl)
  rw [if_neg hV]
  by_cases hC : 13 ≤ x.st.pl ∧ x.st.pl ≤ 18 ∧ N.pl = 0
  · rw [if_pos hC]
    obtain ⟨a0, a2, a6⟩ := hcm hC.1 hC.2.1 hC.2.2
    by_cases h17 : x.st.pl = 17
    · rw [if_pos h17]
      exact Sc.byteCom17 P x i w g bv ov av h hf hi hp c hc N hN hE hV hC h17 (a6 h17) a0 h3 h4 _ (Lib.hid rfl)
    · rw [if_neg h17]
      exact Sc.byteCom P x i w g bv ov av h hf hi hp c hc N hN hE hV hC h17 a2 a0 h3 h4 _ (Lib.hid rfl)
  rw [if_neg hC]
  by_cases hT : ¬ Rf.inText N.pl ∨ ¬ Rf.inText x.st.pl
  · rw [if_pos hT]
    exact Sc.byteSkip P x i w g bv ov av h hf hi hp c hc N hN hE hV hC hT _ (Lib.hid rfl)
  have hT' : Rf.inText N.pl ∧ Rf.inText x.st.pl := ⟨Decidable.byContradiction fun q => hT (.inl q), Decidable.byContradiction fun q => hT (.inr q)⟩
  rw [if_neg hT]
  by_cases hO : N.pl = 1 ∨ N.pl = 20
  · rw [if_pos hO]
    exact Sc.byteOpen P x i w g bv ov av h hf hi hp c hc N hN hE hV hC hT' hO h3 h5 _ (Lib.hid rfl)
  rw [if_neg hO]
  by_cases hD : N.pl = 0 ∨ N.pl = 19
  · rw [if_pos hD]
    exact Sc.byteText P x i w g bv ov av h hf hi hp c hc N hN hE hV hC hT' hO hD h3 h5 _ (Lib.hid rfl)
  rw [if_neg hD]
  exact Sc.byteNone P x i w g bv ov av h hf hi hp c hc N hN hE hV hC hT' hO hD _ (Lib.hid rfl)
end Go.Proofs.YtjbkgokiikbaeaaGreatDoor

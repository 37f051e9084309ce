/-
  PLAIN: the reference's scan and the program's reader: within a tag, and its end.
-/
import Derived.Test.YtjbkgokiikbaeaaGreatDoorMTReftoTSim2
import Derived.Test.YtjbkgokiikbaeaaGreatDoorMRToktoNorm
import Derived.Test.YtjbkgokiikbaeaaGreatDoorMRDigtoTText2
import Derived.OwnWalk
import Derived.CellFam
namespace Go.Proofs.YtjbkgokiikbaeaaGreatDoor
theorem Rf.setLast (al : List (ByteArray × ByteArray)) (A V : ByteArray) : Rd.setLast (al ++ [(A, Ts.e)]) V = al ++ [(A, V)] := by
  unfold Rd.setLast
  rw [List.length_append]
  show List.modify _ (al.length + 1 - 1) _ = _
  rw [Nat.add_sub_cancel]
  induction al with
  | nil => rfl
  | cons a al ih => exact congrArg (a :: ·) ih
theorem Rd.tags_in (P : ByteArray) (r : Rd) (N was : Ts) (o i : Nat) (h : 3 ≤ N.pl ∧ N.pl < 19) : Rd.tags P (Rd.moved r N o) was i = Rd.readAttr P (Rd.moved r N o) was N i := by
  unfold Rd.tags
  dsimp only
  rw [if_neg (by show ¬ Rd.loose N.pl = true; rw [Rf.loose_false h]; decide)]
  rfl
theorem Rd.tags_out (P : ByteArray) (r : Rd) (N was : Ts) (o i : Nat) (h : N.pl < 3 ∨ 19 ≤ N.pl) : Rd.tags P (Rd.moved r N o) was i = (Rd.readAttr P (Rd.moved r N o) was N i).tellTag was i := by
  unfold Rd.tags
  dsimp only
  rw [if_pos (by show Rd.loose N.pl = true; exact Rf.loose_true h)]
  rfl
theorem Rd.readAttr_same (P : ByteArray) (r : Rd) (N was : Ts) (o i : Nat) (h : was.pl = N.pl ∨ (was.pl ≠ 5 ∧ was.pl ≠ 7 ∧ was.pl ≠ 8 ∧ was.pl ≠ 9 ∧ was.pl ≠ 10)) : Rd.readAttr P (Rd.moved r N o) was N i = Rd.moved r N o := by
  unfold Rd.readAttr
  rcases h with h | h
  · rw [if_pos h]
  · by_cases e : was.pl = N.pl
    · rw [if_pos e]
    · rw [if_neg e, if_neg h.1, if_neg h.2.1, if_neg (by omega)]
theorem Rd.readAttr_add (P : ByteArray) (r : Rd) (N was : Ts) (o i : Nat) (h1 : was.pl = 5) (h2 : N.pl ≠ 5) : Rd.readAttr P (Rd.moved r N o) was N i = (Rd.moved r N o).addAttr was.attr := by
  unfold Rd.readAttr
  rw [if_neg (by omega), if_pos h1]
theorem Rd.readAttr_begin (P : ByteArray) (r : Rd) (N was : Ts) (o i : Nat) (h1 : was.pl = 7) (h2 : N.pl ≠ 7) : Rd.readAttr P (Rd.moved r N o) was N i = { Rd.moved r N o with value := if N.pl = 10 then i else i + 1 } := by
  unfold Rd.readAttr
  rw [if_neg (by omega), if_neg (by omega), if_pos h1]
theorem Rd.readAttr_set (P : ByteArray) (r : Rd) (N was : Ts) (o i : Nat) (h1 : was.pl = 8 ∨ was.pl = 9 ∨ was.pl = 10) (h2 : was.pl ≠ N.pl) : Rd.readAttr P (Rd.moved r N o) was N i = if r.taken = true then { Rd.moved r N o with attrs := Rd.setLast r.attrs (Rd.dec (P.extract r.value i)) } else Rd.moved r N o := by
  unfold Rd.readAttr
  rw [if_neg h2, if_neg (by omega), if_neg (by omega), if_pos h1]
  rfl
theorem Rf.Att.added {P : ByteArray} {i : Nat} {x : Rf} {r : Rd} (h : Rf.Att P i x r) (hk : r.st.pl = 5) (N : Ts) (o : Nat) : ((Rd.moved r N o).addAttr r.st.attr).attrs = x.commit.attrs ∧ ((Rd.moved r N o).addAttr r.st.attr).taken = x.fresh := by
  obtain ⟨a1, a2, a3, a4⟩ := h.a5 hk
  have hc := Rf.commit_attrs x
  rw [a3, Rf.dec_e] at hc
  unfold Rd.addAttr
  have e1 : (Rd.moved r N o).attrs = x.attrs := a4
  rw [e1, ← a2]
  by_cases hf : x.fresh = true
  · have hf' := hf
    unfold Rf.fresh at hf'
    simp only [Bool.and_eq_true, Bool.not_eq_true', decide_eq_true_eq] at hf'
    rw [if_pos ⟨hf'.2, hf'.1⟩, hc, if_pos ⟨a1, hf⟩]
    exact ⟨rfl, hf.symm⟩
  · have hf' : ¬ (x.attrs.length < 32 ∧ x.attrs.any (fun a => decide (a.1 = x.pn)) = false) := by
      intro q
      apply hf
      unfold Rf.fresh
      simp only [Bool.and_eq_true, Bool.not_eq_true', decide_eq_true_eq]
      exact ⟨q.2, q.1⟩
    rw [if_neg hf', hc, if_neg (fun q => hf q.2)]
    exact ⟨rfl, by simpa using hf⟩
theorem Rd.addAttr_more (r : Rd) (n : ByteArray) : (r.addAttr n).st = r.st ∧ (r.addAttr n).toks = r.toks ∧ (r.addAttr n).value = r.value ∧ (r.addAttr n).text = r.text ∧ (r.addAttr n).opn = r.opn := by
  unfold Rd.addAttr
  split <;> exact ⟨rfl, rfl, rfl, rfl, rfl⟩
theorem Rf.Att.set {P : ByteArray} {i : Nat} {x : Rf} {r : Rd} (h : Rf.Att P i x r) (hk : r.st.pl = 8 ∨ r.st.pl = 9 ∨ r.st.pl = 10) (N : Ts) (o : Nat) : (if r.taken = true then ({ Rd.moved r N o with attrs := Rd.setLast r.attrs (Rd.dec (P.extract r.value i)) } : Rd) else Rd.moved r N o).attrs = x.commit.attrs := by
  obtain ⟨a1, a2, _, a3, a4⟩ := h.a8 hk
  have hc := Rf.commit_attrs x
  rw [a3]
  by_cases hf : x.fresh = true
  · rw [if_pos hf, hc, if_pos ⟨a1, hf⟩]
    rw [if_pos hf] at a4
    show Rd.setLast r.attrs _ = _
    rw [a4, Rf.setLast, a2]
  · rw [if_neg hf, hc, if_neg (fun q => hf q.2)]
    rw [if_neg hf] at a4
    exact a4
/-- leaving a place of a tag by its end: the attributes are all told -/
theorem Rf.Att.leave {P : ByteArray} {i : Nat} {x : Rf} {r : Rd} (h : Rf.Att P i x r) (N : Ts) (_hk : 3 ≤ r.st.pl ∧ r.st.pl ≤ 12) (hN : N.pl < 3 ∨ 12 < N.pl) (o : Nat) : (Rd.readAttr P (Rd.moved r N o) r.st N i).attrs = x.commit.attrs ∧ (Rd.readAttr P (Rd.moved r N o) r.st N i).toks = r.toks ∧ (Rd.readAttr P (Rd.moved r N o) r.st N i).st = N := by
  by_cases h5 : r.st.pl = 5
  · rw [Rd.readAttr_add P r N r.st o i h5 (by omega)]
    obtain ⟨m1, m2, _⟩ := Rd.addAttr_more (Rd.moved r N o) r.st.attr
    exact ⟨(h.added h5 N o).1, m2, m1⟩
  by_cases h7 : r.st.pl = 7
  · rw [Rd.readAttr_begin P r N r.st o i h7 (by omega)]
    exact ⟨h.a1 (by omega) (by omega) (by omega) (by omega), rfl, rfl⟩
  by_cases h8 : r.st.pl = 8 ∨ r.st.pl = 9 ∨ r.st.pl = 10
  · rw [Rd.readAttr_set P r N r.st o i h8 (by omega)]
    refine ⟨h.set h8 N o, ?_, ?_⟩ <;> (split <;> rfl)
  · rw [Rd.readAttr_same P r N r.st o i (Or.inr (by omega))]
    exact ⟨h.a1 h5 (by omega) (by omega) (by omega), rfl, rfl⟩
/-- a tag's end -/
theorem Rf.Sim.tagEnds {P : ByteArray} {i : Nat} {x : Rf} {r : Rd} (h : Rf.Sim P i x r) (N : Ts) (hk : 3 ≤ r.st.pl ∧ r.st.pl ≤ 12) (hN : N.pl = 0 ∨ N.pl = 19) (ok : Rd.Ok (Rd.go P r N r.opn i) (i + 1)) (hf : Ts.Fine N) : Rf.Sim P (i + 1) (Rf.go P x N i) (Rd.go P r N r.opn i) := by
  have hs := h.st
  have ha := h.tag hk.1 hk.2
  have ht := h.other (by omega) (by omega)
  obtain ⟨l1, l2, l3⟩ := ha.leave N hk (by omega) r.opn
  rw [Rd.go_tags P r N r.opn i hk, Rd.tags_out P r N r.st r.opn i (by omega)] at ok ⊢
  rw [Rf.go_emit P x N i (Or.inr ⟨by rw [hs]; exact hk, by unfold Rf.inTag; omega⟩)]
  generalize Rd.readAttr P (Rd.moved r N r.opn) r.st N i = r2 at *
  obtain ⟨t1, t2, t3, t4⟩ := Rd.tellTag_facts r2 r.st i
  have hheld : r.st.held = Ts.e := h.fine.low (by omega)
  have hca := Rf.moved_commit x N
  obtain ⟨m1, m2, m3, m4, m5, m6⟩ := Rf.commit_rest (Rf.moved x N)
  obtain ⟨f1, f2, f3⟩ := Rf.flush_rest (Rf.moved x N).commit
  have hst : (r2.tellTag r.st i).st = N := t1.trans l3
  unfold Rf.emit
  refine Rf.Sim.ofPlain (by rw [hst]; exact hN) ?_ ok (by rw [hst]; exact hf) ?_ (f3.trans m5) rfl t4 (fun q => absurd (Rf.flush_buf _) q) rfl ?_
  · rw [hst]
    exact f1.trans m1
  · show (r2.tellTag r.st i).toks = (Rf.moved x N).commit.flush.out ++ [Rf.tag x.st (Rf.moved x N).commit.flush.attrs]
    rw [Rf.flush_out, m2, m3, m4, f2, hca, hs]
    have e : (r2.tellTag r.st i).toks = r2.toks ++ [Rf.tag r.st r2.attrs] := by
      unfold Rd.tellTag Rf.tag
      by_cases q : r.st.fin = true
      · rw [if_pos q, if_pos (Or.inl q), if_neg (by rw [hheld]; simp)]
        rfl
      · rw [if_neg q, if_neg (by rintro (a | a); exact q a; exact a hheld)]
        rfl
    rw [e, l2, l1, ht]
    rfl
  · show (Rf.moved x N).commit.flush.buf = Rf.sl P (r2.tellTag r.st i).text (i + 1)
    rw [Rf.flush_buf, t2, Rf.sl_nil]
/-- within a tag, where neither takes notice -/
theorem Rf.Sim.tagOn {P : ByteArray} {i : Nat} {x : Rf} {r : Rd} (h : Rf.Sim P i x r) (N : Ts) (hk : r.st.pl = 3 ∨ r.st.pl = 4 ∨ r.st.pl = 6 ∨ r.st.pl = 7 ∨ r.st.pl = 11 ∨ r.st.pl = 12) (hN : N.pl = 3 ∨ N.pl = 4 ∨ N.pl = 6 ∨ N.pl = 7 ∨ N.pl = 12) (hp : (N.pl = 6 ∨ N.pl = 7) → (r.st.pl = 6 ∨ r.st.pl = 7)) (h7 : r.st.pl = 7 → N.pl = 7) (ok : Rd.Ok (Rd.go P r N r.opn i) (i + 1)) (hf : Ts.Fine N) : Rf.Sim P (i + 1) (Rf.go P x N i) (Rd.go P r N r.opn i) := by
  have ha := h.tag (by omega) (by omega)
  have ht := h.other (by omega) (by omega)
  rw [Rd.go_tags P r N r.opn i (by omega), Rd.tags_in P r N r.st r.opn i (by omega), Rd.readAttr_same P r N r.st r.opn i (by omega)] at ok ⊢
  rw [Rf.go_value P x N i (Or.inr (by omega)) (by unfold Rf.inTag; omega)]
  have hv : (Rf.moved x N).value P x.st i = Rf.moved x N := by
    unfold Rf.value
    have e : (Rf.moved x N).st.pl = N.pl := rfl
    rw [if_neg (by rw [e]; omega), if_neg (by rw [e]; omega), if_neg (by rw [e]; omega)]
  rw [hv]
  refine Rf.Sim.ofTag (by show 3 ≤ N.pl ∧ N.pl ≤ 12; omega) rfl ok hf ht ⟨fun _ _ _ _ => ?_, fun q => ?_, fun q => ?_, fun q => ?_⟩
  · rw [Rf.moved_commit]
    exact ha.a1 (by omega) (by omega) (by omega) (by omega)
  · have q : N.pl = 5 := q
    omega
  · exact ha.a67 (hp q)
  · have q : N.pl = 8 ∨ N.pl = 9 ∨ N.pl = 10 := q
    omega
/-- an attribute's name begins -/
theorem Rf.Sim.nameBegins {P : ByteArray} {i : Nat} {x : Rf} {r : Rd} (h : Rf.Sim P i x r) (N : Ts) (hk : r.st.pl = 4 ∨ r.st.pl = 6 ∨ r.st.pl = 11 ∨ r.st.pl = 12) (hN : N.pl = 5) (ok : Rd.Ok (Rd.go P r N r.opn i) (i + 1)) (hf : Ts.Fine N) : Rf.Sim P (i + 1) (Rf.go P x N i) (Rd.go P r N r.opn i) := by
  have hs := h.st
  have ha := h.tag (by omega) (by omega)
  have ht := h.other (by omega) (by omega)
  rw [Rd.go_tags P r N r.opn i (by omega), Rd.tags_in P r N r.st r.opn i (by omega), Rd.readAttr_same P r N r.st r.opn i (by omega)] at ok ⊢
  rw [Rf.go_value P x N i (Or.inr (by omega)) (by unfold Rf.inTag; omega)]
  obtain ⟨m1, m2, m3, m4, m5, m6⟩ := Rf.commit_rest (Rf.moved x N)
  have hv : (Rf.moved x N).value P x.st i = { (Rf.moved x N).commit with has := true, pn := N.attr, pv := Ts.e } := by
    unfold Rf.value
    rw [if_pos ⟨hN, by rw [hs]; omega⟩]
    rfl
  rw [hv]
  refine Rf.Sim.ofTag (by show 3 ≤ N.pl ∧ N.pl ≤ 12; omega) m1 ok hf ?_ ⟨fun q => absurd hN q, fun _ => ⟨rfl, rfl, rfl, ?_⟩, fun q => ?_, fun q => ?_⟩
  · show r.toks = (Rf.moved x N).commit.out ++ Rf.txts (Rf.moved x N).commit.buf (Rf.moved x N).commit.raw
    rw [m2, m3, m4]
    exact ht
  · show r.attrs = (Rf.moved x N).commit.attrs
    rw [Rf.moved_commit]
    exact ha.a1 (by omega) (by omega) (by omega) (by omega)
  · have q : N.pl = 6 ∨ N.pl = 7 := q
    omega
  · have q : N.pl = 8 ∨ N.pl = 9 ∨ N.pl = 10 := q
    omega
/-- .. goes on -/
theorem Rf.Sim.nameOn {P : ByteArray} {i : Nat} {x : Rf} {r : Rd} (h : Rf.Sim P i x r) (N : Ts) (hk : r.st.pl = 5) (hN : N.pl = 5) (ok : Rd.Ok (Rd.go P r N r.opn i) (i + 1)) (hf : Ts.Fine N) : Rf.Sim P (i + 1) (Rf.go P x N i) (Rd.go P r N r.opn i) := by
  have hs := h.st
  have ha := h.tag (by omega) (by omega)
  have ht := h.other (by omega) (by omega)
  obtain ⟨a1, a2, a3, a4⟩ := ha.a5 hk
  rw [Rd.go_tags P r N r.opn i (by omega), Rd.tags_in P r N r.st r.opn i (by omega), Rd.readAttr_same P r N r.st r.opn i (by omega)] at ok ⊢
  rw [Rf.go_value P x N i (Or.inr (by omega)) (by unfold Rf.inTag; omega)]
  have hv : (Rf.moved x N).value P x.st i = { Rf.moved x N with pn := N.attr } := by
    unfold Rf.value
    rw [if_neg (by rw [hs]; omega), if_pos (show (Rf.moved x N).st.pl = 5 from hN)]
    rfl
  rw [hv]
  refine Rf.Sim.ofTag (by show 3 ≤ N.pl ∧ N.pl ≤ 12; omega) rfl ok hf ht ⟨fun q => absurd hN q, fun _ => ⟨a1, rfl, a3, a4⟩, fun q => ?_, fun q => ?_⟩
  · have q : N.pl = 6 ∨ N.pl = 7 := q
    omega
  · have q : N.pl = 8 ∨ N.pl = 9 ∨ N.pl = 10 := q
    omega
/-- .. ends -/
theorem Rf.Sim.nameEnds {P : ByteArray} {i : Nat} {x : Rf} {r : Rd} (h : Rf.Sim P i x r) (N : Ts) (hk : r.st.pl = 5) (hN : N.pl = 6 ∨ N.pl = 7 ∨ N.pl = 12) (ok : Rd.Ok (Rd.go P r N r.opn i) (i + 1)) (hf : Ts.Fine N) : Rf.Sim P (i + 1) (Rf.go P x N i) (Rd.go P r N r.opn i) := by
  have hs := h.st
  have ha := h.tag (by omega) (by omega)
  have ht := h.other (by omega) (by omega)
  obtain ⟨a1, a2, a3, a4⟩ := ha.a5 hk
  obtain ⟨b1, b2⟩ := ha.added hk N r.opn
  obtain ⟨m1, m2, m3, m4, m5⟩ := Rd.addAttr_more (Rd.moved r N r.opn) r.st.attr
  rw [Rd.go_tags P r N r.opn i (by omega), Rd.tags_in P r N r.st r.opn i (by omega), Rd.readAttr_add P r N r.st r.opn i hk (by omega)] at ok ⊢
  rw [Rf.go_value P x N i (Or.inr (by omega)) (by unfold Rf.inTag; omega)]
  have hv : (Rf.moved x N).value P x.st i = Rf.moved x N := by
    unfold Rf.value
    have e : (Rf.moved x N).st.pl = N.pl := rfl
    rw [if_neg (by rw [e]; omega), if_neg (by rw [e]; omega), if_neg (by rw [e, hs]; omega)]
  rw [hv]
  generalize (Rd.moved r N r.opn).addAttr r.st.attr = r2 at *
  have hst : r2.st = N := m1
  refine Rf.Sim.ofTag (by rw [hst]; omega) hst.symm ok (by rw [hst]; exact hf) (m2.trans ht) ⟨fun _ _ _ _ => by rw [Rf.moved_commit]; exact b1, fun q => ?_, fun _ => ⟨a1, a3, b2⟩, fun q => ?_⟩
  · rw [hst] at q; omega
  · rw [hst] at q; omega
/-- a value begins -/
theorem Rf.Sim.valueBegins {P : ByteArray} {i : Nat} {x : Rf} {r : Rd} (h : Rf.Sim P i x r) (N : Ts) (hk : r.st.pl = 7) (hN : N.pl = 8 ∨ N.pl = 9 ∨ N.pl = 10) (ok : Rd.Ok (Rd.go P r N r.opn i) (i + 1)) (hf : Ts.Fine N) : Rf.Sim P (i + 1) (Rf.go P x N i) (Rd.go P r N r.opn i) := by
  have hs := h.st
  have ha := h.tag (by omega) (by omega)
  have ht := h.other (by omega) (by omega)
  obtain ⟨a1, a2, a3⟩ := ha.a67 (Or.inr hk)
  have a4 := ha.a1 (by omega) (by omega) (by omega) (by omega)
  rw [Rf.commit_attrs, a2, Rf.dec_e] at a4
  have a5 : r.attrs = if x.fresh = true then x.attrs ++ [(x.pn, Ts.e)] else x.attrs := by
    rw [a4]
    by_cases q : x.fresh = true
    · rw [if_pos ⟨a1, q⟩, if_pos q]
    · rw [if_neg (fun z => q z.2), if_neg q]
  rw [Rd.go_tags P r N r.opn i (by omega), Rd.tags_in P r N r.st r.opn i (by omega), Rd.readAttr_begin P r N r.st r.opn i hk (by omega)] at ok ⊢
  rw [Rf.go_value P x N i (Or.inr (by omega)) (by unfold Rf.inTag; omega)]
  have e : (Rf.moved x N).st.pl = N.pl := rfl
  by_cases h10 : N.pl = 10
  · have hv : (Rf.moved x N).value P x.st i = { Rf.moved x N with pv := x.pv ++ P.extract i (i + 1) } := by
      unfold Rf.value
      rw [if_neg (by rw [e]; omega), if_neg (by rw [e]; omega), if_pos (by rw [e]; omega)]
      rfl
    rw [hv]
    rw [if_pos h10] at ok ⊢
    refine Rf.Sim.ofTag (by show 3 ≤ N.pl ∧ N.pl ≤ 12; omega) rfl ok hf ht ⟨fun _ _ _ q => absurd h10 q, fun q => ?_, fun q => ?_, fun _ => ⟨a1, ?_, by show i ≤ i + 1; omega, a3, a5⟩⟩
    · have q : N.pl = 5 := q
      omega
    · have q : N.pl = 6 ∨ N.pl = 7 := q
      omega
    · show x.pv ++ P.extract i (i + 1) = P.extract i (i + 1)
      rw [a2]
      apply ByteArray.ext
      simp [ByteArray.data_append, Ts.e]
  · have hv : (Rf.moved x N).value P x.st i = Rf.moved x N := by
      unfold Rf.value
      rw [if_neg (by rw [e]; omega), if_neg (by rw [e]; omega), if_neg (by rw [e, hs]; omega)]
    rw [hv]
    rw [if_neg h10] at ok ⊢
    refine Rf.Sim.ofTag (by show 3 ≤ N.pl ∧ N.pl ≤ 12; omega) rfl ok hf ht ⟨fun _ q1 q2 q3 => by rcases hN with z | z | z; exact absurd z q1; exact absurd z q2; exact absurd z q3, fun q => ?_, fun q => ?_, fun _ => ⟨a1, ?_, Nat.le_refl _, a3, a5⟩⟩
    · have q : N.pl = 5 := q
      omega
    · have q : N.pl = 6 ∨ N.pl = 7 := q
      omega
    · show x.pv = P.extract (i + 1) (i + 1)
      rw [a2, Rf.ext_nil]
/-- .. goes on -/
theorem Rf.Sim.valueOn {P : ByteArray} {i : Nat} {x : Rf} {r : Rd} (h : Rf.Sim P i x r) (N : Ts) (hk : r.st.pl = 8 ∨ r.st.pl = 9 ∨ r.st.pl = 10) (hN : N.pl = r.st.pl) (ok : Rd.Ok (Rd.go P r N r.opn i) (i + 1)) (hf : Ts.Fine N) : Rf.Sim P (i + 1) (Rf.go P x N i) (Rd.go P r N r.opn i) := by
  have hs := h.st
  have ha := h.tag (by omega) (by omega)
  have ht := h.other (by omega) (by omega)
  obtain ⟨a1, a2, a2', a3, a4⟩ := ha.a8 hk
  rw [Rd.go_tags P r N r.opn i (by omega), Rd.tags_in P r N r.st r.opn i (by omega), Rd.readAttr_same P r N r.st r.opn i (Or.inl hN.symm)] at ok ⊢
  rw [Rf.go_value P x N i (Or.inr (by omega)) (by unfold Rf.inTag; omega)]
  have e : (Rf.moved x N).st.pl = N.pl := rfl
  have hv : (Rf.moved x N).value P x.st i = { Rf.moved x N with pv := x.pv ++ P.extract i (i + 1) } := by
    unfold Rf.value
    rw [if_neg (by rw [e]; omega), if_neg (by rw [e]; omega), if_pos (by rw [e, hs]; omega)]
    rfl
  rw [hv]
  refine Rf.Sim.ofTag (by show 3 ≤ N.pl ∧ N.pl ≤ 12; omega) rfl ok hf ht ⟨fun _ q1 q2 q3 => by
    have q1 : N.pl ≠ 8 := q1
    have q2 : N.pl ≠ 9 := q2
    have q3 : N.pl ≠ 10 := q3
    omega, fun q => ?_, fun q => ?_, fun _ => ⟨a1, ?_, by show r.value ≤ i + 1; omega, a3, a4⟩⟩
  · have q : N.pl = 5 := q
    omega
  · have q : N.pl = 6 ∨ N.pl = 7 := q
    omega
  · show x.pv ++ P.extract i (i + 1) = P.extract r.value (i + 1)
    rw [a2, Rf.ext_append P _ _ a2']
/-- .. ends -/
theorem Rf.Sim.valueEnds {P : ByteArray} {i : Nat} {x : Rf} {r : Rd} (h : Rf.Sim P i x r) (N : Ts) (hk : r.st.pl = 8 ∨ r.st.pl = 9 ∨ r.st.pl = 10) (hN : N.pl = 11 ∨ N.pl = 4) (ok : Rd.Ok (Rd.go P r N r.opn i) (i + 1)) (hf : Ts.Fine N) : Rf.Sim P (i + 1) (Rf.go P x N i) (Rd.go P r N r.opn i) := by
  have ha := h.tag (by omega) (by omega)
  have ht := h.other (by omega) (by omega)
  have hset := ha.set hk N r.opn
  rw [Rd.go_tags P r N r.opn i (by omega), Rd.tags_in P r N r.st r.opn i (by omega), Rd.readAttr_set P r N r.st r.opn i hk (by omega)] at ok ⊢
  rw [Rf.go_value P x N i (Or.inr (by omega)) (by unfold Rf.inTag; omega)]
  have hv : (Rf.moved x N).value P x.st i = Rf.moved x N := by
    unfold Rf.value
    have e : (Rf.moved x N).st.pl = N.pl := rfl
    rw [if_neg (by rw [e]; omega), if_neg (by rw [e]; omega), if_neg (by rw [e]; omega)]
  rw [hv]
  have hst : (if r.taken = true then ({ Rd.moved r N r.opn with attrs := Rd.setLast r.attrs (Rd.dec (P.extract r.value i)) } : Rd) else Rd.moved r N r.opn).st = N := by split <;> rfl
  have hto : (if r.taken = true then ({ Rd.moved r N r.opn with attrs := Rd.setLast r.attrs (Rd.dec (P.extract r.value i)) } : Rd) else Rd.moved r N r.opn).toks = r.toks := by split <;> rfl
  generalize (if r.taken = true then ({ Rd.moved r N r.opn with attrs := Rd.setLast r.attrs (Rd.dec (P.extract r.value i)) } : Rd) else Rd.moved r N r.opn) = r2 at *
  refine Rf.Sim.ofTag (by rw [hst]; omega) hst.symm ok (by rw [hst]; exact hf) (hto.trans ht) ⟨fun _ _ _ _ => by rw [Rf.moved_commit]; exact hset, fun q => ?_, fun q => ?_, fun q => ?_⟩
  · rw [hst] at q; omega
  · rw [hst] at q; omega
  · rw [hst] at q; omega
end Go.Proofs.YtjbkgokiikbaeaaGreatDoor
/-
  PLAIN: the reference's scan tells the program's tokens.
-/
namespace Go.Proofs.YtjbkgokiikbaeaaGreatDoor
/-- what a step keeps of what is held -/
theorem Ts.step_held (s : Ts) (c : UInt8) (k : Nat) (hk : s.pl = (k : Int)) (hk2 : k < 3 ∨ (19 ≤ k ∧ k < 23)) (hf : Ts.Fine s) (hN : (s.step c).pl < 3 ∨ 19 ≤ (s.step c).pl) : (s.step c).held = s.held ∨ (s.step c).pl = 0 := by
  have hk23 : k < 23 := by omega
  have hF := Ts.Fine.step hf c k hk hk23
  rcases hk2 with h | h
  · left
    have hn := Ts.step_next s c k hk hk23
    have hlt : (s.step c).pl < 19 := by
      have hcase : k = 0 ∨ k = 1 ∨ k = 2 := by omega
      rcases hcase with e | e | e
      all_goals subst e
      all_goals simp only [Ts.nexts, List.mem_cons, List.not_mem_nil, or_false] at hn
      all_goals omega
    rw [hF.low hlt, hf.low (by omega)]
  · by_cases h0 : (s.step c).pl = 0
    · exact Or.inr h0
    · left
      rw [Ts.step_at s c k hk hk23] at hN h0 ⊢
      have hh : (s.to k).held = s.held := by
        show (if 19 ≤ (k : Int) then s.held else Ts.e) = s.held
        rw [if_pos (by omega)]
      have hto : ∀ a : Int, 19 ≤ a → ((s.to k).to a).held = s.held := fun a ha => by
        show (if 19 ≤ a then (s.to k).held else Ts.e) = s.held
        rw [if_pos ha, hh]
      have hcase : k = 19 ∨ k = 20 ∨ k = 21 ∨ k = 22 := by omega
      have hon : ((s.to k).heldOn c).held = s.held := by
        unfold Ts.heldOn
        split <;> exact hto _ (by decide)
      generalize s.to k = t at *
      rcases hcase with e | e | e | e
      all_goals subst e
      · show (t.heldS c).held = s.held
        unfold Ts.heldS
        split
        · exact hto _ (by decide)
        · exact hh
      · show (t.heldLt c).held = s.held
        unfold Ts.heldLt
        repeat' split
        · exact hto _ (by decide)
        · exact hh
        · exact hto _ (by decide)
      · show (t.heldSlash c).held = s.held
        unfold Ts.heldSlash
        split
        · exact hto 22 (by decide)
        · exact hon
      · have hN : (t.heldName c).pl < 3 ∨ 19 ≤ (t.heldName c).pl := hN
        have h0 : ¬ (t.heldName c).pl = 0 := h0
        show (t.heldName c).held = s.held
        unfold Ts.heldName at hN h0 ⊢
        by_cases q1 : Ts.heldAt t c = true
        · rw [if_pos q1]
          exact hh
        · rw [if_neg q1] at hN h0 ⊢
          by_cases q2 : t.read < t.held.size
          · rw [if_pos q2]
            exact hon
          · rw [if_neg q2] at hN h0 ⊢
            by_cases q3 : Ts.blank c = true
            · rw [if_pos q3] at hN
              exact absurd hN (by show ¬ ((4 : Int) < 3 ∨ 19 ≤ (4 : Int)); decide)
            · rw [if_neg q3] at hN h0 ⊢
              by_cases q4 : c = 47
              · rw [if_pos q4] at hN
                exact absurd hN (by show ¬ ((12 : Int) < 3 ∨ 19 ≤ (12 : Int)); decide)
              · rw [if_neg q4] at hN h0 ⊢
                by_cases q5 : c = 62
                · rw [if_pos q5] at h0
                  exact absurd rfl h0
                · rw [if_neg q5]
                  exact hon
set_option maxHeartbeats 4000000 in
theorem Rf.Sim.step {P : ByteArray} {i : Nat} {x : Rf} {r : Rd} (h : Rf.Sim P i x r) (c : UInt8) (hP : i < P.size) : Rf.Sim P (i + 1) (Rf.byte P x i c) (Rd.read P r i c) := by
  have hl := h.ok.lo
  have hh := h.ok.hi
  obtain ⟨k, hk⟩ : ∃ k : Nat, r.st.pl = (k : Int) := ⟨r.st.pl.toNat, by omega⟩
  have hk23 : k < 23 := by omega
  have hN := Ts.step_next r.st c k hk hk23
  have ok := h.ok.read (P := P) c
  have hf := Ts.Fine.step h.fine c k hk hk23
  have hheld := fun q1 q2 => Ts.step_held r.st c k hk q1 h.fine q2
  rw [Rd.read_go] at ok ⊢
  unfold Rf.byte
  rw [h.st]
  generalize r.st.step c = N at *
  have hcase : k = 0 ∨ k = 1 ∨ k = 2 ∨ k = 3 ∨ k = 4 ∨ k = 5 ∨ k = 6 ∨ k = 7 ∨ k = 8 ∨ k = 9 ∨ k = 10 ∨ k = 11 ∨ k = 12 ∨ k = 13 ∨ k = 14 ∨ k = 15 ∨ k = 16 ∨ k = 17 ∨ k = 18 ∨ k = 19 ∨ k = 20 ∨ k = 21 ∨ k = 22 := by omega
  by_cases ho : N.pl = 1 ∨ N.pl = 20
  · rw [if_pos ho] at ok ⊢
    have hloose : k < 3 ∨ (19 ≤ k ∧ k < 23) := by
      rcases hcase with e | e | e | e | e | e | e | e | e | e | e | e | e | e | e | e | e | e | e | e | e | e | e
      all_goals subst e
      all_goals simp only [Ts.nexts, List.mem_cons, List.not_mem_nil, or_false] at hN
      all_goals omega
    refine h.openLt N (by omega) ho ?_ ok hf
    rcases hheld hloose (by omega) with e | e
    · exact e
    · omega
  · rw [if_neg ho] at ok ⊢
    rcases hcase with e | e | e | e | e | e | e | e | e | e | e | e | e | e | e | e | e | e | e | e | e | e | e
    all_goals subst e
    all_goals simp only [Ts.nexts, List.mem_cons, List.not_mem_nil, or_false] at hN
    all_goals first
      | (rcases hN with e | e | e | e | e | e)
      | (rcases hN with e | e | e | e | e)
      | (rcases hN with e | e | e | e)
      | (rcases hN with e | e | e)
      | (rcases hN with e | e)
    all_goals first
      | exact absurd (Or.inl e) ho
      | exact absurd (Or.inr e) ho
      | exact h.comCom N (by omega) (by omega) ok hf
      | exact h.comEnd N (by omega) (by omega) ok hf
      | exact h.heldEnds N (by omega) (by omega) (by omega) ok hf
      | exact h.textOn N (by omega) (by omega) (by omega) ok hf
      | exact h.midOn N (by omega) (by omega) (by rcases hheld (by omega) (by omega) with q | q; exact q; omega) ok hf
      | exact h.tagBegins N (by omega) (by omega) (by omega) ok hf
      | exact h.comBegins N (by omega) (by omega) (by omega) ok hf
      | exact h.tagEnds N (by omega) (by omega) ok hf
      | exact h.nameBegins N (by omega) (by omega) ok hf
      | exact h.nameOn N (by omega) (by omega) ok hf
      | exact h.nameEnds N (by omega) (by omega) ok hf
      | exact h.valueBegins N (by omega) (by omega) ok hf
      | exact h.valueOn N (by omega) (by omega) ok hf
      | exact h.valueEnds N (by omega) (by omega) ok hf
      | exact h.tagOn N (by omega) (by omega) (by omega) (by omega) ok hf
theorem Rf.Sim.run {P : ByteArray} : ∀ (l : List UInt8) {x : Rf} {r : Rd} {i : Nat}, Rf.Sim P i x r → i + l.length ≤ P.size → Rf.Sim P (i + l.length) (Rf.run P x i l) (Rd.run P r i l)
  | [], _, _, _, h, _ => h
  | c :: l, x, r, i, h, hP => by
    simp only [List.length_cons] at hP
    have h1 := h.step c (by omega)
    have h2 := Rf.Sim.run l h1 (by omega)
    show Rf.Sim P (i + (l.length + 1)) (Rf.run P (Rf.byte P x i c) (i + 1) l) (Rd.run P (Rd.read P r i c) (i + 1) l)
    rw [show i + (l.length + 1) = i + 1 + l.length by omega]
    exact h2
theorem Rf.Sim.start (P : ByteArray) : Rf.Sim P 0 Rf.start Rd.start :=
  Rf.Sim.ofPlain (Or.inl rfl) rfl Rd.Ok.start ⟨fun _ => rfl, fun q => absurd q (by decide)⟩ rfl rfl rfl rfl (fun q => absurd rfl q) rfl (by rw [show Rd.start.text = 0 from rfl, Rf.sl_nil]; rfl)
theorem Rf.Sim.done {P : ByteArray} {x : Rf} {r : Rd} (h : Rf.Sim P P.size x r) : Rf.done P x = Rd.done P r := by
  have hs := h.st
  have hlo := h.ok.lo
  have hhi := h.ok.hi
  have htx := h.ok.text
  unfold Rf.done Rd.done
  rw [Rf.flush_out]
  by_cases hl : r.st.pl < 3 ∨ 19 ≤ r.st.pl
  · obtain ⟨c1, c2, c3, c4, c5⟩ := h.loose hl
    rw [if_pos (Rf.loose_true hl)]
    by_cases hm : r.st.pl = 0 ∨ r.st.pl = 19
    · obtain ⟨p1, p2⟩ := h.plain hm
      rw [if_neg (by omega), Rd.tellText_toks P r P.size r.st.held htx (Nat.le_refl _) x.raw (fun q => c5 (by rw [p2]; exact q)), c1, p2]
    · obtain ⟨p1, p2⟩ := h.mid (by omega)
      have ho := h.ok.opn (by omega)
      rw [if_pos ⟨by omega, by rw [hs]; unfold Rf.inText; omega⟩, Rd.tellText_toks P r P.size r.st.held htx (Nat.le_refl _) (Rf.isRaw r.st.held) (fun _ => rfl)]
      show x.out ++ Rf.txts (x.buf ++ Rf.sl P x.hold.toNat P.size) (Rf.isRaw x.st.held) = _
      rw [p2, p1, Int.toNat_natCast, Rf.sl_append P _ _ _ ho.1 (by omega), c1, hs]
  · rw [if_neg (by rw [hs]; unfold Rf.inText; omega), if_neg (by rw [Rf.loose_false (by omega)]; decide)]
    exact (h.other (by omega) (by omega)).symm
/-- THE REFERENCE TELLS WHAT THE PROGRAM TELLS -/
theorem Rf.tokens_eq (s : ByteArray) : Rf.tokens s = Rd.tokens s := by
  unfold Rf.tokens Rd.tokens
  have hsz : (Rd.page s).size = (Rd.lines s.data.toList).length := by
    show (Rd.lines s.data.toList).toArray.size = _
    simp
  have h := Rf.Sim.run (P := Rd.page s) (Rd.lines s.data.toList) (Rf.Sim.start _) (by omega)
  rw [Nat.zero_add, ← hsz] at h
  exact h.done
end Go.Proofs.YtjbkgokiikbaeaaGreatDoor
/-
  PLAIN: the states that a page leads to: just the parts that their place has, names of at most 32 bytes, what is held one of four names.
-/
namespace Go.Proofs.YtjbkgokiikbaeaaGreatDoor
structure Ts.Fit (s : Ts) : Prop where
  lo : 0 ≤ s.pl
  hi : s.pl < 23
  clean : s.to s.pl = s
  small : s.Small
  fine : Ts.Fine s
  read : s.pl = 22 → 0 ≤ s.read ∧ s.read ≤ s.held.size
theorem Ts.to_to (t : Ts) (a : Int) : (t.to a).to a = t.to a := by
  unfold Ts.to
  dsimp only
  congr 1
  all_goals (split <;> rfl)
theorem Ts.to_clean (t : Ts) (a : Int) : (t.to a).to (t.to a).pl = t.to a := Ts.to_to t a
theorem Ts.with_name (t : Ts) (a : Int) (n : ByteArray) (h : Ts.inTag a = true) (ht : t.to a = t) (hp : t.pl = a) : ({ t with name := n } : Ts).to ({ t with name := n } : Ts).pl = { t with name := n } := by
  obtain ⟨pl, nm, f, at_, hd, rd⟩ := t
  simp only at hp
  subst hp
  unfold Ts.to at ht ⊢
  simp only [Ts.mk.injEq, h, if_true] at ht ⊢
  exact ⟨trivial, trivial, trivial, ht.2.2.2.1, ht.2.2.2.2.1, ht.2.2.2.2.2⟩
theorem Ts.with_attr (t : Ts) (a : Int) (n : ByteArray) (h : Ts.hasAttr a = true) (ht : t.to a = t) (hp : t.pl = a) : ({ t with attr := n } : Ts).to ({ t with attr := n } : Ts).pl = { t with attr := n } := by
  obtain ⟨pl, nm, f, at_, hd, rd⟩ := t
  simp only at hp
  subst hp
  unfold Ts.to at ht ⊢
  simp only [Ts.mk.injEq, h, if_true] at ht ⊢
  exact ⟨trivial, ht.2.1, ht.2.2.1, trivial, ht.2.2.2.2.1, ht.2.2.2.2.2⟩
theorem Ts.with_fin (t : Ts) (a : Int) (b : Bool) (h : Ts.inTag a = true) (ht : t.to a = t) (hp : t.pl = a) : ({ t with fin := b } : Ts).to ({ t with fin := b } : Ts).pl = { t with fin := b } := by
  obtain ⟨pl, nm, f, at_, hd, rd⟩ := t
  simp only at hp
  subst hp
  unfold Ts.to at ht ⊢
  simp only [Ts.mk.injEq, h, if_true] at ht ⊢
  exact ⟨trivial, ht.2.1, trivial, ht.2.2.2.1, ht.2.2.2.2.1, ht.2.2.2.2.2⟩
theorem Ts.with_read (t : Ts) (x : Int) (ht : t.to 22 = t) (hp : t.pl = 22) : ({ t with read := x } : Ts).to ({ t with read := x } : Ts).pl = { t with read := x } := by
  obtain ⟨pl, nm, f, at_, hd, rd⟩ := t
  simp only at hp
  subst hp
  unfold Ts.to at ht ⊢
  simp only [Ts.mk.injEq, if_true] at ht ⊢
  exact ⟨trivial, ht.2.1, ht.2.2.1, ht.2.2.2.1, ht.2.2.2.2.1, trivial⟩
theorem Ts.closed_clean (t : Ts) : t.closed.to t.closed.pl = t.closed := by
  unfold Ts.closed
  split <;> exact Ts.to_clean _ _
theorem Ts.openTag_clean (t : Ts) (c : UInt8) : (t.openTag c).to (t.openTag c).pl = t.openTag c := Ts.with_name (t.to 3) 3 _ rfl (Ts.to_to t 3) rfl
theorem Ts.openAttr_clean (t : Ts) (c : UInt8) : (t.openAttr c).to (t.openAttr c).pl = t.openAttr c := Ts.with_attr (t.to 5) 5 _ rfl (Ts.to_to t 5) rfl
theorem Ts.step_clean (s : Ts) (c : UInt8) (k : Nat) (hk : s.pl = (k : Int)) (hk23 : k < 23) : (s.step c).to (s.step c).pl = s.step c := by
  rw [Ts.step_at s c k hk hk23]
  have ht : (s.to k).to k = s.to k := Ts.to_to s k
  have hp : (s.to k).pl = (k : Int) := rfl
  have hs : (s.to k).to (s.to k).pl = s.to k := ht
  generalize s.to k = t at *
  have hcl := Ts.closed_clean t
  have hot := Ts.openTag_clean t c
  have hoa := Ts.openAttr_clean t c
  have hon : (t.heldOn c).to (t.heldOn c).pl = t.heldOn c := by
    unfold Ts.heldOn
    split <;> exact Ts.to_clean _ _
  have hcase : k = 0 ∨ k = 1 ∨ k = 2 ∨ k = 3 ∨ k = 4 ∨ k = 5 ∨ k = 6 ∨ k = 7 ∨ k = 8 ∨ k = 9 ∨ k = 10 ∨ k = 11 ∨ k = 12 ∨ k = 13 ∨ k = 14 ∨ k = 15 ∨ k = 16 ∨ k = 17 ∨ k = 18 ∨ k = 19 ∨ k = 20 ∨ k = 21 ∨ k = 22 := by omega
  rcases hcase with e | e | e | e | e | e | e | e | e | e | e | e | e | e | e | e | e | e | e | e | e | e | e
  all_goals subst e
  · show (t.data c).to (t.data c).pl = t.data c; unfold Ts.data; split
    all_goals first | exact hs | exact Ts.to_clean _ _
  · show (t.tagOpen c).to (t.tagOpen c).pl = t.tagOpen c; unfold Ts.tagOpen; repeat' split
    all_goals first | exact hs | exact hot | exact Ts.to_clean _ _
  · show (t.endOpen c).to (t.endOpen c).pl = t.endOpen c; unfold Ts.endOpen; repeat' split
    all_goals first | exact Ts.with_fin (t.openTag c) 3 true rfl hot rfl | exact Ts.to_clean _ _
  · show (t.tagName c).to (t.tagName c).pl = t.tagName c; unfold Ts.tagName; repeat' split
    all_goals first | exact hcl | exact Ts.to_clean _ _ | exact Ts.with_name t 3 _ rfl ht hp
  · show (t.beforeAttr c).to (t.beforeAttr c).pl = t.beforeAttr c; unfold Ts.beforeAttr; repeat' split
    all_goals first | exact hs | exact hcl | exact hoa | exact Ts.to_clean _ _
  · show (t.attrName c).to (t.attrName c).pl = t.attrName c; unfold Ts.attrName; repeat' split
    all_goals first | exact hcl | exact Ts.to_clean _ _ | exact Ts.with_attr t 5 _ rfl ht hp
  · show (t.afterName c).to (t.afterName c).pl = t.afterName c; unfold Ts.afterName; repeat' split
    all_goals first | exact hs | exact hcl | exact hoa | exact Ts.to_clean _ _
  · show (t.beforeValue c).to (t.beforeValue c).pl = t.beforeValue c; unfold Ts.beforeValue; repeat' split
    all_goals first | exact hs | exact hcl | exact Ts.to_clean _ _
  · show (Ts.quoted 34 t c).to (Ts.quoted 34 t c).pl = Ts.quoted 34 t c; unfold Ts.quoted; split
    all_goals first | exact hs | exact Ts.to_clean _ _
  · show (Ts.quoted 39 t c).to (Ts.quoted 39 t c).pl = Ts.quoted 39 t c; unfold Ts.quoted; split
    all_goals first | exact hs | exact Ts.to_clean _ _
  · show (t.bare c).to (t.bare c).pl = t.bare c; unfold Ts.bare; repeat' split
    all_goals first | exact hs | exact hcl | exact Ts.to_clean _ _
  · show (t.afterValue c).to (t.afterValue c).pl = t.afterValue c; unfold Ts.afterValue; repeat' split
    all_goals first | exact hcl | exact hoa | exact Ts.to_clean _ _
  · show (t.selfClose c).to (t.selfClose c).pl = t.selfClose c; unfold Ts.selfClose; repeat' split
    all_goals first | exact hs | exact hcl | exact hoa | exact Ts.to_clean _ _
  · show (t.bang c).to (t.bang c).pl = t.bang c; unfold Ts.bang; repeat' split
    all_goals exact Ts.to_clean _ _
  · show (t.bangDash c).to (t.bangDash c).pl = t.bangDash c; unfold Ts.bangDash; repeat' split
    all_goals exact Ts.to_clean _ _
  · show (t.comment c).to (t.comment c).pl = t.comment c; unfold Ts.comment; split
    all_goals first | exact hs | exact Ts.to_clean _ _
  · show (t.commentDash c).to (t.commentDash c).pl = t.commentDash c; unfold Ts.commentDash; split
    all_goals exact Ts.to_clean _ _
  · show (t.commentEnd c).to (t.commentEnd c).pl = t.commentEnd c; unfold Ts.commentEnd; repeat' split
    all_goals first | exact hs | exact Ts.to_clean _ _
  · show (t.bogus c).to (t.bogus c).pl = t.bogus c; unfold Ts.bogus; split
    all_goals first | exact hs | exact Ts.to_clean _ _
  · show (t.heldS c).to (t.heldS c).pl = t.heldS c; unfold Ts.heldS; split
    all_goals first | exact hs | exact Ts.to_clean _ _
  · show (t.heldLt c).to (t.heldLt c).pl = t.heldLt c; unfold Ts.heldLt; repeat' split
    all_goals first | exact hs | exact Ts.to_clean _ _
  · show (t.heldSlash c).to (t.heldSlash c).pl = t.heldSlash c; unfold Ts.heldSlash; split
    · exact Ts.with_read (t.to 22) 1 (Ts.to_to t 22) rfl
    · exact hon
  · show (t.heldName c).to (t.heldName c).pl = t.heldName c; unfold Ts.heldName; repeat' split
    all_goals first | exact Ts.with_read t _ ht hp | exact hon | exact Ts.to_clean _ _
theorem Ts.heldAt_lt {t : Ts} {c : UInt8} (h : Ts.heldAt t c = true) : 0 ≤ t.read ∧ t.read < t.held.size := by
  unfold Ts.heldAt at h
  simp only [Bool.and_eq_true, decide_eq_true_eq] at h
  exact h.1
theorem Ts.heldOn_pl (t : Ts) (c : UInt8) : (t.heldOn c).pl ≠ 22 := by
  unfold Ts.heldOn
  split
  · show (20 : Int) ≠ 22; decide
  · show (19 : Int) ≠ 22; decide
theorem Ts.step_read (s : Ts) (c : UInt8) (k : Nat) (hk : s.pl = (k : Int)) (hk23 : k < 23) (h22 : (s.step c).pl = 22) : 0 ≤ (s.step c).read ∧ (s.step c).read ≤ (s.step c).held.size := by
  have hn := Ts.step_next s c k hk hk23
  have hcase : k = 21 ∨ k = 22 := by
    have hc : k = 0 ∨ k = 1 ∨ k = 2 ∨ k = 3 ∨ k = 4 ∨ k = 5 ∨ k = 6 ∨ k = 7 ∨ k = 8 ∨ k = 9 ∨ k = 10 ∨ k = 11 ∨ k = 12 ∨ k = 13 ∨ k = 14 ∨ k = 15 ∨ k = 16 ∨ k = 17 ∨ k = 18 ∨ k = 19 ∨ k = 20 ∨ k = 21 ∨ k = 22 := by omega
    rw [h22] at hn
    rcases hc with e | e | e | e | e | e | e | e | e | e | e | e | e | e | e | e | e | e | e | e | e | e | e
    all_goals first | exact Or.inl e | exact Or.inr e | (subst e; exact absurd hn (by decide))
  rw [Ts.step_at s c k hk hk23] at h22 ⊢
  rcases hcase with e | e
  all_goals subst e
  · have h22 : ((s.to 21).heldSlash c).pl = 22 := h22
    show 0 ≤ ((s.to 21).heldSlash c).read ∧ ((s.to 21).heldSlash c).read ≤ ((s.to 21).heldSlash c).held.size
    unfold Ts.heldSlash at h22 ⊢
    by_cases q : Ts.heldAt (s.to 21) c = true
    · rw [if_pos q]
      have := Ts.heldAt_lt q
      have h0 : (s.to 21).read = 0 := rfl
      refine ⟨by show (0 : Int) ≤ 1; decide, ?_⟩
      show (1 : Int) ≤ ((s.to 21).held.size : Int)
      omega
    · rw [if_neg q] at h22
      exact absurd h22 (Ts.heldOn_pl _ _)
  · have h22 : ((s.to 22).heldName c).pl = 22 := h22
    show 0 ≤ ((s.to 22).heldName c).read ∧ ((s.to 22).heldName c).read ≤ ((s.to 22).heldName c).held.size
    unfold Ts.heldName at h22 ⊢
    by_cases q : Ts.heldAt (s.to 22) c = true
    · rw [if_pos q]
      have := Ts.heldAt_lt q
      exact ⟨by show 0 ≤ (s.to 22).read + 1; omega, by show (s.to 22).read + 1 ≤ ((s.to 22).held.size : Int); omega⟩
    · rw [if_neg q] at h22
      by_cases q2 : (s.to 22).read < (s.to 22).held.size
      · rw [if_pos q2] at h22
        exact absurd h22 (Ts.heldOn_pl _ _)
      · rw [if_neg q2] at h22
        by_cases q3 : Ts.blank c = true
        · rw [if_pos q3] at h22
          exact absurd (show (4 : Int) = 22 from h22) (by decide)
        · rw [if_neg q3] at h22
          by_cases q4 : c = 47
          · rw [if_pos q4] at h22
            exact absurd (show (12 : Int) = 22 from h22) (by decide)
          · rw [if_neg q4] at h22
            by_cases q5 : c = 62
            · rw [if_pos q5] at h22
              exact absurd (show (0 : Int) = 22 from h22) (by decide)
            · rw [if_neg q5] at h22
              exact absurd h22 (Ts.heldOn_pl _ _)
theorem Ts.Fit.step {s : Ts} (h : Ts.Fit s) (c : UInt8) : Ts.Fit (s.step c) := by
  have hl := h.lo
  have hh := h.hi
  obtain ⟨k, hk⟩ : ∃ k : Nat, s.pl = (k : Int) := ⟨s.pl.toNat, by omega⟩
  have hk23 : k < 23 := by omega
  have hn := Ts.step_next s c k hk hk23
  have hb : 0 ≤ (s.step c).pl ∧ (s.step c).pl < 23 := by
    have hc : k = 0 ∨ k = 1 ∨ k = 2 ∨ k = 3 ∨ k = 4 ∨ k = 5 ∨ k = 6 ∨ k = 7 ∨ k = 8 ∨ k = 9 ∨ k = 10 ∨ k = 11 ∨ k = 12 ∨ k = 13 ∨ k = 14 ∨ k = 15 ∨ k = 16 ∨ k = 17 ∨ k = 18 ∨ k = 19 ∨ k = 20 ∨ k = 21 ∨ k = 22 := by omega
    rcases hc with e | e | e | e | e | e | e | e | e | e | e | e | e | e | e | e | e | e | e | e | e | e | e
    all_goals subst e
    all_goals simp only [Ts.nexts, List.mem_cons, List.not_mem_nil, or_false] at hn
    all_goals omega
  exact ⟨hb.1, hb.2, Ts.step_clean s c k hk hk23, Ts.step_small h.small c, Ts.Fine.step h.fine c k hk hk23, fun q => Ts.step_read s c k hk hk23 q⟩
theorem Ts.Fit.start : Ts.Fit Ts.start := ⟨by decide, by decide, rfl, ⟨by decide, by decide, by decide⟩, ⟨fun _ => rfl, fun q => absurd q (by decide)⟩, fun q => absurd q (by decide)⟩
/-- one of four names: no '<' in it, not empty -/
theorem Ts.four_names (h : ByteArray) (hk : Ts.kind h = 2 ∨ Ts.kind h = 3 ∨ Ts.kind h = 4) : 0 < h.size ∧ ∀ x ∈ h.data.toList, x ≠ 60 := by
  have key : h.data.toList = [116, 105, 116, 108, 101] ∨ h.data.toList = [116, 101, 120, 116, 97, 114, 101, 97] ∨ h.data.toList = [115, 99, 114, 105, 112, 116] ∨ h.data.toList = [115, 116, 121, 108, 101] := by
    unfold Ts.kind at hk
    dsimp only at hk
    split at hk
    · omega
    · split at hk
      · next q => rcases q with q | q; exact Or.inl q; exact Or.inr (Or.inl q)
      · split at hk
        · next q => exact Or.inr (Or.inr (Or.inl q))
        · split at hk
          · next q => exact Or.inr (Or.inr (Or.inr q))
          · omega
  have hs : h.size = h.data.toList.length := rfl
  rcases key with e | e | e | e
  all_goals
    refine ⟨by rw [hs, e]; decide, fun x hx => ?_⟩
    rw [e] at hx
    revert x
    decide
end Go.Proofs.YtjbkgokiikbaeaaGreatDoor
/-
  SMALL THINGS for the walks of the reference's Decode.
-/
namespace Go.Proofs.YtjbkgokiikbaeaaGreatDoor
open Go.RowKit
theorem Sz.low (c : UInt8) (w : World) :
    Calls Tryz.prog 72 #[.int .u8 c.toNat] w fun e w' => e = .returned (.int .u8 (Pl.lowB c).toNat) ∧ w' = w := by
  have hc := c.toNat_lt
  have hl := Pl.lowB_toNat c
  generalize (Pl.lowB c).toNat = m at *
  generalize c.toNat = k at *
  by_cases h1 : 65 ≤ k
  · by_cases h2 : k ≤ 90
    · rw [if_pos ⟨h1, h2⟩] at hl
      subst hl
      go_enter Tryz.func72, Tryz.ntmps72
      go_wp2
      go_ret
      exact ⟨by simp, rfl⟩
    · rw [if_neg (by omega)] at hl
      subst hl
      go_enter Tryz.func72, Tryz.ntmps72
      go_wp2
      go_ret
      exact ⟨rfl, rfl⟩
  · rw [if_neg (by omega)] at hl
    subst hl
    go_enter Tryz.func72, Tryz.ntmps72
    go_wp2
    go_ret
    exact ⟨rfl, rfl⟩

theorem Rn.conv {wr : World} {B : Nat} {v : Value} {acc : List UInt8} (h : wr.ownsRow B 5 1 v acc.length (Lib.byteCells acc)) :
    (convert 43 9 v).run Tryz.prog wr = .ok (.string ⟨acc.toArray⟩) wr := by
  rcases h.2 with ⟨rfl, h0⟩ | ⟨g, cap, cur, rfl, _⟩
  · have e : acc = [] := List.eq_nil_of_length_eq_zero h0
    subst e
    rw [run_convert_bytes_string wr 43 9 5 none 0 0 Tryz.underlying43 Tryz.underlying5 Tryz.underlying9]
    simp [Conv.bytesToString]
    rfl
  · refine run_convert_bytes_back (P := Tryz.prog) wr 43 9 5 ⟨g, 0, none⟩ cap acc Tryz.underlying43 Tryz.underlying5 Tryz.underlying9 (fun j hj => ?_)
    have e : (⟨g, 0, none⟩ : Addr).add j = ⟨g, j, none⟩ := by rw [Addr.add_lit, Nat.zero_add]
    rw [e, h.cellAt j (by omega)]
    simp [Lib.byteCells, hj]
theorem Rn.below {w wr w' : World} {v : Value} {n : Nat} {xs : List Value} (hb : Below w.heap.size w wr) (hown : wr.ownsRow w.heap.size 5 1 v n xs) (hg : wr.grownBy w' v.ownBlock) : Below w.heap.size w w' :=
  hb.grown hg hb.size (fun k hk => (hown.lt k hk).1)
theorem Rn.good_rel {w wr w1 : World} {o v' : Value} {acc l : List UInt8} {part : ByteArray} {n : Nat} (hsz : part.size = n) (hb : Below w.heap.size w wr) (hown : wr.ownsRow w.heap.size 5 1 o acc.length (Lib.byteCells acc)) (hp : part.data.toList = l)
    (hown' : w1.ownsRow w.heap.size 5 1 v' (acc.length + n) (Lib.byteCells acc ++ Lib.strCells part)) (hg : wr.grownBy w1 o.ownBlock) :
    w1.ownsRow w.heap.size 5 1 v' (acc ++ l).length (Lib.byteCells (acc ++ l)) ∧ Below w.heap.size w w1 := by
  refine ⟨?_, Rn.below hb hown hg⟩
  rw [Lib.byteCells_append, List.length_append, ← hp, Wk.len_data, hsz]
  exact hown'

theorem Re.beq_true (c : UInt8) (n : Nat) (h : c.toNat = n) : ((c.toNat : Int) == (n : Int)) = true := by rw [h]; exact beq_iff_eq.2 rfl
theorem Re.beq_false (c d : UInt8) (n : Nat) (hd : d.toNat = n) (h : c ≠ d) : ((c.toNat : Int) == (n : Int)) = false :=
  beq_eq_false_iff_ne.2 fun e => h (UInt8.toNat_inj.1 (by rw [hd]; omega))
theorem Rn.one1 (W : World) (x : Int) : ∀ (j : Nat) (u : Value), [Value.int .u8 x][j]? = some u → (W.alloc (.cells #[.int .u8 x] 5)).cell? ((⟨W.heap.size, 0, none⟩ : Addr).add j) = some u := by
  intro j u h
  rw [Addr.add_lit, Nat.zero_add]
  have := World.cell?_alloc_mark W #[.int .u8 x] 5 (0, 0) j
  rw [this]
  simpa using h
theorem Rn.one2 (x : Int) : ∀ u ∈ [Value.int .u8 x], u.oneCell' = true := by
  intro u hu
  simp at hu
  subst hu; rfl
theorem Rn.one_rel {w wr w1 : World} {o v' : Value} {acc : List UInt8} {X : Obj} {c : UInt8} (hb : Below w.heap.size w wr) (hown : wr.ownsRow w.heap.size 5 1 o acc.length (Lib.byteCells acc))
    (hown' : w1.ownsRow w.heap.size 5 1 v' (acc.length + 1) (Lib.byteCells acc ++ [.int .u8 c.toNat])) (hg : (wr.alloc X).grownBy w1 o.ownBlock) :
    w1.ownsRow w.heap.size 5 1 v' (acc ++ [c]).length (Lib.byteCells (acc ++ [c])) ∧ Below w.heap.size w w1 := by
  refine ⟨?_, (hb.alloc hb.size X).grown hg (by have := hb.size; simp; omega) (fun k hk => (hown.lt k hk).1)⟩
  rw [Lib.byteCells_append, List.length_append]
  exact hown'

end Go.Proofs.YtjbkgokiikbaeaaGreatDoor

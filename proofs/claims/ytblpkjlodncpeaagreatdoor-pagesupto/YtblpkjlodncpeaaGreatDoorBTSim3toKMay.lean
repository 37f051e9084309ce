/-
  PLAIN: the reference's scan and the program's reader: within a tag, and its end.
-/
import Derived.Test.YtblpkjlodncpeaaGreatDoorBPSkeltoTSim2
import Derived.Test.YtblpkjlodncpeaaGreatDoorBTFittoRefTok
import Derived.Test.YtblpkjlodncpeaaGreatDoorBPlaintoKPlain
namespace Go.Proofs.YtblpkjlodncpeaaGreatDoor
theorem Rf.setLast (al : List (ByteArray × ByteArray)) (A V : ByteArray) : Rd.setLast (al ++ [(A, Ts.e)]) V = al ++ [(A, V)] := by
 unfold Rd.setLast
 rw [List.length_append]
 show List.modify _ (al.length + 1 - 1) _ = _
 rw [Nat.add_sub_cancel]
 induction al with
 | nil => rfl
 | cons a al ih => exact congrArg (a :: ·) ih
theorem Rd.tags_in (P : ByteArray) (r : Rd) (N was : Ts) (o i : Nat) (h : 3 ≤ N.pl ∧ N.pl < 19) : Rd.tags P (Rd.moved r N o) was i = Rd.readAttr P (Rd.moved r N o) was N i := by
 unfold Rd.tags
 dsimp only
 rw [if_neg (by show ¬ Rd.loose N.pl = true; rw [Rf.loose_false h]; decide)]
 rfl
theorem Rd.tags_out (P : ByteArray) (r : Rd) (N was : Ts) (o i : Nat) (h : N.pl < 3 ∨ 19 ≤ N.pl) : Rd.tags P (Rd.moved r N o) was i = (Rd.readAttr P (Rd.moved r N o) was N i).tellTag was i := by
 unfold Rd.tags
 dsimp only
 rw [if_pos (by show Rd.loose N.pl = true; exact Rf.loose_true h)]
 rfl
theorem Rd.readAttr_same (P : ByteArray) (r : Rd) (N was : Ts) (o i : Nat) (h : was.pl = N.pl ∨ (was.pl ≠ 5 ∧ was.pl ≠ 7 ∧ was.pl ≠ 8 ∧ was.pl ≠ 9 ∧ was.pl ≠ 10)) : Rd.readAttr P (Rd.moved r N o) was N i = Rd.moved r N o := by
 unfold Rd.readAttr
 rcases h with h | h
 ·
  rw [if_pos h]
 ·
  by_cases e : was.pl = N.pl
  ·
   rw [if_pos e]
  ·
   rw [if_neg e, if_neg h.1, if_neg h.2.1, if_neg (by omega)]
theorem Rd.readAttr_add (P : ByteArray) (r : Rd) (N was : Ts) (o i : Nat) (h1 : was.pl = 5) (h2 : N.pl ≠ 5) : Rd.readAttr P (Rd.moved r N o) was N i = (Rd.moved r N o).addAttr was.attr := by
 unfold Rd.readAttr
 rw [if_neg (by omega), if_pos h1]
theorem Rd.readAttr_begin (P : ByteArray) (r : Rd) (N was : Ts) (o i : Nat) (h1 : was.pl = 7) (h2 : N.pl ≠ 7) : Rd.readAttr P (Rd.moved r N o) was N i = { Rd.moved r N o with value := if N.pl = 10 then i else i + 1 } := by
 unfold Rd.readAttr
 rw [if_neg (by omega), if_neg (by omega), if_pos h1]
theorem Rd.readAttr_set (P : ByteArray) (r : Rd) (N was : Ts) (o i : Nat) (h1 : was.pl = 8 ∨ was.pl = 9 ∨ was.pl = 10) (h2 : was.pl ≠ N.pl) : Rd.readAttr P (Rd.moved r N o) was N i = if r.taken = true then { Rd.moved r N o with attrs := Rd.setLast r.attrs (Rd.dec (P.extract r.value i)) } else Rd.moved r N o := by
 unfold Rd.readAttr
 rw [if_neg h2, if_neg (by omega), if_neg (by omega), if_pos h1]
 rfl
theorem Rf.Att.added {P : ByteArray} {i : Nat} {x : Rf} {r : Rd} (h : Rf.Att P i x r) (hk : r.st.pl = 5) (N : Ts) (o : Nat) : ((Rd.moved r N o).addAttr r.st.attr).attrs = x.commit.attrs ∧ ((Rd.moved r N o).addAttr r.st.attr).taken = x.fresh := by
 obtain ⟨a1, a2, a3, a4⟩ := h.a5 hk
 have hc := Rf.commit_attrs x
 rw [a3, Rf.dec_e] at hc
 unfold Rd.addAttr
 have e1 : (Rd.moved r N o).attrs = x.attrs := a4
 rw [e1, ← a2]
 by_cases hf : x.fresh = true
 ·
  have hf' := hf
  unfold Rf.fresh at hf'
  simp only [Bool.and_eq_true, Bool.not_eq_true', decide_eq_true_eq] at hf'
  rw [if_pos ⟨hf'.2, hf'.1⟩, hc, if_pos ⟨a1, hf⟩]
  exact ⟨rfl, hf.symm⟩
 ·
  have hf' : ¬ (x.attrs.length < 32 ∧ x.attrs.any (fun a => decide (a.1 = x.pn)) = false) := by
   intro q
   apply hf
   unfold Rf.fresh
   simp only [Bool.and_eq_true, Bool.not_eq_true', decide_eq_true_eq]
   exact ⟨q.2, q.1⟩
  rw [if_neg hf', hc, if_neg (fun q => hf q.2)]
  exact ⟨rfl, by simpa using hf⟩
theorem Rd.addAttr_more (r : Rd) (n : ByteArray) : (r.addAttr n).st = r.st ∧ (r.addAttr n).toks = r.toks ∧ (r.addAttr n).value = r.value ∧ (r.addAttr n).text = r.text ∧ (r.addAttr n).opn = r.opn := by
 unfold Rd.addAttr
 split <;> exact ⟨rfl, rfl, rfl, rfl, rfl⟩
theorem Rf.Att.set {P : ByteArray} {i : Nat} {x : Rf} {r : Rd} (h : Rf.Att P i x r) (hk : r.st.pl = 8 ∨ r.st.pl = 9 ∨ r.st.pl = 10) (N : Ts) (o : Nat) : (if r.taken = true then ({ Rd.moved r N o with attrs := Rd.setLast r.attrs (Rd.dec (P.extract r.value i)) } : Rd) else Rd.moved r N o).attrs = x.commit.attrs := by
 obtain ⟨a1, a2, _, a3, a4⟩ := h.a8 hk
 have hc := Rf.commit_attrs x
 rw [a3]
 by_cases hf : x.fresh = true
 ·
  rw [if_pos hf, hc, if_pos ⟨a1, hf⟩]
  rw [if_pos hf] at a4
  show Rd.setLast r.attrs _ = _
  rw [a4, Rf.setLast, a2]
 ·
  rw [if_neg hf, hc, if_neg (fun q => hf q.2)]
  rw [if_neg hf] at a4
  exact a4
theorem Rf.Att.leave {P : ByteArray} {i : Nat} {x : Rf} {r : Rd} (h : Rf.Att P i x r) (N : Ts) (_hk : 3 ≤ r.st.pl ∧ r.st.pl ≤ 12) (hN : N.pl < 3 ∨ 12 < N.pl) (o : Nat) : (Rd.readAttr P (Rd.moved r N o) r.st N i).attrs = x.commit.attrs ∧ (Rd.readAttr P (Rd.moved r N o) r.st N i).toks = r.toks ∧ (Rd.readAttr P (Rd.moved r N o) r.st N i).st = N := by
 by_cases h5 : r.st.pl = 5
 ·
  rw [Rd.readAttr_add P r N r.st o i h5 (by omega)]
  obtain ⟨m1, m2, _⟩ := Rd.addAttr_more (Rd.moved r N o) r.st.attr
  exact ⟨(h.added h5 N o).1, m2, m1⟩
 by_cases h7 : r.st.pl = 7
 ·
  rw [Rd.readAttr_begin P r N r.st o i h7 (by omega)]
  exact ⟨h.a1 (by omega) (by omega) (by omega) (by omega), rfl, rfl⟩
 by_cases h8 : r.st.pl = 8 ∨ r.st.pl = 9 ∨ r.st.pl = 10
 ·
  rw [Rd.readAttr_set P r N r.st o i h8 (by omega)]
  refine ⟨h.set h8 N o, ?_, ?_⟩ <;> (split <;> rfl)
 ·
  rw [Rd.readAttr_same P r N r.st o i (Or.inr (by omega))]
  exact ⟨h.a1 h5 (by omega) (by omega) (by omega), rfl, rfl⟩
theorem Rf.Sim.tagEnds {P : ByteArray} {i : Nat} {x : Rf} {r : Rd} (h : Rf.Sim P i x r) (N : Ts) (hk : 3 ≤ r.st.pl ∧ r.st.pl ≤ 12) (hN : N.pl = 0 ∨ N.pl = 19) (ok : Rd.Ok (Rd.go P r N r.opn i) (i + 1)) (hf : Ts.Fine N) : Rf.Sim P (i + 1) (Rf.go P x N i) (Rd.go P r N r.opn i) := by
 have hs := h.st
 have ha := h.tag hk.1 hk.2
 have ht := h.other (by omega) (by omega)
 obtain ⟨l1, l2, l3⟩ := ha.leave N hk (by omega) r.opn
 rw [Rd.go_tags P r N r.opn i hk, Rd.tags_out P r N r.st r.opn i (by omega)] at ok ⊢
 rw [Rf.go_emit P x N i (Or.inr ⟨by rw [hs]; exact hk, by unfold Rf.inTag; omega⟩)]
 generalize Rd.readAttr P (Rd.moved r N r.opn) r.st N i = r2 at *
 obtain ⟨t1, t2, t3, t4⟩ := Rd.tellTag_facts r2 r.st i
 have hheld : r.st.held = Ts.e := h.fine.low (by omega)
 have hca := Rf.moved_commit x N
 obtain ⟨m1, m2, m3, m4, m5, m6⟩ := Rf.commit_rest (Rf.moved x N)
 obtain ⟨f1, f2, f3⟩ := Rf.flush_rest (Rf.moved x N).commit
 have hst : (r2.tellTag r.st i).st = N := t1.trans l3
 unfold Rf.emit
 refine Rf.Sim.ofPlain (by rw [hst]; exact hN) ?_ ok (by rw [hst]; exact hf) ?_ (f3.trans m5) rfl t4 (fun q => absurd (Rf.flush_buf _) q) rfl ?_
 ·
  rw [hst]
  exact f1.trans m1
 ·
  show (r2.tellTag r.st i).toks = (Rf.moved x N).commit.flush.out ++ [Rf.tag x.st (Rf.moved x N).commit.flush.attrs]
  rw [Rf.flush_out, m2, m3, m4, f2, hca, hs]
  have e : (r2.tellTag r.st i).toks = r2.toks ++ [Rf.tag r.st r2.attrs] := by
   unfold Rd.tellTag Rf.tag
   by_cases q : r.st.fin = true
   ·
    rw [if_pos q, if_pos (Or.inl q), if_neg (by rw [hheld]; simp)]
    rfl
   ·
    rw [if_neg q, if_neg (by rintro (a | a); exact q a; exact a hheld)]
    rfl
  rw [e, l2, l1, ht]
  rfl
 ·
  show (Rf.moved x N).commit.flush.buf = Rf.sl P (r2.tellTag r.st i).text (i + 1)
  rw [Rf.flush_buf, t2, Rf.sl_nil]
theorem Rf.Sim.tagOn {P : ByteArray} {i : Nat} {x : Rf} {r : Rd} (h : Rf.Sim P i x r) (N : Ts) (hk : r.st.pl = 3 ∨ r.st.pl = 4 ∨ r.st.pl = 6 ∨ r.st.pl = 7 ∨ r.st.pl = 11 ∨ r.st.pl = 12) (hN : N.pl = 3 ∨ N.pl = 4 ∨ N.pl = 6 ∨ N.pl = 7 ∨ N.pl = 12) (hp : (N.pl = 6 ∨ N.pl = 7) → (r.st.pl = 6 ∨ r.st.pl = 7)) (h7 : r.st.pl = 7 → N.pl = 7) (ok : Rd.Ok (Rd.go P r N r.opn i) (i + 1)) (hf : Ts.Fine N) : Rf.Sim P (i + 1) (Rf.go P x N i) (Rd.go P r N r.opn i) := by
 have ha := h.tag (by omega) (by omega)
 have ht := h.other (by omega) (by omega)
 rw [Rd.go_tags P r N r.opn i (by omega), Rd.tags_in P r N r.st r.opn i (by omega), Rd.readAttr_same P r N r.st r.opn i (by omega)] at ok ⊢
 rw [Rf.go_value P x N i (Or.inr (by omega)) (by unfold Rf.inTag; omega)]
 have hv : (Rf.moved x N).value P x.st i = Rf.moved x N := by
  unfold Rf.value
  have e : (Rf.moved x N).st.pl = N.pl := rfl
  rw [if_neg (by rw [e]; omega), if_neg (by rw [e]; omega), if_neg (by rw [e]; omega)]
 rw [hv]
 refine Rf.Sim.ofTag (by show 3 ≤ N.pl ∧ N.pl ≤ 12; omega) rfl ok hf ht ⟨fun _ _ _ _ => ?_, fun q => ?_, fun q => ?_, fun q => ?_⟩
 ·
  rw [Rf.moved_commit]
  exact ha.a1 (by omega) (by omega) (by omega) (by omega)
 ·
  have q : N.pl = 5 := q
  omega
 ·
  exact ha.a67 (hp q)
 ·
  have q : N.pl = 8 ∨ N.pl = 9 ∨ N.pl = 10 := q
  omega
theorem Rf.Sim.nameBegins {P : ByteArray} {i : Nat} {x : Rf} {r : Rd} (h : Rf.Sim P i x r) (N : Ts) (hk : r.st.pl = 4 ∨ r.st.pl = 6 ∨ r.st.pl = 11 ∨ r.st.pl = 12) (hN : N.pl = 5) (ok : Rd.Ok (Rd.go P r N r.opn i) (i + 1)) (hf : Ts.Fine N) : Rf.Sim P (i + 1) (Rf.go P x N i) (Rd.go P r N r.opn i) := by
 have hs := h.st
 have ha := h.tag (by omega) (by omega)
 have ht := h.other (by omega) (by omega)
 rw [Rd.go_tags P r N r.opn i (by omega), Rd.tags_in P r N r.st r.opn i (by omega), Rd.readAttr_same P r N r.st r.opn i (by omega)] at ok ⊢
 rw [Rf.go_value P x N i (Or.inr (by omega)) (by unfold Rf.inTag; omega)]
 obtain ⟨m1, m2, m3, m4, m5, m6⟩ := Rf.commit_rest (Rf.moved x N)
 have hv : (Rf.moved x N).value P x.st i = { (Rf.moved x N).commit with has := true, pn := N.attr, pv := Ts.e } := by
  unfold Rf.value
  rw [if_pos ⟨hN, by rw [hs]; omega⟩]
  rfl
 rw [hv]
 refine Rf.Sim.ofTag (by show 3 ≤ N.pl ∧ N.pl ≤ 12; omega) m1 ok hf ?_ ⟨fun q => absurd hN q, fun _ => ⟨rfl, rfl, rfl, ?_⟩, fun q => ?_, fun q => ?_⟩
 ·
  show r.toks = (Rf.moved x N).commit.out ++ Rf.txts (Rf.moved x N).commit.buf (Rf.moved x N).commit.raw
  rw [m2, m3, m4]
  exact ht
 ·
  show r.attrs = (Rf.moved x N).commit.attrs
  rw [Rf.moved_commit]
  exact ha.a1 (by omega) (by omega) (by omega) (by omega)
 ·
  have q : N.pl = 6 ∨ N.pl = 7 := q
  omega
 ·
  have q : N.pl = 8 ∨ N.pl = 9 ∨ N.pl = 10 := q
  omega
theorem Rf.Sim.nameOn {P : ByteArray} {i : Nat} {x : Rf} {r : Rd} (h : Rf.Sim P i x r) (N : Ts) (hk : r.st.pl = 5) (hN : N.pl = 5) (ok : Rd.Ok (Rd.go P r N r.opn i) (i + 1)) (hf : Ts.Fine N) : Rf.Sim P (i + 1) (Rf.go P x N i) (Rd.go P r N r.opn i) := by
 have hs := h.st
 have ha := h.tag (by omega) (by omega)
 have ht := h.other (by omega) (by omega)
 obtain ⟨a1, a2, a3, a4⟩ := ha.a5 hk
 rw [Rd.go_tags P r N r.opn i (by omega), Rd.tags_in P r N r.st r.opn i (by omega), Rd.readAttr_same P r N r.st r.opn i (by omega)] at ok ⊢
 rw [Rf.go_value P x N i (Or.inr (by omega)) (by unfold Rf.inTag; omega)]
 have hv : (Rf.moved x N).value P x.st i = { Rf.moved x N with pn := N.attr } := by
  unfold Rf.value
  rw [if_neg (by rw [hs]; omega), if_pos (show (Rf.moved x N).st.pl = 5 from hN)]
  rfl
 rw [hv]
 refine Rf.Sim.ofTag (by show 3 ≤ N.pl ∧ N.pl ≤ 12; omega) rfl ok hf ht ⟨fun q => absurd hN q, fun _ => ⟨a1, rfl, a3, a4⟩, fun q => ?_, fun q => ?_⟩
 ·
  have q : N.pl = 6 ∨ N.pl = 7 := q
  omega
 ·
  have q : N.pl = 8 ∨ N.pl = 9 ∨ N.pl = 10 := q
  omega
theorem Rf.Sim.nameEnds {P : ByteArray} {i : Nat} {x : Rf} {r : Rd} (h : Rf.Sim P i x r) (N : Ts) (hk : r.st.pl = 5) (hN : N.pl = 6 ∨ N.pl = 7 ∨ N.pl = 12) (ok : Rd.Ok (Rd.go P r N r.opn i) (i + 1)) (hf : Ts.Fine N) : Rf.Sim P (i + 1) (Rf.go P x N i) (Rd.go P r N r.opn i) := by
 have hs := h.st
 have ha := h.tag (by omega) (by omega)
 have ht := h.other (by omega) (by omega)
 obtain ⟨a1, a2, a3, a4⟩ := ha.a5 hk
 obtain ⟨b1, b2⟩ := ha.added hk N r.opn
 obtain ⟨m1, m2, m3, m4, m5⟩ := Rd.addAttr_more (Rd.moved r N r.opn) r.st.attr
 rw [Rd.go_tags P r N r.opn i (by omega), Rd.tags_in P r N r.st r.opn i (by omega), Rd.readAttr_add P r N r.st r.opn i hk (by omega)] at ok ⊢
 rw [Rf.go_value P x N i (Or.inr (by omega)) (by unfold Rf.inTag; omega)]
 have hv : (Rf.moved x N).value P x.st i = Rf.moved x N := by
  unfold Rf.value
  have e : (Rf.moved x N).st.pl = N.pl := rfl
  rw [if_neg (by rw [e]; omega), if_neg (by rw [e]; omega), if_neg (by rw [e, hs]; omega)]
 rw [hv]
 generalize (Rd.moved r N r.opn).addAttr r.st.attr = r2 at *
 have hst : r2.st = N := m1
 refine Rf.Sim.ofTag (by rw [hst]; omega) hst.symm ok (by rw [hst]; exact hf) (m2.trans ht) ⟨fun _ _ _ _ => by rw [Rf.moved_commit]; exact b1, fun q => ?_, fun _ => ⟨a1, a3, b2⟩, fun q => ?_⟩
 ·
  rw [hst] at q; omega
 ·
  rw [hst] at q; omega
theorem Rf.Sim.valueBegins {P : ByteArray} {i : Nat} {x : Rf} {r : Rd} (h : Rf.Sim P i x r) (N : Ts) (hk : r.st.pl = 7) (hN : N.pl = 8 ∨ N.pl = 9 ∨ N.pl = 10) (ok : Rd.Ok (Rd.go P r N r.opn i) (i + 1)) (hf : Ts.Fine N) : Rf.Sim P (i + 1) (Rf.go P x N i) (Rd.go P r N r.opn i) := by
 have hs := h.st
 have ha := h.tag (by omega) (by omega)
 have ht := h.other (by omega) (by omega)
 obtain ⟨a1, a2, a3⟩ := ha.a67 (Or.inr hk)
 have a4 := ha.a1 (by omega) (by omega) (by omega) (by omega)
 rw [Rf.commit_attrs, a2, Rf.dec_e] at a4
 have a5 : r.attrs = if x.fresh = true then x.attrs ++ [(x.pn, Ts.e)] else x.attrs := by
  rw [a4]
  by_cases q : x.fresh = true
  ·
   rw [if_pos ⟨a1, q⟩, if_pos q]
  ·
   rw [if_neg (fun z => q z.2), if_neg q]
 rw [Rd.go_tags P r N r.opn i (by omega), Rd.tags_in P r N r.st r.opn i (by omega), Rd.readAttr_begin P r N r.st r.opn i hk (by omega)] at ok ⊢
 rw [Rf.go_value P x N i (Or.inr (by omega)) (by unfold Rf.inTag; omega)]
 have e : (Rf.moved x N).st.pl = N.pl := rfl
 by_cases h10 : N.pl = 10
 ·
  have hv : (Rf.moved x N).value P x.st i = { Rf.moved x N with pv := x.pv ++ P.extract i (i + 1) } := by
   unfold Rf.value
   rw [if_neg (by rw [e]; omega), if_neg (by rw [e]; omega), if_pos (by rw [e]; omega)]
   rfl
  rw [hv]
  rw [if_pos h10] at ok ⊢
  refine Rf.Sim.ofTag (by show 3 ≤ N.pl ∧ N.pl ≤ 12; omega) rfl ok hf ht ⟨fun _ _ _ q => absurd h10 q, fun q => ?_, fun q => ?_, fun _ => ⟨a1, ?_, by show i ≤ i + 1; omega, a3, a5⟩⟩
  ·
   have q : N.pl = 5 := q
   omega
  ·
   have q : N.pl = 6 ∨ N.pl = 7 := q
   omega
  ·
   show x.pv ++ P.extract i (i + 1) = P.extract i (i + 1)
   rw [a2]
   apply ByteArray.ext
   simp [ByteArray.data_append, Ts.e]
 ·
  have hv : (Rf.moved x N).value P x.st i = Rf.moved x N := by
   unfold Rf.value
   rw [if_neg (by rw [e]; omega), if_neg (by rw [e]; omega), if_neg (by rw [e, hs]; omega)]
  rw [hv]
  rw [if_neg h10] at ok ⊢
  refine Rf.Sim.ofTag (by show 3 ≤ N.pl ∧ N.pl ≤ 12; omega) rfl ok hf ht ⟨fun _ q1 q2 q3 => by rcases hN with z | z | z; exact absurd z q1; exact absurd z q2; exact absurd z q3, fun q => ?_, fun q => ?_, fun _ => ⟨a1, ?_, Nat.le_refl _, a3, a5⟩⟩
  ·
   have q : N.pl = 5 := q
   omega
  ·
   have q : N.pl = 6 ∨ N.pl = 7 := q
   omega
  ·
   show x.pv = P.extract (i + 1) (i + 1)
   rw [a2, Rf.ext_nil]
theorem Rf.Sim.valueOn {P : ByteArray} {i : Nat} {x : Rf} {r : Rd} (h : Rf.Sim P i x r) (N : Ts) (hk : r.st.pl = 8 ∨ r.st.pl = 9 ∨ r.st.pl = 10) (hN : N.pl = r.st.pl) (ok : Rd.Ok (Rd.go P r N r.opn i) (i + 1)) (hf : Ts.Fine N) : Rf.Sim P (i + 1) (Rf.go P x N i) (Rd.go P r N r.opn i) := by
 have hs := h.st
 have ha := h.tag (by omega) (by omega)
 have ht := h.other (by omega) (by omega)
 obtain ⟨a1, a2, a2', a3, a4⟩ := ha.a8 hk
 rw [Rd.go_tags P r N r.opn i (by omega), Rd.tags_in P r N r.st r.opn i (by omega), Rd.readAttr_same P r N r.st r.opn i (Or.inl hN.symm)] at ok ⊢
 rw [Rf.go_value P x N i (Or.inr (by omega)) (by unfold Rf.inTag; omega)]
 have e : (Rf.moved x N).st.pl = N.pl := rfl
 have hv : (Rf.moved x N).value P x.st i = { Rf.moved x N with pv := x.pv ++ P.extract i (i + 1) } := by
  unfold Rf.value
  rw [if_neg (by rw [e]; omega), if_neg (by rw [e]; omega), if_pos (by rw [e, hs]; omega)]
  rfl
 rw [hv]
 refine Rf.Sim.ofTag (by show 3 ≤ N.pl ∧ N.pl ≤ 12; omega) rfl ok hf ht ⟨fun _ q1 q2 q3 => by
  have q1 : N.pl ≠ 8 := q1
  have q2 : N.pl ≠ 9 := q2
  have q3 : N.pl ≠ 10 := q3
  omega, fun q => ?_, fun q => ?_, fun _ => ⟨a1, ?_, by show r.value ≤ i + 1; omega, a3, a4⟩⟩
 ·
  have q : N.pl = 5 := q
  omega
 ·
  have q : N.pl = 6 ∨ N.pl = 7 := q
  omega
 ·
  show x.pv ++ P.extract i (i + 1) = P.extract r.value (i + 1)
  rw [a2, Rf.ext_append P _ _ a2']
theorem Rf.Sim.valueEnds {P : ByteArray} {i : Nat} {x : Rf} {r : Rd} (h : Rf.Sim P i x r) (N : Ts) (hk : r.st.pl = 8 ∨ r.st.pl = 9 ∨ r.st.pl = 10) (hN : N.pl = 11 ∨ N.pl = 4) (ok : Rd.Ok (Rd.go P r N r.opn i) (i + 1)) (hf : Ts.Fine N) : Rf.Sim P (i + 1) (Rf.go P x N i) (Rd.go P r N r.opn i) := by
 have ha := h.tag (by omega) (by omega)
 have ht := h.other (by omega) (by omega)
 have hset := ha.set hk N r.opn
 rw [Rd.go_tags P r N r.opn i (by omega), Rd.tags_in P r N r.st r.opn i (by omega), Rd.readAttr_set P r N r.st r.opn i hk (by omega)] at ok ⊢
 rw [Rf.go_value P x N i (Or.inr (by omega)) (by unfold Rf.inTag; omega)]
 have hv : (Rf.moved x N).value P x.st i = Rf.moved x N := by
  unfold Rf.value
  have e : (Rf.moved x N).st.pl = N.pl := rfl
  rw [if_neg (by rw [e]; omega), if_neg (by rw [e]; omega), if_neg (by rw [e]; omega)]
 rw [hv]
 have hst : (if r.taken = true then ({ Rd.moved r N r.opn with attrs := Rd.setLast r.attrs (Rd.dec (P.extract r.value i)) } : Rd) else Rd.moved r N r.opn).st = N := by split <;> rfl
 have hto : (if r.taken = true then ({ Rd.moved r N r.opn with attrs := Rd.setLast r.attrs (Rd.dec (P.extract r.value i)) } : Rd) else Rd.moved r N r.opn).toks = r.toks := by split <;> rfl
 generalize (if r.taken = true then ({ Rd.moved r N r.opn with attrs := Rd.setLast r.attrs (Rd.dec (P.extract r.value i)) } : Rd) else Rd.moved r N r.opn) = r2 at *
 refine Rf.Sim.ofTag (by rw [hst]; omega) hst.symm ok (by rw [hst]; exact hf) (hto.trans ht) ⟨fun _ _ _ _ => by rw [Rf.moved_commit]; exact hset, fun q => ?_, fun q => ?_, fun q => ?_⟩
 ·
  rw [hst] at q; omega
 ·
  rw [hst] at q; omega
 ·
  rw [hst] at q; omega
theorem Ts.step_held (s : Ts) (c : UInt8) (k : Nat) (hk : s.pl = (k : Int)) (hk2 : k < 3 ∨ (19 ≤ k ∧ k < 23)) (hf : Ts.Fine s) (hN : (s.step c).pl < 3 ∨ 19 ≤ (s.step c).pl) : (s.step c).held = s.held ∨ (s.step c).pl = 0 := by
 have hk23 : k < 23 := by omega
 have hF := Ts.Fine.step hf c k hk hk23
 rcases hk2 with h | h
 ·
  left
  have hn := Ts.step_next s c k hk hk23
  have hlt : (s.step c).pl < 19 := by
   have hcase : k = 0 ∨ k = 1 ∨ k = 2 := by omega
   rcases hcase with e | e | e
   all_goals subst e
   all_goals simp only [Ts.nexts, List.mem_cons, List.not_mem_nil, or_false] at hn
   all_goals omega
  rw [hF.low hlt, hf.low (by omega)]
 ·
  by_cases h0 : (s.step c).pl = 0
  ·
   exact Or.inr h0
  ·
   left
   rw [Ts.step_at s c k hk hk23] at hN h0 ⊢
   have hh : (s.to k).held = s.held := by
    show (if 19 ≤ (k : Int) then s.held else Ts.e) = s.held
    rw [if_pos (by omega)]
   have hto : ∀ a : Int, 19 ≤ a → ((s.to k).to a).held = s.held := fun a ha => by
    show (if 19 ≤ a then (s.to k).held else Ts.e) = s.held
    rw [if_pos ha, hh]
   have hcase : k = 19 ∨ k = 20 ∨ k = 21 ∨ k = 22 := by omega
   have hon : ((s.to k).heldOn c).held = s.held := by
    unfold Ts.heldOn
    split <;> exact hto _ (by decide)
   generalize s.to k = t at *
   rcases hcase with e | e | e | e
   all_goals subst e
   ·
    show (t.heldS c).held = s.held
    unfold Ts.heldS
    split
    ·
     exact hto _ (by decide)
    ·
     exact hh
   ·
    show (t.heldLt c).held = s.held
    unfold Ts.heldLt
    repeat' split
    ·
     exact hto _ (by decide)
    ·
     exact hh
    ·
     exact hto _ (by decide)
   ·
    show (t.heldSlash c).held = s.held
    unfold Ts.heldSlash
    split
    ·
     exact hto 22 (by decide)
    ·
     exact hon
   ·
    have hN : (t.heldName c).pl < 3 ∨ 19 ≤ (t.heldName c).pl := hN
    have h0 : ¬ (t.heldName c).pl = 0 := h0
    show (t.heldName c).held = s.held
    unfold Ts.heldName at hN h0 ⊢
    by_cases q1 : Ts.heldAt t c = true
    ·
     rw [if_pos q1]
     exact hh
    ·
     rw [if_neg q1] at hN h0 ⊢
     by_cases q2 : t.read < t.held.size
     ·
      rw [if_pos q2]
      exact hon
     ·
      rw [if_neg q2] at hN h0 ⊢
      by_cases q3 : Ts.blank c = true
      ·
       rw [if_pos q3] at hN
       exact absurd hN (by show ¬ ((4 : Int) < 3 ∨ 19 ≤ (4 : Int)); decide)
      ·
       rw [if_neg q3] at hN h0 ⊢
       by_cases q4 : c = 47
       ·
        rw [if_pos q4] at hN
        exact absurd hN (by show ¬ ((12 : Int) < 3 ∨ 19 ≤ (12 : Int)); decide)
       ·
        rw [if_neg q4] at hN h0 ⊢
        by_cases q5 : c = 62
        ·
         rw [if_pos q5] at h0
         exact absurd rfl h0
        ·
         rw [if_neg q5]
         exact hon
set_option maxHeartbeats 4000000 in
theorem Rf.Sim.step {P : ByteArray} {i : Nat} {x : Rf} {r : Rd} (h : Rf.Sim P i x r) (c : UInt8) (hP : i < P.size) : Rf.Sim P (i + 1) (Rf.byte P x i c) (Rd.read P r i c) := by
 have hl := h.ok.lo
 have hh := h.ok.hi
 obtain ⟨k, hk⟩ : ∃ k : Nat, r.st.pl = (k : Int) := ⟨r.st.pl.toNat, by omega⟩
 have hk23 : k < 23 := by omega
 have hN := Ts.step_next r.st c k hk hk23
 have ok := h.ok.read (P := P) c
 have hf := Ts.Fine.step h.fine c k hk hk23
 have hheld := fun q1 q2 => Ts.step_held r.st c k hk q1 h.fine q2
 rw [Rd.read_go] at ok ⊢
 unfold Rf.byte
 rw [h.st]
 generalize r.st.step c = N at *
 have hcase : k = 0 ∨ k = 1 ∨ k = 2 ∨ k = 3 ∨ k = 4 ∨ k = 5 ∨ k = 6 ∨ k = 7 ∨ k = 8 ∨ k = 9 ∨ k = 10 ∨ k = 11 ∨ k = 12 ∨ k = 13 ∨ k = 14 ∨ k = 15 ∨ k = 16 ∨ k = 17 ∨ k = 18 ∨ k = 19 ∨ k = 20 ∨ k = 21 ∨ k = 22 := by omega
 by_cases ho : N.pl = 1 ∨ N.pl = 20
 ·
  rw [if_pos ho] at ok ⊢
  have hloose : k < 3 ∨ (19 ≤ k ∧ k < 23) := by
   rcases hcase with e | e | e | e | e | e | e | e | e | e | e | e | e | e | e | e | e | e | e | e | e | e | e
   all_goals subst e
   all_goals simp only [Ts.nexts, List.mem_cons, List.not_mem_nil, or_false] at hN
   all_goals omega
  refine h.openLt N (by omega) ho ?_ ok hf
  rcases hheld hloose (by omega) with e | e
  ·
   exact e
  ·
   omega
 ·
  rw [if_neg ho] at ok ⊢
  rcases hcase with e | e | e | e | e | e | e | e | e | e | e | e | e | e | e | e | e | e | e | e | e | e | e
  all_goals subst e
  all_goals simp only [Ts.nexts, List.mem_cons, List.not_mem_nil, or_false] at hN
  all_goals first
   | (rcases hN with e | e | e | e | e | e)
   | (rcases hN with e | e | e | e | e)
   | (rcases hN with e | e | e | e)
   | (rcases hN with e | e | e)
   | (rcases hN with e | e)
  all_goals first
   | exact absurd (Or.inl e) ho
   | exact absurd (Or.inr e) ho
   | exact h.comCom N (by omega) (by omega) ok hf
   | exact h.comEnd N (by omega) (by omega) ok hf
   | exact h.heldEnds N (by omega) (by omega) (by omega) ok hf
   | exact h.textOn N (by omega) (by omega) (by omega) ok hf
   | exact h.midOn N (by omega) (by omega) (by rcases hheld (by omega) (by omega) with q | q; exact q; omega) ok hf
   | exact h.tagBegins N (by omega) (by omega) (by omega) ok hf
   | exact h.comBegins N (by omega) (by omega) (by omega) ok hf
   | exact h.tagEnds N (by omega) (by omega) ok hf
   | exact h.nameBegins N (by omega) (by omega) ok hf
   | exact h.nameOn N (by omega) (by omega) ok hf
   | exact h.nameEnds N (by omega) (by omega) ok hf
   | exact h.valueBegins N (by omega) (by omega) ok hf
   | exact h.valueOn N (by omega) (by omega) ok hf
   | exact h.valueEnds N (by omega) (by omega) ok hf
   | exact h.tagOn N (by omega) (by omega) (by omega) (by omega) ok hf
theorem Rf.Sim.run {P : ByteArray} : ∀ (l : List UInt8) {x : Rf} {r : Rd} {i : Nat}, Rf.Sim P i x r → i + l.length ≤ P.size → Rf.Sim P (i + l.length) (Rf.run P x i l) (Rd.run P r i l)
 | [], _, _, _, h, _ => h
 | c :: l, x, r, i, h, hP => by
  simp only [List.length_cons] at hP
  have h1 := h.step c (by omega)
  have h2 := Rf.Sim.run l h1 (by omega)
  show Rf.Sim P (i + (l.length + 1)) (Rf.run P (Rf.byte P x i c) (i + 1) l) (Rd.run P (Rd.read P r i c) (i + 1) l)
  rw [show i + (l.length + 1) = i + 1 + l.length by omega]
  exact h2
theorem Rf.Sim.start (P : ByteArray) : Rf.Sim P 0 Rf.start Rd.start :=
 Rf.Sim.ofPlain (Or.inl rfl) rfl Rd.Ok.start ⟨fun _ => rfl, fun q => absurd q (by decide)⟩ rfl rfl rfl rfl (fun q => absurd rfl q) rfl (by rw [show Rd.start.text = 0 from rfl, Rf.sl_nil]; rfl)
theorem Rf.Sim.done {P : ByteArray} {x : Rf} {r : Rd} (h : Rf.Sim P P.size x r) : Rf.done P x = Rd.done P r := by
 have hs := h.st
 have hlo := h.ok.lo
 have hhi := h.ok.hi
 have htx := h.ok.text
 unfold Rf.done Rd.done
 rw [Rf.flush_out]
 by_cases hl : r.st.pl < 3 ∨ 19 ≤ r.st.pl
 ·
  obtain ⟨c1, c2, c3, c4, c5⟩ := h.loose hl
  rw [if_pos (Rf.loose_true hl)]
  by_cases hm : r.st.pl = 0 ∨ r.st.pl = 19
  ·
   obtain ⟨p1, p2⟩ := h.plain hm
   rw [if_neg (by omega), Rd.tellText_toks P r P.size r.st.held htx (Nat.le_refl _) x.raw (fun q => c5 (by rw [p2]; exact q)), c1, p2]
  ·
   obtain ⟨p1, p2⟩ := h.mid (by omega)
   have ho := h.ok.opn (by omega)
   rw [if_pos ⟨by omega, by rw [hs]; unfold Rf.inText; omega⟩, Rd.tellText_toks P r P.size r.st.held htx (Nat.le_refl _) (Rf.isRaw r.st.held) (fun _ => rfl)]
   show x.out ++ Rf.txts (x.buf ++ Rf.sl P x.hold.toNat P.size) (Rf.isRaw x.st.held) = _
   rw [p2, p1, Int.toNat_natCast, Rf.sl_append P _ _ _ ho.1 (by omega), c1, hs]
 ·
  rw [if_neg (by rw [hs]; unfold Rf.inText; omega), if_neg (by rw [Rf.loose_false (by omega)]; decide)]
  exact (h.other (by omega) (by omega)).symm
theorem Rf.tokens_eq (s : ByteArray) : Rf.tokens s = Rd.tokens s := by
 unfold Rf.tokens Rd.tokens
 have hsz : (Rd.page s).size = (Rd.lines s.data.toList).length := by
  show (Rd.lines s.data.toList).toArray.size = _
  simp
 have h := Rf.Sim.run (P := Rd.page s) (Rd.lines s.data.toList) (Rf.Sim.start _) (by omega)
 rw [Nat.zero_add, ← hsz] at h
 exact h.done
structure Rf.Sm (x : Rf) (i : Nat) : Prop where
 pv : x.pv.size ≤ i
 attrs : x.attrs.length ≤ 32
 buf : x.buf.length ≤ i
 hold : 0 ≤ x.hold → x.hold ≤ i ∧ (x.buf.length : Int) ≤ x.hold
 out : x.out.length ≤ 2 * i
theorem Rf.Sm.start : Rf.Sm Rf.start 0 := ⟨Nat.le_refl _, Nat.zero_le _, Nat.le_refl _, fun h => absurd h (by decide), Nat.le_refl _⟩
theorem Rf.commit_len (x : Rf) (h : x.attrs.length ≤ 32) : x.commit.attrs.length ≤ 32 := by
 unfold Rf.commit
 repeat' split
 all_goals first | exact h | (simp only [List.length_append, List.length_singleton]; omega)
theorem Rf.commit_pv (x : Rf) : x.commit.pv = x.pv := by
 unfold Rf.commit
 repeat' split
 all_goals rfl
theorem Rf.flush_pv (x : Rf) : x.flush.pv = x.pv := by
 unfold Rf.flush
 split <;> rfl
theorem Rf.flush_out_len (x : Rf) : x.flush.out.length ≤ x.out.length + 1 := by
 unfold Rf.flush
 split
 ·
  omega
 ·
  simp
theorem Rf.value_st (P : ByteArray) (x : Rf) (was : Ts) (i : Nat) : (x.value P was i).st = x.st := by
 unfold Rf.value
 repeat' split
 all_goals first | rfl | exact (Rf.commit_rest x).1
theorem Rf.emit_st (x : Rf) (was : Ts) : (x.emit was).st = x.st := by
 unfold Rf.emit
 exact (Rf.flush_rest _).1.trans (Rf.commit_rest x).1
theorem Rf.go_st (P : ByteArray) (x : Rf) (N : Ts) (i : Nat) : (Rf.go P x N i).st = N := by
 unfold Rf.go
 dsimp only
 split
 ·
  exact Rf.emit_st _ x.st
 split
 ·
  exact Rf.value_st _ _ _ _
 split
 ·
  exact (Rf.flush_rest _).1
 split
 ·
  rfl
 split
 ·
  split <;> rfl
 split <;> rfl
theorem Rf.byte_st (P : ByteArray) (x : Rf) (i : Nat) (c : UInt8) : (x.byte P i c).st = x.st.step c := Rf.go_st P x _ i
theorem Rf.Sm.go {P : ByteArray} {x : Rf} {i : Nat} (h : Rf.Sm x i) (hi : i < P.size) (N : Ts) : Rf.Sm (Rf.go P x N i) (i + 1) := by
 have hpv := h.pv
 have hat := h.attrs
 have hbf := h.buf
 have hho := h.hold
 have hou := h.out
 unfold Rf.go
 dsimp only
 have hm : Rf.Sm ({ x with st := N } : Rf) (i + 1) := ⟨by show x.pv.size ≤ _; omega, hat, by show x.buf.length ≤ _; omega, fun q => by obtain ⟨a, b⟩ := hho q; exact ⟨by show x.hold ≤ _; omega, b⟩, by show x.out.length ≤ _; omega⟩
 split
 ·
  have h1 := Rf.flush_out_len ({ x with st := N } : Rf).commit
  rw [(Rf.commit_rest _).2.1] at h1
  have h1 : (({ x with st := N } : Rf).commit.flush).out.length ≤ x.out.length + 1 := h1
  refine ⟨?_, Nat.zero_le _, ?_, fun q => absurd q (by show ¬ (0 : Int) ≤ -1; decide), ?_⟩
  ·
   show (({ x with st := N } : Rf).commit.flush).pv.size ≤ _
   rw [Rf.flush_pv, Rf.commit_pv]
   show x.pv.size ≤ _
   omega
  ·
   show (({ x with st := N } : Rf).commit.flush).buf.length ≤ _
   rw [Rf.flush_buf]
   exact Nat.zero_le _
  ·
   show ((({ x with st := N } : Rf).commit.flush).out ++ [_]).length ≤ _
   rw [List.length_append]
   simp only [List.length_singleton]
   omega
 split
 ·
  unfold Rf.value
  split
  ·
   have hc := Rf.commit_rest ({ x with st := N } : Rf)
   refine ⟨Nat.zero_le _, Rf.commit_len _ hat, ?_, ?_, ?_⟩
   ·
    show ({ x with st := N } : Rf).commit.buf.length ≤ _
    rw [hc.2.2.1]
    exact hm.buf
   ·
    show 0 ≤ ({ x with st := N } : Rf).commit.hold → ({ x with st := N } : Rf).commit.hold ≤ _ ∧ ((({ x with st := N } : Rf).commit.buf.length : Nat) : Int) ≤ ({ x with st := N } : Rf).commit.hold
    rw [hc.2.2.1, hc.2.2.2.2.2]
    exact hm.hold
   ·
    show ({ x with st := N } : Rf).commit.out.length ≤ _
    rw [hc.2.1]
    exact hm.out
  split
  ·
   exact ⟨hm.pv, hm.attrs, hm.buf, hm.hold, hm.out⟩
  split
  ·
   refine ⟨?_, hm.attrs, hm.buf, hm.hold, hm.out⟩
   show (x.pv ++ P.extract i (i + 1)).size ≤ i + 1
   rw [ByteArray.size_append, ByteArray.size_extract]
   omega
  ·
   exact hm
 split
 ·
  have h1 := Rf.flush_out_len ({ x with st := N } : Rf)
  have h1 : (({ x with st := N } : Rf).flush).out.length ≤ x.out.length + 1 := h1
  refine ⟨?_, ?_, ?_, fun q => absurd q (by show ¬ (0 : Int) ≤ -1; decide), ?_⟩
  ·
   show (({ x with st := N } : Rf).flush).pv.size ≤ _
   rw [Rf.flush_pv]
   exact hm.pv
  ·
   show (({ x with st := N } : Rf).flush).attrs.length ≤ _
   rw [(Rf.flush_rest _).2.1]
   exact hat
  ·
   show (({ x with st := N } : Rf).flush).buf.length ≤ _
   rw [Rf.flush_buf]
   exact Nat.zero_le _
  ·
   show ((({ x with st := N } : Rf).flush).out ++ [_]).length ≤ _
   rw [List.length_append]
   simp only [List.length_singleton]
   omega
 split
 ·
  exact hm
 split
 ·
  split
  ·
   next q =>
   obtain ⟨a, b⟩ := hho q
   have hl := Rf.sl_len P x.hold.toNat i (by omega)
   have hb : (x.buf ++ Rf.sl P x.hold.toNat i).length ≤ i := by rw [List.length_append, hl]; omega
   refine ⟨hm.pv, hat, ?_, fun _ => ?_, hm.out⟩
   ·
    show (x.buf ++ Rf.sl P x.hold.toNat i).length ≤ i + 1
    omega
   ·
    show (i : Int) ≤ ((i + 1 : Nat) : Int) ∧ (((x.buf ++ Rf.sl P x.hold.toNat i).length : Nat) : Int) ≤ (i : Int)
    omega
  ·
   refine ⟨hm.pv, hat, hm.buf, fun _ => ?_, hm.out⟩
   show (i : Int) ≤ ((i + 1 : Nat) : Int) ∧ ((x.buf.length : Nat) : Int) ≤ (i : Int)
   omega
 split
 ·
  refine ⟨hm.pv, hat, ?_, fun q => absurd q (by show ¬ (0 : Int) ≤ -1; decide), hm.out⟩
  show (x.buf ++ Rf.sl P (if 0 ≤ x.hold then x.hold.toNat else i) (i + 1)).length ≤ i + 1
  rw [List.length_append, Rf.sl_len P _ _ (by omega)]
  split
  ·
   next q =>
   obtain ⟨a, b⟩ := hho q
   omega
  ·
   omega
 ·
  exact hm
theorem Rf.run_snoc (P : ByteArray) : ∀ (l : List UInt8) (x : Rf) (i : Nat) (c : UInt8), Rf.run P x i (l ++ [c]) = Rf.byte P (Rf.run P x i l) (i + l.length) c
 | [], x, i, c => rfl
 | d :: l, x, i, c => by
  show Rf.run P (Rf.byte P x i d) (i + 1) (l ++ [c]) = Rf.byte P (Rf.run P (Rf.byte P x i d) (i + 1) l) (i + (l.length + 1)) c
  rw [Rf.run_snoc P l, show i + 1 + l.length = i + (l.length + 1) by omega]
theorem Rf.Sm.run {P : ByteArray} : ∀ (l : List UInt8) {x : Rf} {i : Nat}, Rf.Sm x i → Ts.Fit x.st → i + l.length ≤ P.size → Rf.Sm (Rf.run P x i l) (i + l.length) ∧ Ts.Fit (Rf.run P x i l).st
 | [], x, i, h, hf, _ => ⟨h, hf⟩
 | c :: l, x, i, h, hf, hl => by
  have hl' : i + (l.length + 1) ≤ P.size := hl
  have := Rf.Sm.run (P := P) l (x := Rf.byte P x i c) (i := i + 1) (h.go (P := P) (by omega) _) (by rw [Rf.byte_st]; exact hf.step c) (by omega)
  rw [show i + 1 + l.length = i + (c :: l).length by simp; omega] at this
  exact this
theorem Rf.Sim.cm {P : ByteArray} {i : Nat} {x : Rf} {r : Rd} (h : Rf.Sim P i x r) (c : UInt8) (h1 : 13 ≤ x.st.pl) (h2 : x.st.pl ≤ 18) (h3 : (x.st.step c).pl = 0) : 0 ≤ x.hold ∧ x.hold + 2 ≤ i ∧ (x.st.pl = 17 → x.hold + 6 ≤ i) := by
 rw [h.st] at h1 h2 h3 ⊢
 obtain ⟨k, hk⟩ : ∃ k : Nat, r.st.pl = (k : Int) := ⟨r.st.pl.toNat, by omega⟩
 have hnx := Ts.step_next r.st c k hk (by omega)
 have ho := h.com h1 h2
 obtain ⟨a, b⟩ := h.ok.cm k hk hnx (o := r.opn) (by rw [h3, if_neg (by decide)]) (Rf.inTag_false (by omega)) (Rf.loose_false (by omega)) (Rf.loose_true (by omega))
 have hx : x.hold = (r.opn : Int) := ho.1
 rw [hx]
 refine ⟨by omega, ?_, fun q => by have := b q; omega⟩
 by_cases q : r.st.pl = 17
 ·
  have := b q; omega
 ·
  have := a q; omega
def Sk.Form (x : Nd) : Prop := x = ⟨0, Ts.e, Ts.e, [], -1⟩ ∨ (x.kind = 1 ∧ x.text = Ts.e) ∨ ((x.kind = 2 ∨ x.kind = 3) ∧ x.name = Ts.e ∧ x.attrs = [])
theorem Sk.form_token {m : Bt} (h : ∀ x ∈ m.out, Sk.Form x) (t : Tk) : ∀ x ∈ (m.token t).out, Sk.Form x := by
 have hn : ∀ y : Nd, Sk.Form { y with parent := (m.top : Int) } → ∀ x ∈ (m.node y).out, Sk.Form x := fun y hy x hx => by
  rcases List.mem_append.1 hx with q | q
  ·
   exact h x q
  ·
   rw [List.mem_singleton.1 q]; exact hy
 unfold Bt.token
 split
 ·
  split
  ·
   exact h
  ·
   split
   ·
    next q =>
    intro x hx
    rcases List.mem_or_eq_of_mem_set hx with r | r
    ·
     exact h x r
    ·
     rw [r]
     have hz : Sk.Form (m.nth m.last) := by
      unfold Bt.nth
      cases e : m.out[m.last]? with
      | none =>
       have hk := q.1
       unfold Bt.nth at hk
       rw [e] at hk
       exact absurd hk (by decide)
      | some z => exact h z (List.mem_of_getElem? e)
     rcases hz with e | e | e
     ·
      have := q.1
      rw [e] at this
      exact absurd this (by decide)
     ·
      have := q.1
      exact absurd (e.1.symm.trans this) (by decide)
     ·
      exact .inr (.inr e)
   ·
    exact hn _ (.inr (.inr ⟨.inl rfl, rfl, rfl⟩))
 split
 ·
  exact hn _ (.inr (.inr ⟨.inr rfl, rfl, rfl⟩))
 split
 ·
  split
  ·
   exact hn _ (.inr (.inl ⟨rfl, rfl⟩))
  ·
   exact hn _ (.inr (.inl ⟨rfl, rfl⟩))
 split
 ·
  split
  ·
   exact h
  ·
   exact h
 ·
  exact h
theorem Sk.form_run : ∀ (ts : List Tk) {m : Bt}, (∀ x ∈ m.out, Sk.Form x) → ∀ x ∈ (Bt.run m ts).1.out, Sk.Form x
 | [], _, h => h
 | t :: ts, m, h => by
  unfold Bt.run
  split
  ·
   exact Sk.form_token h t
  ·
   exact Sk.form_run ts (Sk.form_token h t)
theorem Sk.may_run (ts : List Tk) : Sk.May (Bt.run Bt.start ts).1.out := by
 obtain ⟨D, hS⟩ := Bt.Sh.run ts Bt.Sh.start Bt.Ok.start
 have hf := Sk.form_run ts (m := Bt.start) (fun x hx => .inl (List.mem_singleton.1 hx))
 obtain ⟨r, hr, k0, kp⟩ := hS.root
 have hl : 0 < (Bt.run Bt.start ts).1.out.length := (List.getElem?_eq_some_iff.1 hr).1
 refine ⟨hl, fun i x hi => ?_⟩
 have hx := hf x (List.mem_of_getElem? hi)
 by_cases h0 : i = 0
 ·
  subst h0
  rw [hr] at hi
  injection hi with hi
  subst hi
  rcases hx with e | e | e
  ·
   subst e
   exact .inl ⟨rfl, rfl, rfl, rfl, rfl, rfl⟩
  ·
   have := e.1; omega
  ·
   have := e.1; omega
 ·
  obtain ⟨p, y, dp, e1, e2, e3, e4, e5, _⟩ := hS.node i x (by omega) hi
  refine .inr ⟨by omega, by omega, by omega, ⟨y, by rw [e1]; exact e3, e4⟩, ?_⟩
  rcases hx with e | e | e
  ·
   exact absurd (by rw [e]) e5
  ·
   exact .inl e
  ·
   exact .inr e
end Go.Proofs.YtblpkjlodncpeaaGreatDoor

/-
  PLAIN: text ahead of a page turns no tag and no comment of it.
-/
import Derived.Test.YtblpkjlodncpeaaGreatDoorATSim3toKMay
import Derived.Test.YtblpkjlodncpeaaGreatDoorAKPlaintoNorm
import Derived.Test.YtblpkjlodncpeaaGreatDoorATBoxtoTTell
namespace Go.Proofs.YtblpkjlodncpeaaGreatDoor
/-- two scans of the same bytes, the one's page with k bytes ahead of it -/
structure Ks.Sh (pre : List Tk) (k : Nat) (x y : Rf) : Prop where
  st : x.st = y.st
  hold : (y.hold < 0 ∧ x.hold < 0) ∨ (0 ≤ y.hold ∧ x.hold = y.hold + (k : Int))
  out : Sb.bare x.out = pre ++ Sb.bare y.out
  attrs : x.attrs = y.attrs
  has : x.has = y.has
  pn : y.has = true → x.pn = y.pn
  pv : y.has = true → x.pv = y.pv
theorem Ks.bare_append (a b : List Tk) : Sb.bare (a ++ b) = Sb.bare a ++ Sb.bare b := by unfold Sb.bare; rw [List.filter_append]
theorem Ks.flush_bare (x : Rf) : Sb.bare x.flush.out = Sb.bare x.out := by
  unfold Rf.flush
  split
  · rfl
  · show Sb.bare (x.out ++ [_]) = _
    rw [Ks.bare_append]
    exact List.append_nil _
theorem Ks.Sh.flush {pre : List Tk} {k : Nat} {x y : Rf} (h : Ks.Sh pre k x y) : Ks.Sh pre k x.flush y.flush := by
  have e : ∀ z : Rf, z.flush.hold = z.hold ∧ z.flush.st = z.st ∧ z.flush.attrs = z.attrs ∧ z.flush.has = z.has ∧ z.flush.pn = z.pn ∧ z.flush.pv = z.pv := fun z => by
    unfold Rf.flush
    split <;> exact ⟨rfl, rfl, rfl, rfl, rfl, rfl⟩
  obtain ⟨a1, a2, a3, a4, a5, a6⟩ := e x
  obtain ⟨b1, b2, b3, b4, b5, b6⟩ := e y
  exact ⟨by rw [a2, b2]; exact h.st, by rw [a1, b1]; exact h.hold, by rw [Ks.flush_bare, Ks.flush_bare]; exact h.out, by rw [a3, b3]; exact h.attrs, by rw [a4, b4]; exact h.has, by rw [a5, b5, b4]; exact h.pn, by rw [a6, b6, b4]; exact h.pv⟩
theorem Ks.Sh.commit {pre : List Tk} {k : Nat} {x y : Rf} (h : Ks.Sh pre k x y) : Ks.Sh pre k x.commit y.commit := by
  unfold Rf.commit
  rw [h.has, h.attrs]
  split
  · next q =>
    rw [h.pn q, h.pv q]
    split
    · exact ⟨h.st, h.hold, h.out, rfl, rfl, fun _ => rfl, fun _ => rfl⟩
    · split
      · exact ⟨h.st, h.hold, h.out, rfl, rfl, fun _ => rfl, fun _ => rfl⟩
      · exact ⟨h.st, h.hold, h.out, rfl, rfl, fun _ => rfl, fun _ => rfl⟩
  · exact h
theorem Ks.Sh.moved {pre : List Tk} {k : Nat} {x y : Rf} (h : Ks.Sh pre k x y) (N : Ts) : Ks.Sh pre k (Rf.moved x N) (Rf.moved y N) := ⟨rfl, h.hold, h.out, h.attrs, h.has, h.pn, h.pv⟩
theorem Ks.Sh.adds {pre : List Tk} {k : Nat} {x y : Rf} (h : Ks.Sh pre k x y) (P Q : ByteArray) (a b c d : Nat) : Ks.Sh pre k (x.adds P a b) (y.adds Q c d) := ⟨h.st, h.hold, h.out, h.attrs, h.has, h.pn, h.pv⟩
theorem Ks.Sh.held {pre : List Tk} {k : Nat} {x y : Rf} (h : Ks.Sh pre k x y) {a b : Int} (hab : (b < 0 ∧ a < 0) ∨ (0 ≤ b ∧ a = b + (k : Int))) : Ks.Sh pre k { x with hold := a } { y with hold := b } := ⟨h.st, hab, h.out, h.attrs, h.has, h.pn, h.pv⟩
theorem Ks.Sh.told {pre : List Tk} {k : Nat} {x y : Rf} (h : Ks.Sh pre k x y) (t : Tk) (al : List (ByteArray × ByteArray)) : Ks.Sh pre k { x with out := x.out ++ [t], attrs := al } { y with out := y.out ++ [t], attrs := al } :=
  ⟨h.st, h.hold, by show Sb.bare (x.out ++ [t]) = pre ++ Sb.bare (y.out ++ [t]); rw [Ks.bare_append, Ks.bare_append, h.out, List.append_assoc], rfl, h.has, h.pn, h.pv⟩
theorem Ks.Sh.emit {pre : List Tk} {k : Nat} {x y : Rf} (h : Ks.Sh pre k x y) (was : Ts) : Ks.Sh pre k (x.emit was) (y.emit was) := by
  have hc := h.commit.flush
  unfold Rf.emit
  rw [hc.attrs]
  exact hc.told _ _
/-- the page with k bytes ahead -/
def Ks.Page (P Q : ByteArray) (k : Nat) : Prop := ∀ a b, a ≤ b → b ≤ Q.size → P.extract (a + k) (b + k) = Q.extract a b
theorem Ks.Sh.value {P Q : ByteArray} {pre : List Tk} {k : Nat} {x y : Rf} (h : Ks.Sh pre k x y) (hP : Ks.Page P Q k) (was : Ts) (i : Nat) (hi : i < Q.size) : Ks.Sh pre k (x.value P was (i + k)) (y.value Q was i) := by
  unfold Rf.value
  rw [h.st]
  split
  · have hc := h.commit
    exact ⟨hc.st, hc.hold, hc.out, hc.attrs, rfl, fun _ => rfl, fun _ => rfl⟩
  · split
    · exact ⟨rfl, h.hold, h.out, h.attrs, h.has, fun _ => rfl, h.pv⟩
    · split
      · refine ⟨rfl, h.hold, h.out, h.attrs, h.has, h.pn, ?_⟩
        show y.has = true → x.pv ++ P.extract (i + k) (i + k + 1) = y.pv ++ Q.extract i (i + 1)
        intro q
        rw [h.pv q, show i + k + 1 = i + 1 + k by omega, hP i (i + 1) (by omega) (by omega)]
      · exact h
theorem Ks.Sh.go {P Q : ByteArray} {pre : List Tk} {k : Nat} {x y : Rf} (h : Ks.Sh pre k x y) (hP : Ks.Page P Q k) (N : Ts) (i : Nat) (hi : i < Q.size) (hc : 13 ≤ y.st.pl → y.st.pl ≤ 18 → N.pl = 0 → 0 ≤ y.hold ∧ y.hold + 2 ≤ i ∧ (y.st.pl = 17 → y.hold + 6 ≤ i)) : Ks.Sh pre k (Rf.go P x N (i + k)) (Rf.go Q y N i) := by
  have hm := h.moved N
  unfold Rf.go
  dsimp only
  rw [h.st]
  have e1 : ({ x with st := N } : Rf) = Rf.moved x N := rfl
  have e2 : ({ y with st := N } : Rf) = Rf.moved y N := rfl
  rw [e1, e2]
  split
  · exact (hm.emit y.st).held (.inl ⟨by decide, by decide⟩)
  split
  · exact hm.value hP y.st i hi
  split
  · next q =>
    obtain ⟨c1, c2, c3⟩ := hc q.1 q.2.1 q.2.2
    have hh : x.hold = y.hold + (k : Int) := by
      rcases h.hold with r | r
      · omega
      · exact r.2
    have hf := hm.flush
    have et : (if y.st.pl = 17 then P.extract (x.hold.toNat + 4) (i + k - 2) else P.extract (x.hold.toNat + 2) (i + k)) = (if y.st.pl = 17 then Q.extract (y.hold.toNat + 4) (i - 2) else Q.extract (y.hold.toNat + 2) i) := by
      split
      · next r =>
        have := c3 r
        rw [show x.hold.toNat + 4 = y.hold.toNat + 4 + k by omega, show i + k - 2 = i - 2 + k by omega]
        exact hP _ _ (by omega) (by omega)
      · rw [show x.hold.toNat + 2 = y.hold.toNat + 2 + k by omega]
        exact hP _ _ (by omega) (by omega)
    rw [et]
    refine ⟨hf.st, .inl ⟨show (-1 : Int) < 0 by decide, show (-1 : Int) < 0 by decide⟩, ?_, hf.attrs, hf.has, hf.pn, hf.pv⟩
    show Sb.bare (_ ++ [_]) = pre ++ Sb.bare (_ ++ [_])
    rw [Ks.bare_append, Ks.bare_append, hf.out, List.append_assoc]
  split
  · exact hm
  split
  · have hb : ((i + k : Nat) : Int) = (i : Int) + (k : Int) := by omega
    rcases h.hold with r | r
    · rw [if_neg (by omega), if_neg (by omega)]
      exact hm.held (.inr ⟨by omega, hb⟩)
    · rw [if_pos (by omega), if_pos r.1]
      exact (hm.adds P Q _ _ _ _).held (.inr ⟨by omega, hb⟩)
  split
  · exact (hm.adds P Q _ _ _ _).held (.inl ⟨by decide, by decide⟩)
  · exact hm
theorem Ks.Sh.run {P Q : ByteArray} {pre : List Tk} {k : Nat} (hP : Ks.Page P Q k) : ∀ (l : List UInt8) {x y : Rf} {r : Rd} {i : Nat}, Ks.Sh pre k x y → Rf.Sim Q i y r → i + l.length ≤ Q.size → Ks.Sh pre k (Rf.run P x (i + k) l) (Rf.run Q y i l)
  | [], _, _, _, _, h, _, _ => h
  | c :: l, x, y, r, i, h, hs, hl => by
    have hi : i < Q.size := by simp at hl; omega
    have h1 : Ks.Sh pre k (Rf.byte P x (i + k) c) (Rf.byte Q y i c) := by
      unfold Rf.byte
      rw [h.st]
      exact h.go hP _ i hi (fun q1 q2 q3 => hs.cm c q1 q2 q3)
    have := Ks.Sh.run hP l h1 (hs.step c hi) (by simp at hl ⊢; omega)
    rw [show i + 1 + k = i + k + 1 by omega] at this
    exact this
theorem Ks.done_bare (P : ByteArray) (x : Rf) : Sb.bare (Rf.done P x) = Sb.bare x.out := by
  unfold Rf.done
  rw [Ks.flush_bare]
  split <;> rfl
/-- as a scan is that has met nothing but text -/
structure Ks.Pre (x : Rf) : Prop where
  st : x.st = Ts.start
  hold : x.hold = -1
  out : x.out = []
  attrs : x.attrs = []
  has : x.has = false
  pn : x.pn = Ts.e
  pv : x.pv = Ts.e
theorem Ks.step_text (c : UInt8) (h : c ≠ 60) : Ts.start.step c = Ts.start := by
  show (Ts.start.to 0).data c = Ts.start
  unfold Ts.data
  rw [if_neg h]
  rfl
theorem Ks.Pre.byte {x : Rf} (h : Ks.Pre x) (P : ByteArray) (i : Nat) (c : UInt8) (hc : c ≠ 60) : Ks.Pre (Rf.byte P x i c) := by
  unfold Rf.byte
  rw [h.st, Ks.step_text c hc]
  unfold Rf.go
  dsimp only
  rw [h.st]
  rw [if_neg (by decide), if_neg (by decide), if_neg (by decide), if_neg (by decide), if_neg (by decide), if_pos (by decide)]
  exact ⟨rfl, rfl, h.out, h.attrs, h.has, h.pn, h.pv⟩
theorem Ks.Pre.run (P : ByteArray) : ∀ (l : List UInt8) {x : Rf} {i : Nat}, Ks.Pre x → (∀ c ∈ l, c ≠ 60) → Ks.Pre (Rf.run P x i l)
  | [], _, _, h, _ => h
  | c :: l, _, _, h, hl => Ks.Pre.run P l (h.byte P _ c (hl c List.mem_cons_self)) (fun d hd => hl d (List.mem_cons_of_mem _ hd))
theorem Ks.run_append (P : ByteArray) : ∀ (l m : List UInt8) (x : Rf) (i : Nat), Rf.run P x i (l ++ m) = Rf.run P (Rf.run P x i l) (i + l.length) m
  | [], m, x, i => by simp [Rf.run]
  | c :: l, m, x, i => by
    show Rf.run P (Rf.byte P x i c) (i + 1) (l ++ m) = Rf.run P (Rf.run P (Rf.byte P x i c) (i + 1) l) (i + (l.length + 1)) m
    rw [Ks.run_append P l m, show i + 1 + l.length = i + (l.length + 1) by omega]
/-- the tokens of bytes whose lines are lines -/
def Ks.toks (l : List UInt8) : List Tk := Rf.done ⟨l.toArray⟩ (Rf.run ⟨l.toArray⟩ Rf.start 0 l)
theorem Ks.ahead (T l : List UInt8) (hT : ∀ c ∈ T, c ≠ 60) : Sb.bare (Ks.toks (T ++ l)) = Sb.bare (Ks.toks l) := by
  unfold Ks.toks
  rw [Ks.done_bare, Ks.done_bare, Ks.run_append]
  have hp := Ks.Pre.run ⟨(T ++ l).toArray⟩ T (x := Rf.start) (i := 0) ⟨rfl, rfl, rfl, rfl, rfl, rfl, rfl⟩ hT
  have hP : Ks.Page ⟨(T ++ l).toArray⟩ ⟨l.toArray⟩ T.length := fun a b _ _ => by
    apply ByteArray.ext
    rw [ByteArray.data_extract, ByteArray.data_extract]
    apply Array.ext'
    simp only [List.extract_toArray, List.extract_eq_take_drop]
    rw [show a + T.length = T.length + a by omega, List.drop_append, List.drop_of_length_le (by omega), List.nil_append]
    congr 1
    · omega
    · congr 1
      omega
  have hsh : Ks.Sh [] T.length (Rf.run ⟨(T ++ l).toArray⟩ Rf.start 0 T) Rf.start := ⟨hp.st, .inl ⟨by decide, by rw [hp.hold]; decide⟩, by rw [hp.out]; rfl, hp.attrs, hp.has, fun _ => hp.pn, fun _ => hp.pv⟩
  exact (Ks.Sh.run hP l hsh (Rf.Sim.start _) (by show 0 + l.length ≤ l.toArray.size; simp)).out
theorem Ks.lines_append : ∀ (n : Nat) (A B : List UInt8), A.length ≤ n → ∃ B', Rd.lines (A ++ B) = Rd.lines A ++ B' ∧ (B' = Rd.lines B ∨ 10 :: B' = Rd.lines B)
  | _, [], B, _ => ⟨Rd.lines B, rfl, .inl rfl⟩
  | 0, _ :: _, _, h => absurd h (by simp)
  | n + 1, c :: A, B, h => by
    by_cases hc : c = 13
    · subst hc
      cases A with
      | nil =>
        cases B with
        | nil => exact ⟨[], rfl, .inl rfl⟩
        | cons d B =>
          by_cases hd : d = 10
          · subst hd
            exact ⟨Rd.lines B, rfl, .inr (by rw [Rd.lines.eq_3 _ _ (fun _ e => by cases e)]; rfl)⟩
          · refine ⟨Rd.lines (d :: B), ?_, .inl rfl⟩
            show Rd.lines (13 :: d :: B) = Rd.lines [13] ++ Rd.lines (d :: B)
            rw [Rd.lines.eq_3 13 (d :: B) (fun l' _ e => by injection e with e1; exact hd e1), Rd.lines.eq_3 13 [] (fun _ _ e => by cases e)]
            rfl
      | cons d A =>
        by_cases hd : d = 10
        · subst hd
          obtain ⟨B', e, q⟩ := Ks.lines_append n A B (by simp at h; omega)
          refine ⟨B', ?_, q⟩
          show 10 :: Rd.lines (A ++ B) = (10 :: Rd.lines A) ++ B'
          rw [e]
          rfl
        · obtain ⟨B', e, q⟩ := Ks.lines_append n (d :: A) B (by simp at h ⊢; omega)
          refine ⟨B', ?_, q⟩
          show Rd.lines (13 :: d :: (A ++ B)) = Rd.lines (13 :: d :: A) ++ B'
          rw [Rd.lines.eq_3 13 (d :: (A ++ B)) (fun l' _ e => by injection e with e1; exact hd e1), Rd.lines.eq_3 13 (d :: A) (fun l' _ e => by injection e with e1; exact hd e1)]
          rw [show d :: (A ++ B) = (d :: A) ++ B from rfl, e]
          rfl
    · obtain ⟨B', e, q⟩ := Ks.lines_append n A B (by simp at h; omega)
      refine ⟨B', ?_, q⟩
      show Rd.lines (c :: (A ++ B)) = Rd.lines (c :: A) ++ B'
      rw [Rd.lines.eq_3 c (A ++ B) (fun _ e => absurd e hc), Rd.lines.eq_3 c A (fun _ e => absurd e hc), e]
      rfl
theorem Ks.lines_plain : ∀ (n : Nat) (A : List UInt8), A.length ≤ n → (∀ c ∈ A, c ≠ 60) → ∀ c ∈ Rd.lines A, c ≠ 60
  | _, [], _, _ => fun c hc => by cases hc
  | 0, _ :: _, h, _ => absurd h (by simp)
  | n + 1, d :: A, h, hA => by
    have hrest : ∀ c ∈ A, c ≠ 60 := fun c hc => hA c (List.mem_cons_of_mem _ hc)
    have h1 : d ≠ 60 := hA d List.mem_cons_self
    by_cases hd : d = 13 ∧ ∃ B, A = 10 :: B
    · obtain ⟨rfl, B, rfl⟩ := hd
      intro c hc
      rcases List.mem_cons.1 (show c ∈ 10 :: Rd.lines B from hc) with e | e
      · rw [e]; decide
      · exact Ks.lines_plain n B (by simp at h; omega) (fun c hc => hrest c (List.mem_cons_of_mem _ hc)) c e
    · intro c hc
      rw [Rd.lines.eq_3 d A (fun l e1 e2 => hd ⟨e1, l, e2⟩)] at hc
      rcases List.mem_cons.1 hc with e | e
      · rw [e]
        split
        · decide
        · exact h1
      · exact Ks.lines_plain n A (by simp at h; omega) hrest c e
theorem Ks.tokens (s : ByteArray) : Rd.tokens s = Ks.toks (Rd.lines s.data.toList) := by rw [← Rf.tokens_eq]; rfl
/-- text ahead of a page -/
theorem Ks.pages (t s : ByteArray) (ht : ∀ c ∈ t.data.toList, c ≠ 60) : Sb.bare (Rd.tokens (t ++ s)) = Sb.bare (Rd.tokens s) := by
  rw [Ks.tokens, Ks.tokens, show (t ++ s).data.toList = t.data.toList ++ s.data.toList by rw [ByteArray.data_append, Array.toList_append]]
  obtain ⟨B', e, q⟩ := Ks.lines_append _ t.data.toList s.data.toList (Nat.le_refl _)
  rw [e, Ks.ahead _ _ (Ks.lines_plain _ _ (Nat.le_refl _) ht)]
  rcases q with q | q
  · rw [q]
  · rw [← q]
    exact (Ks.ahead [10] B' (by decide)).symm
end Go.Proofs.YtblpkjlodncpeaaGreatDoor
/-
  PLAIN: the tokens of a page are few and short; a page read.
-/
namespace Go.Proofs.YtblpkjlodncpeaaGreatDoor
/-- what holds of each token -/
def Kp.T (L : Nat) (t : Tk) : Prop := t.text.size ≤ L ∧ (t.kind = 0 → t.name = Ts.e ∧ t.attrs = [] ∧ t.self = false)
theorem Kp.snoc {P : Tk → Prop} {l : List Tk} {t : Tk} (h : ∀ u ∈ l, P u) (ht : P t) : ∀ u ∈ l ++ [t], P u := fun u hu => by
  rcases List.mem_append.1 hu with q | q
  · exact h u q
  · rw [List.mem_singleton.1 q]; exact ht
theorem Kp.txt_size (b : List UInt8) (raw : Bool) : (Rf.txt b raw).size ≤ 4 * b.length := by
  unfold Rf.txt
  split
  · show b.toArray.size ≤ _
    simp
    omega
  · show (Pl.decL b.toArray.toList).toArray.size ≤ _
    have := Pl.decL_len b
    simpa using this
theorem Kp.flush {L : Nat} {x : Rf} (h : ∀ t ∈ x.out, Kp.T L t) (hb : 4 * x.buf.length ≤ L) : ∀ t ∈ x.flush.out, Kp.T L t := by
  unfold Rf.flush
  split
  · exact h
  · exact Kp.snoc h ⟨Nat.le_trans (Kp.txt_size _ _) hb, fun _ => ⟨rfl, rfl, rfl⟩⟩
theorem Kp.tag (L : Nat) (was : Ts) (al : List (ByteArray × ByteArray)) : Kp.T L (Rf.tag was al) := by
  unfold Rf.tag
  split
  · exact ⟨Nat.zero_le _, fun e => absurd e (show ¬ (2 : Int) = 0 by decide)⟩
  · exact ⟨Nat.zero_le _, fun e => absurd e (show ¬ (1 : Int) = 0 by decide)⟩
theorem Kp.ext (P : ByteArray) (a b : Nat) : (P.extract a b).size ≤ P.size := by
  rw [ByteArray.size_extract]
  omega
theorem Kp.go {P : ByteArray} {L : Nat} {x : Rf} {i : Nat} (h : ∀ t ∈ x.out, Kp.T L t) (hs : Rf.Sm x i) (hi : i < P.size) (hL : 8 * P.size ≤ L) (N : Ts) : ∀ t ∈ (Rf.go P x N i).out, Kp.T L t := by
  have hb : 4 * x.buf.length ≤ L := by have := hs.buf; omega
  have hcm : (Rf.moved x N).commit.out = x.out ∧ (Rf.moved x N).commit.buf = x.buf := by
    obtain ⟨_, a, b, _⟩ := Rf.commit_rest (Rf.moved x N)
    exact ⟨a, b⟩
  unfold Rf.go
  dsimp only
  have e1 : ({ x with st := N } : Rf) = Rf.moved x N := rfl
  rw [e1]
  split
  · show ∀ t ∈ (Rf.moved x N).commit.flush.out ++ [_], Kp.T L t
    exact Kp.snoc (Kp.flush (by rw [hcm.1]; exact h) (by rw [hcm.2]; exact hb)) (Kp.tag _ _ _)
  split
  · unfold Rf.value
    split
    · show ∀ t ∈ (Rf.moved x N).commit.out, Kp.T L t
      rw [hcm.1]; exact h
    · split
      · exact h
      · split <;> exact h
  split
  · refine Kp.snoc (Kp.flush (x := Rf.moved x N) h hb) ⟨?_, fun e => absurd e (show ¬ (3 : Int) = 0 by decide)⟩
    show ByteArray.size (if _ then _ else _) ≤ L
    split
    · have := Kp.ext P (x.hold.toNat + 4) (i - 2); omega
    · have := Kp.ext P (x.hold.toNat + 2) i; omega
  split
  · exact h
  split
  · split <;> exact h
  split
  · exact h
  · exact h
theorem Kp.run {P : ByteArray} {L : Nat} (hL : 8 * P.size ≤ L) : ∀ (l : List UInt8) {x : Rf} {i : Nat}, (∀ t ∈ x.out, Kp.T L t) → Rf.Sm x i → Ts.Fit x.st → i + l.length ≤ P.size → ∀ t ∈ (Rf.run P x i l).out, Kp.T L t
  | [], _, _, h, _, _, _ => h
  | c :: l, x, i, h, hs, hf, hl => by
    have hi : i < P.size := by simp at hl; omega
    exact Kp.run hL l (x := Rf.byte P x i c) (i := i + 1) (Kp.go h hs hi hL _) (hs.go hi _) (by rw [Rf.byte_st]; exact hf.step c) (by simp at hl; omega)
theorem Kp.lines_len : ∀ (n : Nat) (A : List UInt8), A.length ≤ n → (Rd.lines A).length ≤ A.length
  | _, [], _ => Nat.le_refl _
  | 0, _ :: _, h => absurd h (by simp)
  | n + 1, d :: A, h => by
    by_cases hd : d = 13 ∧ ∃ B, A = 10 :: B
    · obtain ⟨rfl, B, rfl⟩ := hd
      have := Kp.lines_len n B (by simp at h; omega)
      show (10 :: Rd.lines B).length ≤ _
      simp
      omega
    · rw [Rd.lines.eq_3 d A (fun l e1 e2 => hd ⟨e1, l, e2⟩)]
      have := Kp.lines_len n A (by simp at h; omega)
      simp
      omega
/-- the tokens of a page -/
theorem Kp.toks (s : ByteArray) : (∀ t ∈ Rd.tokens s, Kp.T (8 * s.size) t) ∧ (Rd.tokens s).length ≤ 2 * s.size + 1 := by
  rw [← Rf.tokens_eq]
  unfold Rf.tokens
  have hlen : (Rd.lines s.data.toList).length ≤ s.size := by
    have := Kp.lines_len _ s.data.toList (Nat.le_refl _)
    rw [Array.length_toList] at this
    exact this
  have hPs : (Rd.page s).size = (Rd.lines s.data.toList).length := by
    show (Rd.lines s.data.toList).toArray.size = _
    simp
  obtain ⟨hsm, hft⟩ := Rf.Sm.run (P := Rd.page s) (Rd.lines s.data.toList) Rf.Sm.start Ts.Fit.start (by rw [hPs]; omega)
  have hT := Kp.run (P := Rd.page s) (L := 8 * s.size) (by rw [hPs]; omega) (Rd.lines s.data.toList) (x := Rf.start) (i := 0) (fun t h => by simp [Rf.start] at h) Rf.Sm.start Ts.Fit.start (by rw [hPs]; omega)
  rw [Nat.zero_add] at hsm
  generalize Rf.run (Rd.page s) Rf.start 0 (Rd.lines s.data.toList) = x at *
  unfold Rf.done
  have hbuf := hsm.buf
  have hout := hsm.out
  refine ⟨?_, ?_⟩
  · refine Kp.flush (by split <;> exact hT) ?_
    split
    · show 4 * (x.buf ++ Rf.sl (Rd.page s) x.hold.toNat (Rd.page s).size).length ≤ _
      rw [List.length_append, Rf.sl_len _ _ _ (Nat.le_refl _)]
      omega
    · omega
  · have hfl : ∀ z : Rf, z.flush.out.length ≤ z.out.length + 1 := Rf.flush_out_len
    refine Nat.le_trans (hfl _) ?_
    split
    · show x.out.length + 1 ≤ _
      omega
    · omega
theorem Kp.sum_le (l : List Nat) (M : Nat) (h : ∀ x ∈ l, x ≤ M) : l.sum ≤ l.length * M := by
  induction l with
  | nil => exact Nat.zero_le _
  | cons a l ih =>
    rw [List.sum_cons, List.length_cons, Nat.succ_mul]
    have := h a List.mem_cons_self
    have := ih fun x hx => h x (List.mem_cons_of_mem _ hx)
    omega
theorem Kp.bulk (s : ByteArray) (h : s.size ≤ 65536) : Bt.bulk (Rd.tokens s) ≤ 140737488355328 := by
  obtain ⟨h1, h2⟩ := Kp.toks s
  unfold Bt.bulk
  have := Kp.sum_le ((Rd.tokens s).map (·.text.size)) 524288 (fun q hq => by
    obtain ⟨t, ht, rfl⟩ := List.mem_map.1 hq
    have := (h1 t ht).1
    show t.text.size ≤ _
    omega)
  rw [List.length_map] at this
  have h5 : (Rd.tokens s).length * 524288 ≤ 131073 * 524288 := Nat.mul_le_mul_right _ (by omega)
  omega
/-- a page read: its nodes and the number of an error -/
def Kp.Is (s : ByteArray) (ns : List Nd) (k : Int) : Prop :=
  (65536 < s.size ∧ ns = [] ∧ k = 500) ∨ (s.size ≤ 65536 ∧ ((¬ (∀ t ∈ Rd.tokens s, t.May) ∧ ns = [] ∧ k = 700) ∨ ((∀ t ∈ Rd.tokens s, t.May) ∧ (Bt.run Bt.start (Rd.tokens s)).2 = false ∧ ns = [] ∧ k = 701) ∨ ((∀ t ∈ Rd.tokens s, t.May) ∧ (Bt.run Bt.start (Rd.tokens s)).2 = true ∧ ns = (Bt.run Bt.start (Rd.tokens s)).1.out ∧ k = 0)))
theorem Kp.ex (s : ByteArray) : ∃ ns k, Kp.Is s ns k := by
  by_cases h : 65536 < s.size
  · exact ⟨_, _, .inl ⟨h, rfl, rfl⟩⟩
  · have hs : s.size ≤ 65536 := by omega
    by_cases hm : ∀ t ∈ Rd.tokens s, t.May
    · cases hr : (Bt.run Bt.start (Rd.tokens s)).2 with
      | true => exact ⟨_, _, .inr ⟨hs, .inr (.inr ⟨hm, hr, rfl, rfl⟩)⟩⟩
      | false => exact ⟨_, _, .inr ⟨hs, .inr (.inl ⟨hm, hr, rfl, rfl⟩)⟩⟩
    · exact ⟨_, _, .inr ⟨hs, .inl ⟨hm, rfl, rfl⟩⟩⟩
/-- what a page read is, if no error is told -/
theorem Kp.Is.ok {s : ByteArray} {ns : List Nd} {k : Int} (h : Kp.Is s ns k) (hk : k = 0) : s.size ≤ 65536 ∧ (Bt.run Bt.start (Rd.tokens s)).2 = true ∧ ns = (Bt.run Bt.start (Rd.tokens s)).1.out := by
  rcases h with ⟨_, _, e⟩ | ⟨hs, ⟨_, _, e⟩ | ⟨_, _, _, e⟩ | ⟨_, h2, h3, _⟩⟩
  · omega
  · omega
  · omega
  · exact ⟨hs, h2, h3⟩
theorem Kp.Is.bad {s : ByteArray} {ns : List Nd} {k : Int} (h : Kp.Is s ns k) (hk : k ≠ 0) : ns = [] := by
  rcases h with ⟨_, e, _⟩ | ⟨_, ⟨_, e, _⟩ | ⟨_, _, e, _⟩ | ⟨_, _, _, e⟩⟩
  · exact e
  · exact e
  · exact e
  · exact absurd e hk
theorem Kp.Is.len {s : ByteArray} {ns : List Nd} {k : Int} (h : Kp.Is s ns k) : ns.length ≤ 4096 := by
  by_cases hk : k = 0
  · obtain ⟨_, h2, h3⟩ := h.ok hk
    rw [h3]
    exact Bt.run_len _ Bt.start (by decide) h2
  · rw [h.bad hk]
    exact Nat.zero_le _
theorem Kp.Is.may {s : ByteArray} {ns : List Nd} {k : Int} (h : Kp.Is s ns k) (hk : k = 0) : Sk.May ns := by
  rw [(h.ok hk).2.2]
  exact Sk.may_run _
/-- text ahead of a page: the same lines -/
theorem Kp.ahead {t s : ByteArray} (ht : ∀ c ∈ t.data.toList, c ≠ 60) {ns ms : List Nd} (h1 : Kp.Is s ns 0) (h2 : Kp.Is (t ++ s) ms 0) : Sk.skel ms = Sk.skel ns := by
  obtain ⟨_, a2, a3⟩ := h1.ok rfl
  obtain ⟨_, b2, b3⟩ := h2.ok rfl
  rw [a3, b3]
  exact Sb.same (Ks.pages t s ht) b2 a2
end Go.Proofs.YtblpkjlodncpeaaGreatDoor
/-
  PLAIN: the names of a page's tokens and of their attributes have at most 32 bytes, a tag has at most 32 attributes.
-/
namespace Go.Proofs.YtblpkjlodncpeaaGreatDoor
def Tk.Nice (t : Tk) : Prop := t.name.size ≤ 32 ∧ t.attrs.length ≤ 32 ∧ ∀ a ∈ t.attrs, a.1.size ≤ 32
theorem Tk.nice_text (k : Int) (x : ByteArray) (b : Bool) : Tk.Nice ⟨k, Ts.e, x, [], b⟩ := ⟨Nat.zero_le _, Nat.zero_le _, fun a h => by simp at h⟩
structure Rf.Nice (x : Rf) : Prop where
  out : ∀ t ∈ x.out, t.Nice
  attrs : ∀ a ∈ x.attrs, a.1.size ≤ 32
  pn : x.pn.size ≤ 32
  len : x.attrs.length ≤ 32
theorem Rf.Nice.start : Rf.Nice Rf.start := ⟨fun t h => by simp [Rf.start] at h, fun a h => by simp [Rf.start] at h, Nat.zero_le _, Nat.zero_le _⟩
theorem Rf.Nice.commit {x : Rf} (h : Rf.Nice x) : Rf.Nice x.commit := by
  unfold Rf.commit
  split
  · split
    · exact ⟨h.out, h.attrs, h.pn, h.len⟩
    · split
      · refine ⟨h.out, fun a ha => ?_, h.pn, by simp only [List.length_append, List.length_singleton]; omega⟩
        rcases List.mem_append.1 ha with q | q
        · exact h.attrs a q
        · rw [List.mem_singleton.1 q]; exact h.pn
      · exact ⟨h.out, h.attrs, h.pn, h.len⟩
  · exact h
theorem Rf.Nice.flush {x : Rf} (h : Rf.Nice x) : Rf.Nice x.flush := by
  unfold Rf.flush
  split
  · exact h
  · refine ⟨fun t ht => ?_, h.attrs, h.pn, h.len⟩
    rcases List.mem_append.1 ht with q | q
    · exact h.out t q
    · rw [List.mem_singleton.1 q]; exact Tk.nice_text _ _ _
theorem Ts.Fit.names {s : Ts} (h : Ts.Fit s) : s.name.size ≤ 32 ∧ s.attr.size ≤ 32 ∧ s.held.size ≤ 32 := by
  have := h.small
  unfold Ts.Small at this
  omega
theorem Rf.Nice.put {x : Rf} (h : Rf.Nice x) (N : Ts) : Rf.Nice ({ x with st := N } : Rf) := ⟨h.out, h.attrs, h.pn, h.len⟩
theorem Rf.Nice.go {P : ByteArray} {x : Rf} {i : Nat} (h : Rf.Nice x) (hw : Ts.Fit x.st) (N : Ts) (hN : Ts.Fit N) : Rf.Nice (Rf.go P x N i) := by
  have hp := h.put N
  obtain ⟨w1, w2, w3⟩ := hw.names
  obtain ⟨m1, m2, m3⟩ := hN.names
  unfold Rf.go
  dsimp only
  split
  · have hc := hp.commit.flush
    refine ⟨fun t ht => ?_, fun a ha => by simp [Rf.emit] at ha, ?_, Nat.zero_le _⟩
    · rcases List.mem_append.1 (show t ∈ (({ x with st := N } : Rf).commit.flush).out ++ [Rf.tag x.st (({ x with st := N } : Rf).commit.flush).attrs] from ht) with q | q
      · exact hc.out t q
      · rw [List.mem_singleton.1 q]
        unfold Rf.tag
        split
        · refine ⟨?_, Nat.zero_le _, fun a ha => by simp at ha⟩
          show (if x.st.held ≠ Ts.e then x.st.held else x.st.name).size ≤ 32
          split <;> assumption
        · exact ⟨w1, hc.len, hc.attrs⟩
    · exact hc.pn
  split
  · unfold Rf.value
    split
    · exact ⟨hp.commit.out, hp.commit.attrs, m2, hp.commit.len⟩
    split
    · exact ⟨hp.out, hp.attrs, m2, hp.len⟩
    split
    · exact ⟨hp.out, hp.attrs, hp.pn, hp.len⟩
    · exact hp
  split
  · have hc := hp.flush
    refine ⟨fun t ht => ?_, hc.attrs, hc.pn, hc.len⟩
    rcases List.mem_append.1 ht with q | q
    · exact hc.out t q
    · rw [List.mem_singleton.1 q]; exact Tk.nice_text _ _ _
  split
  · exact hp
  split
  · split
    · exact ⟨hp.out, hp.attrs, hp.pn, hp.len⟩
    · exact ⟨hp.out, hp.attrs, hp.pn, hp.len⟩
  split
  · exact ⟨hp.out, hp.attrs, hp.pn, hp.len⟩
  · exact hp
theorem Rf.Nice.run {P : ByteArray} : ∀ (l : List UInt8) {x : Rf} {i : Nat}, Rf.Nice x → Ts.Fit x.st → Rf.Nice (Rf.run P x i l)
  | [], _, _, h, _ => h
  | c :: l, x, i, h, hf => Rf.Nice.run (P := P) l (x := Rf.byte P x i c) (i := i + 1) (h.go hf _ (hf.step c)) (by rw [Rf.byte_st]; exact hf.step c)
theorem Rf.Nice.tokens (s : ByteArray) : ∀ t ∈ Rd.tokens s, t.Nice := by
  rw [← Rf.tokens_eq]
  have h := Rf.Nice.run (P := Rd.page s) (Rd.lines s.data.toList) (i := 0) Rf.Nice.start Ts.Fit.start
  unfold Rf.tokens Rf.done
  generalize Rf.run (Rd.page s) Rf.start 0 (Rd.lines s.data.toList) = x at *
  split
  · exact (Rf.Nice.flush (x := x.adds (Rd.page s) x.hold.toNat (Rd.page s).size) ⟨h.out, h.attrs, h.pn, h.len⟩).out
  · exact h.flush.out
end Go.Proofs.YtblpkjlodncpeaaGreatDoor
/-
  THE WALKS of addAttr's own function, and of slices.ContainsFunc at it.
-/
namespace Go.Proofs.YtblpkjlodncpeaaGreatDoor
open Go.RowKit
theorem Rm.ba_beq (a b : ByteArray) : (a.toList == b.toList) = decide (a = b) := by
  rw [ByteArray.toList_eq, ByteArray.toList_eq, Bool.eq_iff_iff, beq_iff_eq, decide_eq_true_iff]
  constructor
  · intro h
    cases a; cases b
    simp only at h
    congr 1
    exact Array.toList_inj.1 h
  · rintro rfl; rfl
theorem Rm.isName (n v nm : ByteArray) (q : Nat) (w : World) (hq : w.cell? ⟨q, 0, none⟩ = some (.string nm)) :
    Calls Tryz.prog 134 #[.agg #[.string n, .string v], .pointer (some ⟨q, 0, none⟩)] w fun e w' => e = .returned (.bool (decide (n = nm))) ∧ Below w.heap.size w w' := by
  have hlt := World.block_lt_of_cell? _ _ hq
  simp only at hlt
  have n1 : w.heap.size ≠ q := by omega
  have n2 : q ≠ w.heap.size := by omega
  have hb := Rm.ba_beq n nm
  generalize decide (n = nm) = b at *
  go_enter Tryz.func134, Tryz.ntmps134
  go_wp2
  go_ret
  exact ⟨rfl, (Below.refl _ _).alloc (Nat.le_refl _) _⟩
set_option maxHeartbeats 1000000 in
theorem Rm.indexFunc (al : List (ByteArray × ByteArray)) (a : Option Addr) (d : Nat) (nm : ByteArray) (q : Nat) (w : World) (hl : Ak.Lies w (· < w.heap.size) al (.slice a al.length d)) (hq : w.cell? ⟨q, 0, none⟩ = some (.string nm)) :
    Calls Tryz.prog 139 #[.slice a al.length d, .func (.func 134) #[] #[.pointer (some ⟨q, 0, none⟩)]] w fun e w' => ∃ i : Int, e = .returned (.int .i64 i) ∧ decide (0 ≤ i) = al.any (fun x => decide (x.1 = nm)) ∧ Below w.heap.size w w' := by
  obtain ⟨a', d', e, hd1, hd2, hx⟩ := hl
  injection e with e1 e2 e3
  subst e1
  subst e3
  have hqlt := World.block_lt_of_cell? _ _ hq
  simp only at hqlt
  have hbig : al.length ≤ 9223372036854775807 := by unfold maxLen at hd2; omega
  have HX := Lib.hid hx
  clear hx
  go_enter Tryz.func139, Tryz.ntmps139
  go_wp2
  go_loopw [8] (fun i wr => ∃ k : Nat, k ≤ al.length ∧ i = .int .i64 (k : Int) ∧ Below w.heap.size w wr ∧ Hid ((al.take k).any (fun x => decide (x.1 = nm)) = false)) (fun i _ => al.length - (intOf i).toNat)
  case atStart => exact ⟨0, Nat.zero_le _, rfl, Below.refl _ _, by simp [Hid]⟩
  case round =>
    obtain ⟨k, hk, rfl, hb, HN⟩ := hrel
    by_cases hlt : k < al.length
    · obtain ⟨b, o, rfl, hbl, c1, c2⟩ := HX.out k al[k] (List.getElem?_eq_getElem hlt)
      have k1 := Tp.keep hb c1
      have k2 := Tp.keep hb c2
      have hqr := Tp.keep hb hq
      have hcall := fun u (hu : Below wr.heap.size wr u) => Rm.isName al[k].1 al[k].2 nm q u (Tp.keep hu hqr)
      have HT : Hid (al.take (k + 1) = al.take k ++ [al[k]]) := List.take_succ_eq_append_getElem hlt
      have HA : Hid (decide (al[k].1 = nm) = true → al.any (fun x => decide (x.1 = nm)) = true) := fun hh => List.any_eq_true.2 ⟨al[k], List.getElem_mem hlt, hh⟩
      generalize al[k] = y at *
      cases hy : decide (y.1 = nm) with
      | true =>
        rw [hy] at hcall
        go_wp2_with (go_at_call 134; refine (hcall _ (Below.refl _ _)).mono ?_; rintro e w' ⟨rfl, hb'⟩)
        go_ret
        exact ⟨_, rfl, by rw [HA.out hy]; simp, hb.trans (hb'.mono hb.size)⟩
      | false =>
        rw [hy] at hcall
        go_wp2_with (go_at_call 134; refine (hcall _ (Below.refl _ _)).mono ?_; rintro e w' ⟨rfl, hb'⟩)
        go_roundw
        case rel => exact ⟨k + 1, by omega, by go_num, hb.trans (hb'.mono hb.size), by unfold Hid; rw [HT.out, List.any_append, HN.out]; simp only [List.any_cons, List.any_nil, hy, Bool.or_false]⟩
        case measure => simp [intOf]; omega
    · have hke : k = al.length := by omega
      have HE := Lib.hid hke
      clear hke
      go_wp2
      go_ret
      refine ⟨_, rfl, ?_, hb⟩
      have := HN.out
      rw [HE.out, List.take_length] at this
      rw [this]
      rfl
theorem Rm.containsFunc (al : List (ByteArray × ByteArray)) (a : Option Addr) (d : Nat) (nm : ByteArray) (q : Nat) (w : World) (hl : Ak.Lies w (· < w.heap.size) al (.slice a al.length d)) (hq : w.cell? ⟨q, 0, none⟩ = some (.string nm)) :
    Calls Tryz.prog 116 #[.slice a al.length d, .func (.func 134) #[] #[.pointer (some ⟨q, 0, none⟩)]] w fun e w' => e = .returned (.bool (al.any (fun x => decide (x.1 = nm)))) ∧ Below w.heap.size w w' := by
  have h := fun u => Rm.indexFunc al a d nm q u
  generalize al.any (fun x => decide (x.1 = nm)) = r at *
  go_enter Tryz.func116, Tryz.ntmps116
  go_wp2_with (go_at_call 139; refine (h _ hl hq).mono ?_; rintro e w' ⟨i, rfl, hi, hb⟩)
  go_ret
  exact ⟨rfl, hb⟩
end Go.Proofs.YtblpkjlodncpeaaGreatDoor

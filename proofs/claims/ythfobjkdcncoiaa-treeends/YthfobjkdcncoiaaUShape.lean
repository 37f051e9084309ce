/-
  PLAIN: the shape of a tree that is made of tokens: parents, depths, texts in their row, how many elements.
-/
import Derived.Test.YthfobjkdcncoiaaUPlain2
namespace Go.Proofs.Ythfobjkdcncoiaa
/-- the shape, with each node's depth -/
structure Bt.Sh (m : Bt) (D : List Nat) : Prop where
  len : D.length = m.out.length
  root : ∃ x, m.out[0]? = some x ∧ x.kind = 0 ∧ x.parent = -1
  d0 : D[0]? = some 0
  node : ∀ (i : Nat) (x : Nd), 1 ≤ i → m.out[i]? = some x → ∃ (p : Nat) (y : Nd) (dp : Nat), x.parent = (p : Int) ∧ p < i ∧ m.out[p]? = some y ∧ (y.kind = 0 ∨ y.kind = 1) ∧ x.kind ≠ 0 ∧ D[p]? = some dp ∧ D[i]? = some (dp + 1) ∧ dp ≤ 32
  adj : ∀ (i : Nat) (x y : Nd), m.out[i]? = some x → m.out[i + 1]? = some y → x.kind = 2 → y.kind = 2 → x.parent ≠ y.parent
  opn : ∀ (j k : Nat), m.opn[j]? = some k → (∃ y : Nd, m.out[k]? = some y ∧ (y.kind = 0 ∨ y.kind = 1)) ∧ D[k]? = some j
theorem Bt.Sh.start : Bt.Sh Bt.start [0] := by
  refine ⟨rfl, ⟨_, rfl, rfl, rfl⟩, rfl, fun i x hi hx => ?_, fun i x y _ hy => ?_, fun j k hj => ?_⟩
  · have := (List.getElem?_eq_some_iff.1 hx).1
    simp [Bt.start] at this
    omega
  · have := (List.getElem?_eq_some_iff.1 hy).1
    simp [Bt.start] at this
  · have h1 := (List.getElem?_eq_some_iff.1 hj).1
    have : j = 0 := by simp [Bt.start] at h1; omega
    subst this
    have : k = 0 := by simpa [Bt.start] using hj.symm
    subst this
    exact ⟨⟨_, rfl, .inl rfl⟩, rfl⟩
theorem Bt.top_at {m : Bt} (h : 0 < m.opn.length) : m.opn[m.opn.length - 1]? = some m.top := by
  unfold Bt.top
  rw [List.getLastD_eq_getLast?, List.getLast?_eq_getElem?, List.getElem?_eq_getElem (by omega)]
  rfl
/-- a node more -/
theorem Bt.Sh.push {m : Bt} {D : List Nat} (h : Bt.Sh m D) (ok : Bt.Ok m) (x : Nd) (hk : x.kind ≠ 0) (ha : ∀ y, m.out[m.out.length - 1]? = some y → y.kind = 2 → x.kind = 2 → y.parent ≠ (m.top : Int)) : Bt.Sh (m.node x) (D ++ [m.opn.length]) := by
  have hsome := ok.some
  have hopn := ok.opn
  have hfew := ok.few
  have ht := Bt.top_at hopn
  obtain ⟨⟨yt, hyt, hyk⟩, hdt⟩ := h.opn _ _ ht
  have htl : m.top < m.out.length := (List.getElem?_eq_some_iff.1 hyt).1
  have hlen := h.len
  have old : ∀ {i : Nat} {y : Nd}, m.out[i]? = some y → (m.out ++ [{ x with parent := (m.top : Int) }])[i]? = some y := fun {i y} q => by
    rw [List.getElem?_append_left (List.getElem?_eq_some_iff.1 q).1]; exact q
  have oldD : ∀ {i d : Nat}, D[i]? = some d → (D ++ [m.opn.length])[i]? = some d := fun {i d} q => by
    rw [List.getElem?_append_left (List.getElem?_eq_some_iff.1 q).1]; exact q
  have lastD : (D ++ [m.opn.length])[m.out.length]? = some m.opn.length := by rw [← hlen, List.getElem?_append_right (Nat.le_refl _), Nat.sub_self]; rfl
  have which : ∀ {i : Nat} {y : Nd}, (m.out ++ [{ x with parent := (m.top : Int) }])[i]? = some y → (m.out[i]? = some y) ∨ (i = m.out.length ∧ y = { x with parent := (m.top : Int) }) := fun {i y} q => by
    by_cases e : i < m.out.length
    · rw [List.getElem?_append_left e] at q; exact .inl q
    · have h1 := (List.getElem?_eq_some_iff.1 q).1
      rw [List.length_append] at h1
      have e' : i = m.out.length := by simp at h1; omega
      subst e'
      rw [List.getElem?_append_right (Nat.le_refl _), Nat.sub_self] at q
      exact .inr ⟨rfl, by simpa using q.symm⟩
  refine ⟨?_, ?_, oldD h.d0, fun i y hi hy => ?_, fun i y z hy hz hy2 hz2 => ?_, fun j k hj => ?_⟩
  · show (D ++ [_]).length = (m.out ++ [_]).length
    rw [List.length_append, List.length_append, hlen]; rfl
  · obtain ⟨r, hr, h1, h2⟩ := h.root
    exact ⟨r, old hr, h1, h2⟩
  · rcases which hy with q | ⟨rfl, rfl⟩
    · obtain ⟨p, z, dp, h1, h2, h3, h4, h5, h6, h7, h8⟩ := h.node i y hi q
      exact ⟨p, z, dp, h1, h2, old h3, h4, h5, oldD h6, oldD h7, h8⟩
    · refine ⟨m.top, yt, m.opn.length - 1, rfl, htl, old hyt, hyk, hk, oldD hdt, ?_, by omega⟩
      rw [lastD]
      congr 1
      omega
  · rcases which hz with q | ⟨e, rfl⟩
    · have : i < m.out.length := by have := (List.getElem?_eq_some_iff.1 q).1; omega
      rcases which hy with q1 | ⟨e1, _⟩
      · exact h.adj i y z q1 q hy2 hz2
      · omega
    · rcases which hy with q1 | ⟨e1, _⟩
      · have hi : i = m.out.length - 1 := by omega
        subst hi
        exact ha y q1 hy2 hz2
      · omega
  · obtain ⟨⟨y, h1, h2⟩, h3⟩ := h.opn j k hj
    exact ⟨⟨y, old h1, h2⟩, oldD h3⟩
theorem Bt.Sh.token {m : Bt} {D : List Nat} (h : Bt.Sh m D) (ok : Bt.Ok m) (t : Tk) : ∃ D', Bt.Sh (m.token t) D' := by
  have hsome := ok.some
  unfold Bt.token
  split
  · split
    · exact ⟨D, h⟩
    · split
      · next hq =>
        -- the last text grows
        obtain ⟨y, hy⟩ : ∃ y, m.out[m.last]? = some y := ⟨_, List.getElem?_eq_getElem (by unfold Bt.last; omega)⟩
        have hn : m.nth m.last = y := by unfold Bt.nth; rw [hy]; rfl
        rw [hn] at hq
        unfold Bt.put
        rw [hn]
        have hl : m.last < m.out.length := (List.getElem?_eq_some_iff.1 hy).1
        have same : ∀ (i : Nat) (z : Nd), (m.out.set m.last { y with text := y.text ++ t.text })[i]? = some z → ∃ z' : Nd, m.out[i]? = some z' ∧ z.kind = z'.kind ∧ z.parent = z'.parent := fun i z hz => by
          by_cases e : m.last = i
          · subst e
            rw [List.getElem?_set_self hl] at hz
            injection hz with hz
            exact ⟨y, hy, by rw [← hz], by rw [← hz]⟩
          · rw [List.getElem?_set_ne e] at hz
            exact ⟨z, hz, rfl, rfl⟩
        have back : ∀ (i : Nat) (z' : Nd), m.out[i]? = some z' → ∃ z : Nd, (m.out.set m.last { y with text := y.text ++ t.text })[i]? = some z ∧ z.kind = z'.kind ∧ z.parent = z'.parent := fun i z' hz => by
          by_cases e : m.last = i
          · subst e
            rw [hy] at hz
            injection hz with hz
            exact ⟨_, List.getElem?_set_self hl, by rw [← hz], by rw [← hz]⟩
          · exact ⟨z', by rw [List.getElem?_set_ne e]; exact hz, rfl, rfl⟩
        refine ⟨D, ?_, ?_, h.d0, fun i z hi hz => ?_, fun i z1 z2 h1 h2 k1 k2 => ?_, fun j k hj => ?_⟩
        · show D.length = (m.out.set _ _).length
          rw [List.length_set]; exact h.len
        · obtain ⟨r, hr, h1, h2⟩ := h.root
          obtain ⟨r', hr', e1, e2⟩ := back 0 r hr
          exact ⟨r', hr', e1.trans h1, e2.trans h2⟩
        · obtain ⟨z', hz', e1, e2⟩ := same i z hz
          obtain ⟨p, q, dp, h1, h2, h3, h4, h5, h6, h7, h8⟩ := h.node i z' hi hz'
          obtain ⟨q', hq', f1, f2⟩ := back p q h3
          exact ⟨p, q', dp, by rw [e2]; exact h1, h2, hq', by rw [f1]; exact h4, by rw [e1]; exact h5, h6, h7, h8⟩
        · obtain ⟨w1, g1, e1, e2⟩ := same i z1 h1
          obtain ⟨w2, g2, f1, f2⟩ := same (i + 1) z2 h2
          rw [e2, f2]
          exact h.adj i w1 w2 g1 g2 (by rw [← e1]; exact k1) (by rw [← f1]; exact k2)
        · obtain ⟨⟨z, h1, h2⟩, h3⟩ := h.opn j k hj
          obtain ⟨z', h1', e1, e2⟩ := back k z h1
          exact ⟨⟨z', h1', by rw [e1]; exact h2⟩, h3⟩
      · next hq =>
        refine ⟨_, h.push ok ⟨2, Ts.e, t.text, [], 0⟩ (by show (2 : Int) ≠ 0; decide) fun y hy hk _ => ?_⟩
        intro e
        apply hq
        have hn : m.nth m.last = y := by unfold Bt.nth Bt.last; rw [hy]; rfl
        rw [hn]
        exact ⟨hk, e⟩
  split
  · exact ⟨_, h.push ok ⟨3, Ts.e, t.text, [], 0⟩ (by show (3 : Int) ≠ 0; decide) (fun y _ _ q => absurd q (by show ¬ (3 : Int) = 2; decide))⟩
  split
  · have hp := h.push ok ⟨1, t.name, Ts.e, t.attrs, 0⟩ (by show (1 : Int) ≠ 0; decide) (fun y _ _ q => absurd q (by show ¬ (1 : Int) = 2; decide))
    split
    · refine ⟨D ++ [m.opn.length], hp.len, hp.root, hp.d0, hp.node, hp.adj, fun j k hj => ?_⟩
      have hj : (m.opn ++ [m.out.length])[j]? = some k := hj
      by_cases e : j < m.opn.length
      · rw [List.getElem?_append_left e] at hj
        exact hp.opn j k hj
      · have h1 := (List.getElem?_eq_some_iff.1 hj).1
        rw [List.length_append] at h1
        have e' : j = m.opn.length := by simp at h1; omega
        subst e'
        rw [List.getElem?_append_right (Nat.le_refl _), Nat.sub_self] at hj
        have : k = m.out.length := by simpa using hj.symm
        subst this
        refine ⟨⟨⟨1, t.name, Ts.e, t.attrs, (m.top : Int)⟩, ?_, .inr rfl⟩, ?_⟩
        · show (m.out ++ [_])[m.out.length]? = _
          rw [List.getElem?_append_right (Nat.le_refl _), Nat.sub_self]
          rfl
        · rw [← h.len, List.getElem?_append_right (Nat.le_refl _), Nat.sub_self]
          rfl
    · exact ⟨_, hp⟩
  split
  · split
    · exact ⟨D, h⟩
    · refine ⟨D, h.len, h.root, h.d0, h.node, h.adj, fun j k hj => ?_⟩
      have hj : (m.opn.take _)[j]? = some k := hj
      rw [List.getElem?_take] at hj
      split at hj
      · exact h.opn j k hj
      · cases hj
  · exact ⟨D, h⟩
theorem Bt.Sh.run : ∀ (ts : List Tk) {m : Bt} {D : List Nat}, Bt.Sh m D → Bt.Ok m → ∃ D', Bt.Sh (Bt.run m ts).1 D'
  | [], _, D, h, _ => ⟨D, h⟩
  | t :: ts, m, D, h, ok => by
    obtain ⟨D', h'⟩ := h.token ok t
    unfold Bt.run
    split
    · exact ⟨D', h'⟩
    · exact Bt.Sh.run ts h' (ok.token t)
/-- the texts of the nodes, of the tokens -/
def Bt.says (ns : List Nd) : List UInt8 := ns.flatMap fun x => if x.kind = 2 then x.text.data.toList else []
def Bt.said (ts : List Tk) : List UInt8 := ts.flatMap fun t => if t.kind = 0 then t.text.data.toList else []
def Bt.elems (ns : List Nd) : Nat := ns.countP fun x => decide (x.kind = 1)
def Bt.tags (ts : List Tk) : Nat := ts.countP fun t => decide (t.kind = 1)
theorem Bt.says_push (ns : List Nd) (x : Nd) : Bt.says (ns ++ [x]) = Bt.says ns ++ (if x.kind = 2 then x.text.data.toList else []) := by
  unfold Bt.says
  rw [List.flatMap_append]
  simp
theorem Bt.elems_push (ns : List Nd) (x : Nd) : Bt.elems (ns ++ [x]) = Bt.elems ns + (if x.kind = 1 then 1 else 0) := by
  unfold Bt.elems
  rw [List.countP_append]
  by_cases h : x.kind = 1
  · simp [h]
  · simp [h]
theorem Bt.snoc {l : List Nd} (h : 0 < l.length) : ∃ i z, l = i ++ [z] := by
  have hne : l ≠ [] := fun e => by rw [e] at h; simp at h
  exact ⟨l.dropLast, l.getLast hne, (List.dropLast_concat_getLast hne).symm⟩
theorem Bt.token_says (m : Bt) (ok : Bt.Ok m) (t : Tk) : Bt.says (m.token t).out = Bt.says m.out ++ (if t.kind = 0 then t.text.data.toList else []) ∧ Bt.elems (m.token t).out = Bt.elems m.out + (if t.kind = 1 then 1 else 0) := by
  unfold Bt.token
  by_cases h0 : t.kind = 0
  · have h1 : ¬ t.kind = 1 := by omega
    rw [if_pos h0, if_pos h0, if_neg h1]
    split
    · next he => rw [he]; simp [Ts.e]
    · split
      · next hq =>
        obtain ⟨i, z, hz⟩ := Bt.snoc ok.some
        have hlast : m.last = i.length := by unfold Bt.last; rw [hz]; simp
        have hn : m.nth m.last = z := by unfold Bt.nth; rw [hlast, hz, List.getElem?_append_right (Nat.le_refl _), Nat.sub_self]; rfl
        rw [hn] at hq
        unfold Bt.put
        rw [hn, hlast]
        have hs : m.out.set i.length { z with text := z.text ++ t.text } = i ++ [{ z with text := z.text ++ t.text }] := by rw [hz, List.set_append_right _ _ (Nat.le_refl _), Nat.sub_self]; rfl
        show Bt.says (m.out.set _ _) = _ ∧ Bt.elems (m.out.set _ _) = _
        rw [hs, hz, Bt.says_push, Bt.says_push, Bt.elems_push, Bt.elems_push]
        refine ⟨?_, rfl⟩
        show Bt.says i ++ (if z.kind = 2 then (z.text ++ t.text).data.toList else []) = _
        rw [if_pos hq.1, if_pos hq.1, List.append_assoc, ByteArray.data_append, Array.toList_append]
      · show Bt.says (m.out ++ [_]) = _ ∧ Bt.elems (m.out ++ [_]) = _
        rw [Bt.says_push, Bt.elems_push]
        exact ⟨rfl, rfl⟩
  rw [if_neg h0, if_neg h0]
  split
  · next h3 =>
    have h1 : ¬ t.kind = 1 := by omega
    rw [if_neg h1]
    show Bt.says (m.out ++ [_]) = _ ∧ Bt.elems (m.out ++ [_]) = _
    rw [Bt.says_push, Bt.elems_push]
    exact ⟨rfl, rfl⟩
  split
  · next h1 =>
    have : Bt.says (m.node ⟨1, t.name, Ts.e, t.attrs, 0⟩).out = Bt.says m.out ++ [] ∧ Bt.elems (m.node ⟨1, t.name, Ts.e, t.attrs, 0⟩).out = Bt.elems m.out + 1 := by
      show Bt.says (m.out ++ [_]) = _ ∧ Bt.elems (m.out ++ [_]) = _
      rw [Bt.says_push, Bt.elems_push]
      exact ⟨rfl, rfl⟩
    (try rw [if_pos h1])
    split
    · exact this
    · exact this
  · next h1 =>
    (try rw [if_neg h1])
    repeat' split
    all_goals exact ⟨(List.append_nil _).symm, rfl⟩
theorem Bt.run_says : ∀ (ts : List Tk) (m : Bt), Bt.Ok m → (Bt.run m ts).2 = true → Bt.says (Bt.run m ts).1.out = Bt.says m.out ++ Bt.said ts ∧ Bt.elems (Bt.run m ts).1.out = Bt.elems m.out + Bt.tags ts
  | [], m, _, _ => ⟨by show _ = _ ++ []; rw [List.append_nil]; rfl, rfl⟩
  | t :: ts, m, ok, hr => by
    obtain ⟨h1, h2⟩ := Bt.token_says m ok t
    unfold Bt.run at hr ⊢
    split at hr
    · cases hr
    · next hq =>
      rw [if_neg hq]
      obtain ⟨g1, g2⟩ := Bt.run_says ts (m.token t) (ok.token t) hr
      refine ⟨?_, ?_⟩
      · rw [g1, h1, List.append_assoc]
        rfl
      · rw [g2, h2]
        show _ = _ + (t :: ts).countP _
        rw [List.countP_cons]
        show Bt.elems m.out + (if t.kind = 1 then 1 else 0) + Bt.tags ts = Bt.elems m.out + (Bt.tags ts + if decide (t.kind = 1) = true then 1 else 0)
        by_cases q : t.kind = 1
        · rw [if_pos q, if_pos (decide_eq_true q)]; omega
        · rw [if_neg q, if_neg (by rw [decide_eq_false q]; decide)]; omega
end Go.Proofs.Ythfobjkdcncoiaa

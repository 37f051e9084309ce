/-
  PLAIN: what a script, a style, a title, a textarea holds is one text, up to its own end tag alone.
-/
import Derived.Test.YtjbkgokiikbaeaaDoorTCom
namespace Go.Proofs.YtjbkgokiikbaeaaDoor
/-- names of elements that hold their text: 0 script, 1 style, 2 title, 3 textarea -/
def Hd.name (k : Nat) : List UInt8 := if k = 0 then [115, 99, 114, 105, 112, 116] else if k = 1 then [115, 116, 121, 108, 101] else if k = 2 then [116, 105, 116, 108, 101] else [116, 101, 120, 116, 97, 114, 101, 97]
def Hd.nm (k : Nat) : ByteArray := ⟨(Hd.name k).toArray⟩
def Hd.st (k : Nat) : Ts := ⟨19, Ts.e, false, Ts.e, Hd.nm k, 0⟩
/-- what stands between the two texts -/
def Hd.mid (k : Nat) : List UInt8 := [60, 112, 62, 60, 47] ++ (Hd.name ((k + 1) % 4) ++ ([62, 60, 47] ++ ((Hd.name k).drop 1 ++ [62])))
theorem Hd.four {k : Nat} (hk : k < 4) : k = 0 ∨ k = 1 ∨ k = 2 ∨ k = 3 := by omega
theorem Hd.seg0 (P : ByteArray) (k : Nat) (hk : k < 4) : Rd.run P Rd.start 0 (60 :: (Hd.name k ++ [62])) = ⟨Hd.st k, [⟨1, Hd.nm k, Ts.e, [], false⟩], (Hd.name k).length + 2, 0, 0, [], false⟩ := by
  rcases Hd.four hk with rfl | rfl | rfl | rfl
  all_goals kernel_rfl
theorem Hd.stay (P : ByteArray) (k : Nat) (toks : List Tk) (text opn value : Nat) (attrs : List (ByteArray × ByteArray)) (taken : Bool) (i : Nat) (c : UInt8) (h : c ≠ 60) :
    Rd.read P ⟨Hd.st k, toks, text, opn, value, attrs, taken⟩ i c = ⟨Hd.st k, toks, text, opn, value, attrs, taken⟩ := by
  have hs : (Hd.st k).step c = Hd.st k := by
    show Ts.heldS ((Hd.st k).to 19) c = _
    unfold Ts.heldS
    rw [if_neg h]
    rfl
  unfold Rd.read
  simp only [hs]
  rfl
theorem Hd.seg2 (P : ByteArray) (k : Nat) (hk : k < 4) (toks : List Tk) (t o i : Nat) : ∃ o', Rd.run P ⟨Hd.st k, toks, t, o, 0, [], false⟩ i (Hd.mid k) = ⟨Hd.st k, toks, t, o', 0, [], false⟩ := by
  rcases Hd.four hk with rfl | rfl | rfl | rfl
  · exact ⟨i + 1 + 1 + 1 + 1 + 1 + 1 + 1 + 1 + 1 + 1 + 1, by kernel_rfl⟩
  · exact ⟨i + 1 + 1 + 1 + 1 + 1 + 1 + 1 + 1 + 1 + 1 + 1, by kernel_rfl⟩
  · exact ⟨i + 1 + 1 + 1 + 1 + 1 + 1 + 1 + 1 + 1 + 1 + 1 + 1 + 1 + 1, by kernel_rfl⟩
  · exact ⟨i + 1 + 1 + 1 + 1 + 1 + 1 + 1 + 1 + 1 + 1 + 1 + 1, by kernel_rfl⟩
theorem Hd.seg4 (P : ByteArray) (k : Nat) (hk : k < 4) (toks : List Tk) (t o i : Nat) : Rd.run P ⟨Hd.st k, toks, t, o, 0, [], false⟩ i ([60, 60, 47] ++ Hd.name k) = ⟨⟨22, Ts.e, false, Ts.e, Hd.nm k, (Hd.name k).length⟩, toks, t, i + 1, 0, [], false⟩ := by
  rcases Hd.four hk with rfl | rfl | rfl | rfl
  all_goals kernel_rfl
theorem Hd.seg5 (P : ByteArray) (k : Nat) (hk : k < 4) (toks : List Tk) (t o i : Nat) : Rd.read P ⟨⟨22, Ts.e, false, Ts.e, Hd.nm k, (Hd.name k).length⟩, toks, t, o, 0, [], false⟩ i 32 = Rd.tellText P ⟨⟨4, Hd.nm k, true, Ts.e, Ts.e, 0⟩, toks, t, o, 0, [], false⟩ o (Hd.nm k) := by
  rcases Hd.four hk with rfl | rfl | rfl | rfl
  all_goals kernel_rfl
theorem Hd.seg6 (P : ByteArray) (k : Nat) (hk : k < 4) (toks : List Tk) (t o i : Nat) : Rd.run P ⟨⟨4, Hd.nm k, true, Ts.e, Ts.e, 0⟩, toks, t, o, 0, [], false⟩ i [120, 62, 121] = ⟨Ts.only 0, toks ++ [⟨2, Hd.nm k, Ts.e, [], false⟩], i + 1 + 1, o, 0, [], true⟩ := by
  rcases Hd.four hk with rfl | rfl | rfl | rfl
  all_goals kernel_rfl
theorem Hd.end0 (P : ByteArray) (toks : List Tk) (t o : Nat) (h : t ≠ P.size) : Rd.done P ⟨Ts.only 0, toks, t, o, 0, [], true⟩ = toks ++ [⟨0, Ts.e, Rd.dec (P.extract t P.size), [], false⟩] := by
  show (Rd.tellText P ⟨Ts.only 0, toks, t, o, 0, [], true⟩ P.size Ts.e).toks = _
  unfold Rd.tellText
  rw [if_neg h]
  rfl
/-- what is held between the tags -/
def Hd.held (k : Nat) (s t : List UInt8) : List UInt8 := s ++ (Hd.mid k ++ (t ++ [60]))
theorem Hd.mid38 (k : Nat) (hk : k < 4) : ∀ x ∈ Hd.mid k, x ≠ 38 ∧ x ≠ 13 := by
  rcases Hd.four hk with rfl | rfl | rfl | rfl
  all_goals decide
theorem Hd.name38 (k : Nat) (hk : k < 4) : ∀ x ∈ Hd.name k, x ≠ 38 ∧ x ≠ 13 := by
  rcases Hd.four hk with rfl | rfl | rfl | rfl
  all_goals decide
theorem Hd.tokens (k : Nat) (hk : k < 4) (s t : List UInt8) (hs : ∀ c ∈ s, c ≠ 60 ∧ c ≠ 38 ∧ c ≠ 13) (ht : ∀ c ∈ t, c ≠ 60 ∧ c ≠ 38 ∧ c ≠ 13) :
    Rd.tokens ⟨((60 :: (Hd.name k ++ [62])) ++ (Hd.held k s t ++ ([60, 47] ++ (Hd.name k ++ [32, 120, 62, 121])))).toArray⟩ = [⟨1, Hd.nm k, Ts.e, [], false⟩, ⟨0, Ts.e, ⟨(Hd.held k s t).toArray⟩, [], false⟩, ⟨2, Hd.nm k, Ts.e, [], false⟩, ⟨0, Ts.e, ⟨#[121]⟩, [], false⟩] := by
  obtain ⟨L, hL⟩ : ∃ L, (60 :: (Hd.name k ++ [62])) ++ (Hd.held k s t ++ ([60, 47] ++ (Hd.name k ++ [32, 120, 62, 121]))) = L := ⟨_, rfl⟩
  have hH : ∀ x ∈ Hd.held k s t, x ≠ 38 ∧ x ≠ 13 := by
    intro x hx
    simp only [Hd.held, List.mem_append] at hx
    rcases hx with h | h | h | h
    · exact (hs x h).2
    · exact Hd.mid38 k hk x h
    · exact (ht x h).2
    · clear hL hs ht; revert x; decide
  have h13 : ∀ x ∈ L, x ≠ 13 := by
    intro x hx
    rw [← hL] at hx
    simp only [List.mem_append, List.mem_cons, List.not_mem_nil, or_false] at hx
    rcases hx with (h | h | h) | h | (h | h) | h | h | h | h | h
    · rw [h]; decide
    · exact (Hd.name38 k hk x h).2
    · rw [h]; decide
    · exact (hH x h).2
    · rw [h]; decide
    · rw [h]; decide
    · exact (Hd.name38 k hk x h).2
    all_goals (rw [h]; decide)
  rw [hL]
  show Rd.done ⟨(Rd.lines L).toArray⟩ (Rd.run ⟨(Rd.lines L).toArray⟩ Rd.start 0 (Rd.lines L)) = _
  rw [Sg.lines L h13]
  obtain ⟨P, hP⟩ : ∃ P : ByteArray, ⟨L.toArray⟩ = P := ⟨_, rfl⟩
  obtain ⟨n, hn⟩ : ∃ n, (Hd.name k).length = n := ⟨_, rfl⟩
  obtain ⟨q, hq⟩ : ∃ q, (Hd.held k s t).length = q := ⟨_, rfl⟩
  have hq' : q = s.length + (Hd.mid k).length + t.length + 1 := by rw [← hq]; simp [Hd.held]; omega
  have hsz : P.size = n + 2 + q + 2 + n + 4 := by
    rw [← hP, ← hL]
    show (List.toArray _).size = _
    simp [hn, hq]
    omega
  have e1 : P.extract (n + 2) (n + 2 + q) = ⟨(Hd.held k s t).toArray⟩ := by
    have := Sg.part (60 :: (Hd.name k ++ [62])) (Hd.held k s t) ([60, 47] ++ (Hd.name k ++ [32, 120, 62, 121])) (n + 2) (n + 2 + q) (by simp [hn]) (by simp [hn, hq])
    rw [← hP, ← hL]
    rw [List.append_assoc] at this
    exact this
  have e2 : P.extract (n + 2 + q + 2 + n + 3) P.size = ⟨#[121]⟩ := by
    have := Sg.part ((60 :: (Hd.name k ++ [62])) ++ (Hd.held k s t ++ ([60, 47] ++ (Hd.name k ++ [32, 120, 62])))) [121] [] (n + 2 + q + 2 + n + 3) P.size (by simp [hn, hq]; omega) (by rw [hsz]; simp [hn, hq]; omega)
    rw [← hP, ← hL]
    rw [← hP, ← hL] at this
    simpa using this
  rw [hP]
  have hrun : Rd.run P Rd.start 0 L = ⟨Ts.only 0, [⟨1, Hd.nm k, Ts.e, [], false⟩] ++ [⟨0, Ts.e, Rd.textOf P (n + 2) (n + 2 + q) (Hd.nm k), [], false⟩] ++ [⟨2, Hd.nm k, Ts.e, [], false⟩], n + 2 + q + 2 + n + 3, n + 2 + q, 0, [], true⟩ := by
    rw [← hL, Rd.run_append, Hd.seg0 P k hk, Hd.held, List.append_assoc, Rd.run_append, Sg.run_same P 60 _ (fun i x hx => Hd.stay P k _ _ _ _ _ _ i x hx) s _ (fun x hx => (hs x hx).1)]
    rw [List.append_assoc, Rd.run_append]
    obtain ⟨o', ho'⟩ := Hd.seg2 P k hk [⟨1, Hd.nm k, Ts.e, [], false⟩] ((Hd.name k).length + 2) 0 (0 + (60 :: (Hd.name k ++ [62])).length + s.length)
    rw [ho', List.append_assoc, Rd.run_append, Sg.run_same P 60 _ (fun i x hx => Hd.stay P k _ _ _ _ _ _ i x hx) t _ (fun x hx => (ht x hx).1)]
    rw [show ([60] ++ ([60, 47] ++ (Hd.name k ++ [32, 120, 62, 121])) : List UInt8) = ([60, 60, 47] ++ Hd.name k) ++ (32 :: [120, 62, 121]) from by simp, Rd.run_append, Hd.seg4 P k hk]
    show Rd.run P (Rd.read P _ _ 32) _ _ = _
    rw [Hd.seg5 P k hk]
    have hlen : (60 :: (Hd.name k ++ [62]) : List UInt8).length = n + 2 := by simp [hn]
    have hop : 0 + (60 :: (Hd.name k ++ [62]) : List UInt8).length + s.length + (Hd.mid k).length + t.length + 1 = n + 2 + q := by rw [hlen]; omega
    rw [hop, hn]
    unfold Rd.tellText
    rw [if_neg (by show ¬ n + 2 = n + 2 + q; omega)]
    show Rd.run P ⟨⟨4, Hd.nm k, true, Ts.e, Ts.e, 0⟩, [⟨1, Hd.nm k, Ts.e, [], false⟩] ++ [⟨0, Ts.e, Rd.textOf P (n + 2) (n + 2 + q) (Hd.nm k), [], false⟩], n + 2 + q, n + 2 + q, 0, [], false⟩ _ _ = _
    rw [Hd.seg6 P k hk]
    have hfin : 0 + (60 :: (Hd.name k ++ [62]) : List UInt8).length + s.length + (Hd.mid k).length + t.length + ([60, 60, 47] ++ Hd.name k : List UInt8).length + 1 + 1 + 1 = n + 2 + q + 2 + n + 3 := by
      have : ([60, 60, 47] ++ Hd.name k : List UInt8).length = n + 3 := by simp [hn]
      rw [hlen, this]
      omega
    rw [hfin]
  rw [hrun, Hd.end0 _ _ _ _ (by omega), e2]
  have d1 : Rd.textOf P (n + 2) (n + 2 + q) (Hd.nm k) = ⟨(Hd.held k s t).toArray⟩ := by
    unfold Rd.textOf
    rw [e1, Sg.decB _ (fun x hx => (hH x hx).1)]
    exact ite_self _
  have d2 : Rd.dec ⟨#[121]⟩ = ⟨#[121]⟩ := Sg.decB [121] (by decide)
  rw [d1, d2]
  rfl
end Go.Proofs.YtjbkgokiikbaeaaDoor

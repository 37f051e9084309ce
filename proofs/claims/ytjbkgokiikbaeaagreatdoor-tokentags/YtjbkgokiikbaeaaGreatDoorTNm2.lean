/-
  PLAIN: names that are too long, of tags as of attributes.
-/
import Derived.Test.YtjbkgokiikbaeaaGreatDoorTCom
namespace Go.Proofs.YtjbkgokiikbaeaaGreatDoor
def Nm.up (c : UInt8) : Prop := 65 ≤ c.toNat ∧ c.toNat ≤ 90
theorem Nm.ne {c : UInt8} (h : Nm.up c) (k : UInt8) (hk : k.toNat < 65) : c ≠ k := fun e => by subst e; exact absurd h.1 (by omega)
theorem Nm.blank {c : UInt8} (h : Nm.up c) : Ts.blank c = false := by
  have n9 := Nm.ne h 9 (by decide)
  have n10 := Nm.ne h 10 (by decide)
  have n12 := Nm.ne h 12 (by decide)
  have n13 := Nm.ne h 13 (by decide)
  have n32 := Nm.ne h 32 (by decide)
  simp [Ts.blank, n9, n10, n12, n13, n32]
theorem Nm.letter {c : UInt8} (h : Nm.up c) : Ts.letter c = true := by
  simp [Ts.letter, h.1, h.2]
theorem Nm.tag {c : UInt8} (h : Nm.up c) (N : ByteArray) (f : Bool) : (⟨3, N, f, Ts.e, Ts.e, 0⟩ : Ts).step c = ⟨3, Ts.grown N c, f, Ts.e, Ts.e, 0⟩ := by
  show Ts.tagName ((⟨3, N, f, Ts.e, Ts.e, 0⟩ : Ts).to 3) c = _
  unfold Ts.tagName
  rw [if_neg (by rw [Nm.blank h]; decide), if_neg (Nm.ne h 47 (by decide)), if_neg (Nm.ne h 62 (by decide))]
  rfl
theorem Nm.att {c : UInt8} (h : Nm.up c) (N A : ByteArray) (f : Bool) : (⟨5, N, f, A, Ts.e, 0⟩ : Ts).step c = ⟨5, N, f, Ts.grown A c, Ts.e, 0⟩ := by
  show Ts.attrName ((⟨5, N, f, A, Ts.e, 0⟩ : Ts).to 5) c = _
  unfold Ts.attrName
  rw [if_neg (by rw [Nm.blank h]; decide), if_neg (Nm.ne h 47 (by decide)), if_neg (Nm.ne h 62 (by decide)), if_neg (Nm.ne h 61 (by decide))]
  rfl
theorem Nm.readTag (P : ByteArray) {c : UInt8} (h : Nm.up c) (N : ByteArray) (f : Bool) (toks : List Tk) (t o v i : Nat) (al : List (ByteArray × ByteArray)) (tk : Bool) :
    Rd.read P ⟨⟨3, N, f, Ts.e, Ts.e, 0⟩, toks, t, o, v, al, tk⟩ i c = ⟨⟨3, Ts.grown N c, f, Ts.e, Ts.e, 0⟩, toks, t, o, v, al, tk⟩ := by
  unfold Rd.read
  simp only [Nm.tag h]
  rfl
theorem Nm.readAtt (P : ByteArray) {c : UInt8} (h : Nm.up c) (N A : ByteArray) (f : Bool) (toks : List Tk) (t o v i : Nat) (al : List (ByteArray × ByteArray)) (tk : Bool) :
    Rd.read P ⟨⟨5, N, f, A, Ts.e, 0⟩, toks, t, o, v, al, tk⟩ i c = ⟨⟨5, N, f, Ts.grown A c, Ts.e, 0⟩, toks, t, o, v, al, tk⟩ := by
  unfold Rd.read
  simp only [Nm.att h]
  rfl
def Nm.grow (N : ByteArray) (l : List UInt8) : ByteArray := l.foldl Ts.grown N
theorem Nm.runTag (P : ByteArray) : ∀ (l : List UInt8), (∀ c ∈ l, Nm.up c) → ∀ (N : ByteArray) (f : Bool) (toks : List Tk) (t o v i : Nat) (al : List (ByteArray × ByteArray)) (tk : Bool),
    Rd.run P ⟨⟨3, N, f, Ts.e, Ts.e, 0⟩, toks, t, o, v, al, tk⟩ i l = ⟨⟨3, Nm.grow N l, f, Ts.e, Ts.e, 0⟩, toks, t, o, v, al, tk⟩
  | [], _, _, _, _, _, _, _, _, _, _ => rfl
  | c :: l, h, N, f, toks, t, o, v, i, al, tk => by
    show Rd.run P (Rd.read P _ i c) (i + 1) l = _
    rw [Nm.readTag P (h c (by simp)), Nm.runTag P l (fun x hx => h x (by simp [hx]))]
    rfl
theorem Nm.runAtt (P : ByteArray) : ∀ (l : List UInt8), (∀ c ∈ l, Nm.up c) → ∀ (N A : ByteArray) (f : Bool) (toks : List Tk) (t o v i : Nat) (al : List (ByteArray × ByteArray)) (tk : Bool),
    Rd.run P ⟨⟨5, N, f, A, Ts.e, 0⟩, toks, t, o, v, al, tk⟩ i l = ⟨⟨5, N, f, Nm.grow A l, Ts.e, 0⟩, toks, t, o, v, al, tk⟩
  | [], _, _, _, _, _, _, _, _, _, _, _ => rfl
  | c :: l, h, N, A, f, toks, t, o, v, i, al, tk => by
    show Rd.run P (Rd.read P _ i c) (i + 1) l = _
    rw [Nm.readAtt P (h c (by simp)), Nm.runAtt P l (fun x hx => h x (by simp [hx]))]
    rfl
theorem Nm.grow_eq : ∀ (l L : List UInt8), L.length ≤ 32 → Nm.grow ⟨L.toArray⟩ l = ⟨((L ++ l.map Pl.lowB).take 32).toArray⟩
  | [], L, h => by simp [Nm.grow, List.take_of_length_le h]
  | c :: l, L, h => by
    show Nm.grow (Ts.grown ⟨L.toArray⟩ c) l = _
    unfold Ts.grown
    by_cases hL : 32 ≤ L.length
    · have e : L.length = 32 := by omega
      rw [if_pos (by show 32 ≤ L.toArray.size; simpa using hL)]
      have e1 : (⟨L.toArray⟩ : ByteArray).extract 0 32 = ⟨L.toArray⟩ := by
        have := Sg.part [] L [] 0 32 rfl (by simp [e])
        simpa using this
      rw [e1, Nm.grow_eq l L h, List.take_append_of_le_length (by omega), List.take_append_of_le_length (by omega)]
    · rw [if_neg (by show ¬ 32 ≤ L.toArray.size; simpa using hL)]
      have e1 : (⟨L.toArray⟩ : ByteArray) ++ Ts.low c = ⟨(L ++ [Pl.lowB c]).toArray⟩ := by
        apply ByteArray.ext
        simp [Ts.low, ByteArray.data_append]
      rw [e1, Nm.grow_eq l (L ++ [Pl.lowB c]) (by simp; omega)]
      simp
theorem Nm.first (P : ByteArray) {c : UInt8} (h : Nm.up c) : Rd.read P ⟨Ts.only 1, [], 0, 0, 0, [], false⟩ 1 c = ⟨⟨3, Ts.low c, false, Ts.e, Ts.e, 0⟩, [], 0, 0, 0, [], false⟩ := by
  have hs : (Ts.only 1).step c = ⟨3, Ts.low c, false, Ts.e, Ts.e, 0⟩ := by
    show Ts.tagOpen ((Ts.only 1).to 1) c = _
    unfold Ts.tagOpen
    rw [if_pos (Nm.letter h)]
    rfl
  unfold Rd.read
  simp only [hs]
  rfl
theorem Nm.firstEnd (P : ByteArray) {c : UInt8} (h : Nm.up c) : Rd.read P ⟨Ts.only 2, [], 0, 0, 0, [], false⟩ 2 c = ⟨⟨3, Ts.low c, true, Ts.e, Ts.e, 0⟩, [], 0, 0, 0, [], false⟩ := by
  have hs : (Ts.only 2).step c = ⟨3, Ts.low c, true, Ts.e, Ts.e, 0⟩ := by
    show Ts.endOpen ((Ts.only 2).to 2) c = _
    unfold Ts.endOpen
    rw [if_pos (Nm.letter h)]
    rfl
  unfold Rd.read
  simp only [hs]
  rfl
theorem Nm.firstAtt (P : ByteArray) {c : UInt8} (h : Nm.up c) (N : ByteArray) (i : Nat) : Rd.read P ⟨⟨4, N, false, Ts.e, Ts.e, 0⟩, [], 0, 0, 0, [], false⟩ i c = ⟨⟨5, N, false, Ts.low c, Ts.e, 0⟩, [], 0, 0, 0, [], false⟩ := by
  have hs : (⟨4, N, false, Ts.e, Ts.e, 0⟩ : Ts).step c = ⟨5, N, false, Ts.low c, Ts.e, 0⟩ := by
    show Ts.beforeAttr ((⟨4, N, false, Ts.e, Ts.e, 0⟩ : Ts).to 4) c = _
    unfold Ts.beforeAttr
    rw [if_neg (by rw [Nm.blank h]; decide), if_neg (Nm.ne h 47 (by decide)), if_neg (Nm.ne h 62 (by decide))]
    rfl
  unfold Rd.read
  simp only [hs]
  rfl
theorem Nm.shutEnd (P : ByteArray) (N : ByteArray) (i : Nat) : Rd.read P ⟨⟨3, N, true, Ts.e, Ts.e, 0⟩, [], 0, 0, 0, [], false⟩ i 62 = ⟨Ts.only 0, [⟨2, N, Ts.e, [], false⟩], i + 1, 0, 0, [], false⟩ := by kernel_rfl
theorem Nm.space (P : ByteArray) (N : ByteArray) (i : Nat) : Rd.read P ⟨⟨3, N, false, Ts.e, Ts.e, 0⟩, [], 0, 0, 0, [], false⟩ i 32 = ⟨⟨4, N, false, Ts.e, Ts.e, 0⟩, [], 0, 0, 0, [], false⟩ := by kernel_rfl
theorem Nm.val (P : ByteArray) (N A : ByteArray) (i : Nat) : Rd.run P ⟨⟨5, N, false, A, Ts.e, 0⟩, [], 0, 0, 0, [], false⟩ i [61, 49] = ⟨⟨10, N, false, A, Ts.e, 0⟩, [], 0, 0, i + 1, [(A, Ts.e)], true⟩ := by kernel_rfl
theorem Nm.shut (P : ByteArray) (N A : ByteArray) (v i : Nat) (h : Ts.kind N = 0) : Rd.read P ⟨⟨10, N, false, A, Ts.e, 0⟩, [], 0, 0, v, [(A, Ts.e)], true⟩ i 62 = ⟨Ts.only 0, [⟨1, N, Ts.e, [(A, Rd.dec (P.extract v i))], false⟩], i + 1, 0, v, [], true⟩ := by
  have hs : (⟨10, N, false, A, Ts.e, 0⟩ : Ts).step 62 = Ts.only 0 := by
    show Ts.closed (⟨10, N, false, A, Ts.e, 0⟩ : Ts) = _
    exact if_pos (Or.inr (Or.inl h))
  unfold Rd.read
  simp only [hs]
  rfl
theorem Nm.over (P : ByteArray) (toks : List Tk) (t v : Nat) (tk : Bool) (h : t = P.size) : Rd.done P ⟨Ts.only 0, toks, t, 0, v, [], tk⟩ = toks := by
  show (Rd.tellText P ⟨Ts.only 0, toks, t, 0, v, [], tk⟩ P.size Ts.e).toks = _
  unfold Rd.tellText
  rw [if_pos h]
theorem Nm.kind (l : List UInt8) : Ts.kind ⟨(97 :: l).toArray⟩ = 0 := by
  simp [Ts.kind]
theorem Nm.grown (l : List UInt8) : Nm.grow (Ts.low 65) l = ⟨(((65 :: l).map Pl.lowB).take 32).toArray⟩ := by
  have := Nm.grow_eq l [Pl.lowB 65] (by simp)
  simpa [Ts.low] using this
theorem Nm.no13 (l : List UInt8) (h : ∀ c ∈ l, Nm.up c) : ∀ c ∈ l, c ≠ 13 := fun c hc => Nm.ne (h c hc) 13 (by decide)
theorem Nm.endTokens (l : List UInt8) (h : ∀ c ∈ l, Nm.up c) : Rd.tokens ⟨([60, 47] ++ (65 :: (l ++ [62]))).toArray⟩ = [⟨2, ⟨(((65 :: l).map Pl.lowB).take 32).toArray⟩, Ts.e, [], false⟩] := by
  have hl : Rd.lines ([60, 47] ++ (65 :: (l ++ [62]))) = [60, 47] ++ (65 :: (l ++ [62])) := Sg.lines _ (fun c hc => by
    simp only [List.mem_append, List.mem_cons, List.not_mem_nil, or_false] at hc
    rcases hc with (e | e) | e | e | e
    · rw [e]; decide
    · rw [e]; decide
    · rw [e]; decide
    · exact Nm.no13 l h c e
    · rw [e]; decide)
  show Rd.done ⟨(Rd.lines ([60, 47] ++ (65 :: (l ++ [62])))).toArray⟩ (Rd.run ⟨(Rd.lines ([60, 47] ++ (65 :: (l ++ [62])))).toArray⟩ Rd.start 0 (Rd.lines ([60, 47] ++ (65 :: (l ++ [62]))))) = _
  rw [hl]
  obtain ⟨P, hP⟩ : ∃ P : ByteArray, ⟨([60, 47] ++ (65 :: (l ++ [62]))).toArray⟩ = P := ⟨_, rfl⟩
  have hsz : P.size = l.length + 4 := by
    rw [← hP]
    show (List.toArray _).size = _
    simp
  rw [hP, Rd.run_append, show Rd.run P Rd.start 0 [60, 47] = ⟨Ts.only 2, [], 0, 0, 0, [], false⟩ from by kernel_rfl]
  show Rd.done P (Rd.run P (Rd.read P _ 2 65) 3 (l ++ [62])) = _
  rw [Nm.firstEnd P (by unfold Nm.up; decide), Rd.run_append, Nm.runTag P l h]
  show Rd.done P (Rd.read P _ _ 62) = _
  rw [Nm.shutEnd, Nm.over _ _ _ _ _ (by rw [hsz]; omega), Nm.grown]
theorem Nm.tagTokens (l : List UInt8) (h : ∀ c ∈ l, Nm.up c) : Rd.tokens ⟨([60] ++ (65 :: (l ++ (32 :: 65 :: (l ++ [61, 49, 62]))))).toArray⟩ = [⟨1, ⟨(((65 :: l).map Pl.lowB).take 32).toArray⟩, Ts.e, [(⟨(((65 :: l).map Pl.lowB).take 32).toArray⟩, ⟨#[49]⟩)], false⟩] := by
  obtain ⟨L, hL⟩ : ∃ L, [60] ++ (65 :: (l ++ (32 :: 65 :: (l ++ [61, 49, 62])))) = L := ⟨_, rfl⟩
  have hl : Rd.lines L = L := Sg.lines _ (fun c hc => by
    rw [← hL] at hc
    simp only [List.mem_append, List.mem_cons, List.not_mem_nil, or_false] at hc
    rcases hc with e | e | e | e | e | e | e | e | e
    · rw [e]; decide
    · rw [e]; decide
    · exact Nm.no13 l h c e
    · rw [e]; decide
    · rw [e]; decide
    · exact Nm.no13 l h c e
    all_goals (rw [e]; decide))
  rw [hL]
  show Rd.done ⟨(Rd.lines L).toArray⟩ (Rd.run ⟨(Rd.lines L).toArray⟩ Rd.start 0 (Rd.lines L)) = _
  rw [hl]
  obtain ⟨P, hP⟩ : ∃ P : ByteArray, ⟨L.toArray⟩ = P := ⟨_, rfl⟩
  have hsz : P.size = l.length + l.length + 7 := by
    rw [← hP, ← hL]
    show (List.toArray _).size = _
    simp
    omega
  have e1 : P.extract (l.length + l.length + 5) (l.length + l.length + 6) = ⟨#[49]⟩ := by
    have := Sg.part ([60] ++ (65 :: (l ++ (32 :: 65 :: (l ++ [61]))))) [49] [62] (l.length + l.length + 5) (l.length + l.length + 6) (by simp; omega) (by simp; omega)
    rw [← hP, ← hL]
    simpa using this
  have hk : Ts.kind ⟨(((65 :: l).map Pl.lowB).take 32).toArray⟩ = 0 := by
    have : ((65 :: l).map Pl.lowB).take 32 = 97 :: (l.map Pl.lowB).take 31 := rfl
    rw [this]
    exact Nm.kind _
  rw [hP, ← hL, Rd.run_append, show Rd.run P Rd.start 0 [60] = ⟨Ts.only 1, [], 0, 0, 0, [], false⟩ from by kernel_rfl]
  show Rd.done P (Rd.run P (Rd.read P _ 1 65) 2 (l ++ (32 :: 65 :: (l ++ [61, 49, 62])))) = _
  rw [Nm.first P (by unfold Nm.up; decide), Rd.run_append, Nm.runTag P l h]
  show Rd.done P (Rd.run P (Rd.read P (Rd.read P _ _ 32) _ 65) _ (l ++ [61, 49, 62])) = _
  rw [Nm.space, Nm.firstAtt P (by unfold Nm.up; decide), Rd.run_append, Nm.runAtt P l h]
  rw [show ([61, 49, 62] : List UInt8) = [61, 49] ++ [62] from rfl, Rd.run_append, Nm.val]
  show Rd.done P (Rd.read P _ _ 62) = _
  rw [Nm.grown, Nm.shut _ _ _ _ _ hk, Nm.over _ _ _ _ _ (by rw [hsz]; simp only [List.length_cons, List.length_nil]; omega)]
  have a1 : 2 + l.length + 1 + 1 + l.length + 1 = l.length + l.length + 5 := by omega
  have a2 : 2 + l.length + 1 + 1 + l.length + ([61, 49] : List UInt8).length = l.length + l.length + 6 := by simp only [List.length_cons, List.length_nil]; omega
  have d : Rd.dec ⟨#[49]⟩ = ⟨#[49]⟩ := Sg.decB [49] (by decide)
  rw [a1, a2, e1, d]
end Go.Proofs.YtjbkgokiikbaeaaGreatDoor

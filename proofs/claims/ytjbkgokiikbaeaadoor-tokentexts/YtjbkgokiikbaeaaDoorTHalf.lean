/-
  PLAIN: a tag, a comment that has not ended with the page is nothing; what stood ahead of it is told.
-/
import Derived.Test.YtjbkgokiikbaeaaDoorTSeg
import Derived.KernelRfl
namespace Go.Proofs.YtjbkgokiikbaeaaDoor
def Hf.halves : List (List UInt8) := [[60, 112], [60, 112, 32], [60, 112, 32, 97], [60, 112, 32, 97, 61], [60, 112, 32, 97, 61, 39, 120], [60, 112, 32, 97, 61, 34, 120, 62], [60, 112, 32, 97, 61, 120], [60, 112, 47], [60, 47, 112], [60, 47, 112, 32, 97, 61, 39], [60, 33], [60, 33, 45], [60, 33, 45, 45, 120], [60, 33, 45, 45, 120, 45, 45], [60, 33, 113]]
def Hf.clean (t : List UInt8) : Prop := ∀ c ∈ t, c ≠ 60 ∧ c ≠ 38 ∧ c ≠ 13
theorem Hf.tokens_eq (t h : List UInt8) (ht : Hf.clean t) (hh : ∀ c ∈ h, c ≠ 13) : Rd.tokens ⟨(t ++ h).toArray⟩ = Rd.done ⟨(t ++ h).toArray⟩ (Rd.run ⟨(t ++ h).toArray⟩ Rd.start t.length h) := by
  have hl : Rd.lines (t ++ h) = t ++ h := Sg.lines _ (fun c hc => by
    rcases List.mem_append.1 hc with x | x
    · exact (ht c x).2.2
    · exact hh c x)
  show Rd.done ⟨(Rd.lines (t ++ h)).toArray⟩ (Rd.run ⟨(Rd.lines (t ++ h)).toArray⟩ Rd.start 0 (Rd.lines (t ++ h))) = _
  rw [hl, Rd.run_append, Sg.data _ t _ _ rfl (fun c hc => (ht c hc).1), Nat.zero_add]
theorem Hf.told (P : ByteArray) (m : Nat) : ∀ h ∈ Hf.halves, Rd.done P (Rd.run P Rd.start (m + 1) h) = [⟨0, Ts.e, Rd.textOf P 0 (m + 1) Ts.e, [], false⟩] := by
  intro h hh
  simp only [Hf.halves, List.mem_cons, List.not_mem_nil, or_false] at hh
  rcases hh with rfl | rfl | rfl | rfl | rfl | rfl | rfl | rfl | rfl | rfl | rfl | rfl | rfl | rfl | rfl
  all_goals kernel_rfl
theorem Hf.told0 (P : ByteArray) : ∀ h ∈ Hf.halves, Rd.done P (Rd.run P Rd.start 0 h) = [] := by
  intro h hh
  simp only [Hf.halves, List.mem_cons, List.not_mem_nil, or_false] at hh
  rcases hh with rfl | rfl | rfl | rfl | rfl | rfl | rfl | rfl | rfl | rfl | rfl | rfl | rfl | rfl | rfl
  all_goals kernel_rfl
theorem Hf.no13 : ∀ h ∈ Hf.halves, ∀ c ∈ h, c ≠ 13 := by decide
theorem Hf.half (t h : List UInt8) (ht : Hf.clean t) (hh : h ∈ Hf.halves) : Rd.tokens ⟨(t ++ h).toArray⟩ = if t = [] then [] else [⟨0, Ts.e, ⟨t.toArray⟩, [], false⟩] := by
  rw [Hf.tokens_eq t h ht (Hf.no13 h hh)]
  rcases t with _ | ⟨c, l⟩
  · exact Hf.told0 _ h hh
  · rw [show (c :: l).length = l.length + 1 from rfl, Hf.told _ _ h hh, if_neg (by simp)]
    have e1 : (⟨(c :: l ++ h).toArray⟩ : ByteArray).extract 0 (l.length + 1) = ⟨(c :: l).toArray⟩ := by
      have := Sg.part [] (c :: l) h 0 (l.length + 1) rfl (by simp)
      simpa using this
    have e2 : Rd.textOf ⟨(c :: l ++ h).toArray⟩ 0 (l.length + 1) Ts.e = ⟨(c :: l).toArray⟩ := by
      show Rd.dec ((⟨(c :: l ++ h).toArray⟩ : ByteArray).extract 0 (l.length + 1)) = _
      rw [e1, Sg.decB _ (fun x hx => (ht x hx).2.1)]
    rw [e2]
theorem Hf.toldLt (P : ByteArray) (n k : Nat) (hP : P.size = k + 1) : Rd.done P (Rd.run P Rd.start n [60]) = [⟨0, Ts.e, Rd.dec (P.extract 0 (k + 1)), [], false⟩] := by
  show (Rd.tellText P (Rd.run P Rd.start n [60]) P.size Ts.e).toks = _
  rw [hP]
  rfl
theorem Hf.toldSl (P : ByteArray) (n k : Nat) (hP : P.size = k + 1) : Rd.done P (Rd.run P Rd.start n [60, 47]) = [⟨0, Ts.e, Rd.dec (P.extract 0 (k + 1)), [], false⟩] := by
  show (Rd.tellText P (Rd.run P Rd.start n [60, 47]) P.size Ts.e).toks = _
  rw [hP]
  rfl
theorem Hf.all (l : List UInt8) (k : Nat) (h : l.length = k) (hl : ∀ c ∈ l, c ≠ 38) : Rd.dec ((⟨l.toArray⟩ : ByteArray).extract 0 k) = ⟨l.toArray⟩ := by
  have e1 : (⟨l.toArray⟩ : ByteArray).extract 0 k = ⟨l.toArray⟩ := by
    have := Sg.part [] l [] 0 k rfl (by simp [h])
    simpa using this
  rw [e1, Sg.decB l hl]
theorem Hf.lt (t : List UInt8) (ht : Hf.clean t) : Rd.tokens ⟨(t ++ [60]).toArray⟩ = [⟨0, Ts.e, ⟨(t ++ [60]).toArray⟩, [], false⟩] := by
  rw [Hf.tokens_eq t _ ht (by decide), Hf.toldLt _ _ t.length (by show (t ++ [60]).toArray.size = _; simp), Hf.all _ _ (by simp)]
  intro c hc
  rcases List.mem_append.1 hc with x | x
  · exact (ht c x).2.1
  · clear hc; revert c; decide
theorem Hf.sl (t : List UInt8) (ht : Hf.clean t) : Rd.tokens ⟨(t ++ [60, 47]).toArray⟩ = [⟨0, Ts.e, ⟨(t ++ [60, 47]).toArray⟩, [], false⟩] := by
  rw [Hf.tokens_eq t _ ht (by decide), Hf.toldSl _ _ (t.length + 1) (by show (t ++ [60, 47]).toArray.size = _; simp), Hf.all _ _ (by simp)]
  intro c hc
  rcases List.mem_append.1 hc with x | x
  · exact (ht c x).2.1
  · clear hc; revert c; decide
end Go.Proofs.YtjbkgokiikbaeaaDoor

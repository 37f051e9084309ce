/-
  PLAIN: words written behind each other, with blanks ahead.
-/
import Derived.Test.YtnophkbbeipaaaaOBack2
import Derived.Test.YtnophkbbeipaaaaGBits
namespace Go.Proofs.Ytnophkbbeipaaaa
def Ow.Line (WS : List Wo) (i : Nat) (R : ByteArray) : Prop := ∃ ps : List (List UInt8 × Wo), ps.map (·.2) = WS.take i ∧ (∀ p ∈ ps, (p.1 ≠ [] ∧ ∀ c ∈ p.1, Lx.blank c = true) ∧ p.1.length ≤ 2) ∧ R.data.toList = Wx.line ps
theorem Ow.Line.nil (WS : List Wo) : Ow.Line WS 0 ⟨#[]⟩ := ⟨[], rfl, fun p hp => by simp at hp, rfl⟩
theorem Ow.Line.step {WS : List Wo} {i : Nat} {R T G : ByteArray} {x : Wo} (h : Ow.Line WS i R) (hx : WS[i]? = some x) (hT : T.data.toList = Wx.wr x) (hG : (G.data.toList ≠ [] ∧ ∀ c ∈ G.data.toList, Lx.blank c = true) ∧ G.data.toList.length ≤ 2) : Ow.Line WS (i + 1) (R ++ G ++ T) := by
  obtain ⟨ps, h1, h2, h3⟩ := h
  refine ⟨ps ++ [(G.data.toList, x)], ?_, fun p hp => ?_, ?_⟩
  · rw [List.map_append, h1, List.take_add_one, hx]
    rfl
  · rcases List.mem_append.1 hp with hp | hp
    · exact h2 p hp
    · rw [List.mem_singleton.1 hp]
      exact hG
  · rw [Lf.append, Lf.append, h3, hT]
    simp [Wx.line]
theorem Wx.line_bulk : ∀ ps : List (List UInt8 × Wo), (∀ p ∈ ps, p.1.length ≤ 2) → (Wx.line ps).length ≤ Wx.bulk (ps.map (·.2)) := by
  intro ps
  induction ps with
  | nil => intro _; exact Nat.le_refl _
  | cons p ps ih =>
    intro h
    have h1 := ih (fun q hq => h q (List.mem_cons_of_mem _ hq))
    have h2 := h p (List.mem_cons_self ..)
    have e1 : Wx.line (p :: ps) = (p.1 ++ Wx.wr p.2) ++ Wx.line ps := by simp [Wx.line]
    have e2 : Wx.bulk ((p :: ps).map (·.2)) = ((Wx.wr p.2).length + 2) + Wx.bulk (ps.map (·.2)) := by simp [Wx.bulk]
    rw [e1, e2, List.length_append, List.length_append]
    omega
theorem Wx.bulk_take (WS : List Wo) (i : Nat) : Wx.bulk (WS.take i) ≤ Wx.bulk WS := by
  have e : Wx.bulk (WS.take i ++ WS.drop i) = Wx.bulk (WS.take i) + Wx.bulk (WS.drop i) := by simp only [Wx.bulk, List.map_append, List.sum_append_nat]
  rw [List.take_append_drop] at e
  omega
theorem Ow.Line.size {WS : List Wo} {i : Nat} {R : ByteArray} (h : Ow.Line WS i R) : R.size ≤ Wx.bulk WS := by
  obtain ⟨ps, h1, h2, h3⟩ := h
  have a := Wx.line_bulk ps (fun p hp => (h2 p hp).2)
  rw [h1, ← h3, Wk.len_data] at a
  exact Nat.le_trans a (Wx.bulk_take WS i)
theorem Ow.Line.fin {WS : List Wo} {i : Nat} {R : ByteArray} (h : Ow.Line WS i R) (hi : i = WS.length) (hg : ∀ x ∈ WS, Wx.good x) : Wx.words (R ++ ⟨#[32]⟩) = (WS, 0) := by
  obtain ⟨ps, h1, h2, h3⟩ := h
  subst hi
  rw [List.take_length] at h1
  have hw := Wx.words_back ps (R ++ ⟨#[32]⟩) (by rw [Lf.append, h3]) (fun p hp => ⟨(h2 p hp).1, hg p.2 (by rw [← h1]; exact List.mem_map_of_mem hp)⟩)
  rw [hw, h1]
theorem Wx.escs_ge : ∀ l : List UInt8, l.length ≤ (l.flatMap Wx.esc).length := by
  intro l
  induction l with
  | nil => simp
  | cons c l ih =>
    have : 1 ≤ (Wx.esc c).length := by
      unfold Wx.esc
      repeat' split
      all_goals simp
    simp only [List.flatMap_cons, List.length_append, List.length_cons]
    omega
theorem Wx.text_le {x : Wo} (h : Wx.good x) : x.text.length ≤ (Wx.wr x).length := by
  obtain ⟨k, t, ps, m⟩ := x
  rcases h with h | h | h | h | h | h | h <;> simp only at h ⊢
  · obtain ⟨rfl, _⟩ := h
    exact Nat.le_refl _
  · rw [h.2.1]; exact Nat.zero_le _
  · obtain ⟨rfl, _⟩ := h
    show t.length ≤ (36 :: (t ++ Wx.dots ps)).length
    simp
    omega
  · rw [h.2.1]; exact Nat.zero_le _
  · obtain ⟨rfl, _⟩ := h
    show t.length ≤ (34 :: (t.flatMap Wx.esc ++ [34])).length
    have := Wx.escs_ge t
    rw [List.length_cons, List.length_append]
    omega
  · rw [h.2.1]; exact Nat.zero_le _
  · rw [h.2.1]; exact Nat.zero_le _
theorem Wx.mem_bulk {WS : List Wo} {x : Wo} (h : x ∈ WS) : (Wx.wr x).length + 2 ≤ Wx.bulk WS := by
  obtain ⟨a, b, rfl⟩ := List.append_of_mem h
  simp only [Wx.bulk, List.map_append, List.map_cons, List.sum_append_nat, List.sum_cons]
  omega
/-- the four gaps -/
theorem Ow.gaps : ∀ G ∈ ([⟨#[32]⟩, ⟨#[10]⟩, ⟨#[9, 32]⟩, ⟨#[32, 32]⟩] : List ByteArray), (G.data.toList ≠ [] ∧ ∀ c ∈ G.data.toList, Lx.blank c = true) ∧ G.data.toList.length ≤ 2 := by
  intro G hG
  simp only [List.mem_cons, List.not_mem_nil, or_false] at hG
  rcases hG with rfl | rfl | rfl | rfl <;> decide
end Go.Proofs.Ytnophkbbeipaaaa

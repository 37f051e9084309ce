/-
  PLAIN: a word has a byte at least.
-/
import Derived.Test.YtnophkbbeipaaaaOName
namespace Go.Proofs.Ytnophkbbeipaaaa
theorem Wx.name_lt {S t : List UInt8} {i j : Nat} (h : Wx.name S i = some (t, j)) : i < j := by
  unfold Wx.name at h
  simp only at h
  split at h
  · cases h
  · rename_i q
    injection h with h
    have h2 := congrArg Prod.snd h
    simp only at h2
    have := Wx.nend_ge (S.drop i) true i
    omega
theorem Wx.names_le : ∀ (n : Nat) (S : List UInt8) (i : Nat) (out r : List (List UInt8)) (j : Nat), Wx.names n S i out = some (r, j) → i ≤ j := by
  intro n
  induction n with
  | zero =>
    intro S i out r j h
    unfold Wx.names at h
    injection h with h
    have h2 := congrArg Prod.snd h
    simp only at h2
    omega
  | succ n ih =>
    intro S i out r j h
    unfold Wx.names at h
    split at h
    · split at h
      · cases h
      · rename_i t q hq
        have h1 := Wx.name_lt hq
        have h2 := ih _ _ _ _ _ h
        omega
    · injection h with h
      have h2 := congrArg Prod.snd h
      simp only at h2
      omega
theorem Wx.path_le {S : List UInt8} {i j : Nat} {r : List (List UInt8)} (h : Wx.path S i = some (r, j)) : i ≤ j := by
  unfold Wx.path at h
  split at h
  · cases h
  · rename_i p q hq
    split at h
    · cases h
    · injection h with h
      have h2 := congrArg Prod.snd h
      simp only at h2
      have := Wx.names_le _ _ _ _ _ _ hq
      omega
theorem Wx.path_lt {S : List UInt8} {i j : Nat} {r : List (List UInt8)} (hd : S[i]? = some 46) (h : Wx.path S i = some (r, j)) : i < j := by
  unfold Wx.path at h
  split at h
  · cases h
  · rename_i p q hq
    split at h
    · cases h
    · injection h with h
      have h2 := congrArg Prod.snd h
      simp only at h2
      unfold Wx.names at hq
      rw [if_pos hd] at hq
      split at hq
      · cases hq
      · rename_i t z hz
        have h3 := Wx.name_lt hz
        have h4 := Wx.names_le _ _ _ _ _ _ hq
        omega
theorem Wx.text_lt : ∀ (l : List UInt8) (b : Bool) (i : Nat) (acc r : List UInt8) (j : Nat), Wx.text b i l acc = some (r, j) → i < j := by
  intro l
  induction l with
  | nil => intro b i acc r j h; cases b <;> cases h
  | cons c l ih =>
    intro b i acc r j h
    cases b with
    | true =>
      unfold Wx.text at h
      repeat' split at h
      · have := ih _ _ _ _ _ h; omega
      · have := ih _ _ _ _ _ h; omega
      · have := ih _ _ _ _ _ h; omega
      · cases h
    | false =>
      unfold Wx.text at h
      repeat' split at h
      · injection h with h
        have h2 := congrArg Prod.snd h
        simp only at h2
        omega
      · have := ih _ _ _ _ _ h; omega
      · have := ih _ _ _ _ _ h; omega
theorem Wx.digs_le : ∀ (l : List UInt8) (i x : Nat), i ≤ (Wx.digs i l x).2 := by
  intro l
  induction l with
  | nil => intro i x; exact Nat.le_refl _
  | cons c l ih =>
    intro i x
    unfold Wx.digs
    split
    · have := ih (i + 1) (if x ≤ 9007199254740991 then 10 * x + (c.toNat - 48) else x)
      omega
    · exact Nat.le_refl _
theorem Wx.int_lt {S : List UInt8} {i j : Nat} {x : Int} (h : Wx.int S i = some (x, j)) : i < j := by
  unfold Wx.int at h
  simp only at h
  generalize hp : (if decide (S[i]? = some 45) = true then i + 1 else i) = p at h
  have hpi : i ≤ p := by rw [← hp]; split <;> omega
  have hd := Wx.digs_le (S.drop p) p 0
  split at h
  · cases h
  · rename_i q
    injection h with h
    have h2 := congrArg Prod.snd h
    simp only at h2
    omega
theorem Wx.or_ok {α : Type} {o : Option α} {e : Int} {β : Type} {f : α → β} {b : β} (h : (Wx.or o e).map f = .ok b) : ∃ a, o = some a ∧ f a = b := by
  cases o with
  | none => cases h
  | some a =>
    refine ⟨a, rfl, ?_⟩
    injection h
theorem Wx.word_lt {S : List UInt8} {i j : Nat} {x : Wo} (h : Wx.word S i = .ok (x, j)) : i < j := by
  unfold Wx.word at h
  simp only at h
  split at h
  · injection h with h
    have h2 := congrArg Prod.snd h
    simp only at h2
    omega
  split at h
  · injection h with h
    have h2 := congrArg Prod.snd h
    simp only at h2
    omega
  split at h
  · obtain ⟨⟨r, q⟩, h1, h2⟩ := Wx.or_ok h
    have h3 := congrArg Prod.snd h2
    have h4 := Wx.text_lt _ _ _ _ _ _ h1
    simp only at h3
    omega
  split at h
  · obtain ⟨⟨r, q⟩, h1, h2⟩ := Wx.or_ok h
    have h3 := congrArg Prod.snd h2
    have h4 := Wx.int_lt h1
    simp only at h3
    omega
  split at h
  · rename_i h46
    split at h
    · rename_i hc
      obtain ⟨⟨r, q⟩, h1, h2⟩ := Wx.or_ok h
      have h3 := congrArg Prod.snd h2
      have hd : S[i]? = some 46 := by
        have hl : i < S.length := by omega
        rw [List.getElem?_eq_getElem hl]
        rw [List.getD_eq_getElem?_getD, List.getElem?_eq_getElem hl] at h46
        exact congrArg some h46
      have h4 := Wx.path_lt hd h1
      simp only at h3
      omega
    · injection h with h
      have h2 := congrArg Prod.snd h
      simp only at h2
      omega
  split at h
  · split at h
    · cases h
    · rename_i t q hq
      obtain ⟨⟨r, z⟩, h1, h2⟩ := Wx.or_ok h
      have h3 := congrArg Prod.snd h2
      have h4 := Wx.path_le h1
      have h5 := Wx.name_lt hq
      simp only at h3
      omega
  · obtain ⟨⟨r, q⟩, h1, h2⟩ := Wx.or_ok h
    have h3 := congrArg Prod.snd h2
    have h4 := Wx.name_lt h1
    simp only at h3
    omega
end Go.Proofs.Ytnophkbbeipaaaa

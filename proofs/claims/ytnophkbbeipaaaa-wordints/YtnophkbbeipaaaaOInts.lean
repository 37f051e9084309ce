/-
  PLAIN: an action of two numbers and a pipe between them.
-/
import Derived.Test.YtnophkbbeipaaaaOBack2
namespace Go.Proofs.Ytnophkbbeipaaaa
theorem Wx.go_step {S : List UInt8} {i j n : Nat} {out : List Wo} {x : Wo} {c : UInt8} {l : List UInt8} (hn : 0 < n) (hS : S.drop i = c :: l) (hb : Lx.blank c = false) (hw : Wx.word S i = .ok (x, j)) (he : Wx.ends S x.kind j = true) : Wx.go n S i out = Wx.go (n - 1) S j (out ++ [x]) := by
  have hsk : Lx.skip i (S.drop i) = i := by rw [hS, Lx.skip, if_neg (by rw [hb]; decide)]
  rw [Wx.go_word hn hsk (Wx.hd hS).2, hw]
  simp only
  rw [he, if_pos rfl]
/-- what a number's digits begin with -/
theorem Wx.int_head (u z : Nat) (neg : Bool) (rest : List UInt8) : ∃ c l, ((if neg = true then [45] else []) ++ (List.replicate z 48 ++ Lib.decDigits u)) ++ rest = c :: l ∧ Lx.blank c = false := by
  cases neg with
  | true => exact ⟨45, _, rfl, by decide⟩
  | false =>
    cases z with
    | zero =>
      cases hq : Lib.decDigits u with
      | nil => exact absurd hq (Dm.digits_ne u)
      | cons c l => exact ⟨c, l ++ rest, rfl, (Wx.digit_off c (Wx.dec_digit u c (by rw [hq]; exact List.mem_cons_self ..))).2.2.2⟩
    | succ z => exact ⟨48, _, rfl, by decide⟩
theorem Wx.ints (s : ByteArray) (u z : Nat) (neg : Bool) (A : List UInt8) (hu : u ≤ 9007199254740991) (hA : A = (if neg = true then [45] else []) ++ (List.replicate z 48 ++ Lib.decDigits u)) (hs : s.data.toList = A ++ ([124] ++ A)) :
    Wx.words s = ([⟨3, [], [], if neg = true then -(u : Int) else (u : Int)⟩, ⟨5, [], [], 0⟩, ⟨3, [], [], if neg = true then -(u : Int) else (u : Int)⟩], 0) := by
  have hl : A.length = (if neg = true then 1 else 0) + (z + (Lib.decDigits u).length) := by
    rw [hA, List.length_append, List.length_append, List.length_replicate]
    cases neg <;> rfl
  have hpos : 0 < (Lib.decDigits u).length := List.length_pos_iff.2 (Dm.digits_ne u)
  have hz : s.size = 2 * A.length + 1 := by rw [← Wk.len_data, hs]; simp; omega
  obtain ⟨S, hS⟩ : ∃ S, s.data.toList = S := ⟨_, rfl⟩
  have hSl : S.length = s.size := by rw [← hS, Wk.len_data]
  rw [hS] at hs
  have d0 : S.drop 0 = A ++ ([124] ++ A) := hs
  have d1 : S.drop A.length = [124] ++ A := by have := Wx.drop_more d0; rwa [Nat.zero_add] at this
  have d2 : S.drop (A.length + 1) = A := Wx.drop_more (a := [124]) d1
  have hsp : ∀ r : List UInt8, A ++ r = (if neg = true then [45] else []) ++ (List.replicate z 48 ++ (Lib.decDigits u ++ r)) := fun r => by rw [hA]; simp
  have w0 := Wx.word3 (z := z) u neg hu (d0.trans (hsp _)) (.inr ⟨124, A, rfl, by decide⟩)
  have w2 := Wx.word3 (z := z) (S := S) (p := A.length + 1) (rest := []) u neg hu (d2.trans ((List.append_nil A).symm.trans (hsp []))) (.inl rfl)
  rw [← hl] at w0 w2
  rw [Nat.zero_add] at w0
  obtain ⟨c0, l0, e0, b0⟩ := Wx.int_head u z neg ([124] ++ A)
  rw [← hA] at e0
  obtain ⟨c2, l2, e2, b2⟩ := Wx.int_head u z neg []
  rw [← hA, List.append_nil] at e2
  unfold Wx.words
  rw [hS, Wx.go_step (Nat.succ_pos _) (d0.trans e0) b0 w0 (by unfold Wx.ends; rw [(Wx.hd d1).1]; simp),
    Wx.go_step (x := ⟨5, [], [], 0⟩) (j := A.length + 1) (by omega) d1 (by decide) (by unfold Wx.word; simp only; rw [(Wx.hd d1).1, if_pos rfl]) rfl,
    Wx.go_step (by omega) (d2.trans e2) b2 w2 (by unfold Wx.ends; rw [decide_eq_true (show S.length ≤ A.length + 1 + A.length by omega)]; simp),
    Wx.go_end (p := A.length + 1 + A.length) (by omega) (by rw [List.drop_of_length_le (by omega)]; rfl) (by omega)]
  rfl
end Go.Proofs.Ytnophkbbeipaaaa

/-
  PLAIN: an action between two texts, with and without trim marks.
-/
import Derived.Test.YtfcmcmokmhklhaaDoorLStep
import Derived.KernelRfl
namespace Go.Proofs.YtfcmcmokmhklhaaDoor
open Go.RowKit
theorem Lt.go1 {S a b F : List UInt8} {n : Nat} {l r m : Bool} {X Y : List UInt8} {act : La} (k : Nat) (hS : S = (117 :: a) ++ 123 :: 123 :: F) (ha : ∀ c ∈ a, Lx.blank c = true) (hb : ∀ c ∈ b, Lx.blank c = true) (hm : Lx.mark F 0 = m) (hml : m = l) (hk : Lx.skip (if m = true then 1 else 0) (F.drop (if m = true then 1 else 0)) = k) (hact : Lx.act F k = some act) (hc : act.com = false) (htx : act.text = [46, 122]) (htr : act.trims = r) (hF : F.drop act.fin = b ++ [118]) (hfl : act.fin ≤ F.length)
    (hX : X = if l = true then [117] else 117 :: a) (hY : Y = if r = true then [118] else b ++ [118]) : ∃ q, Lx.go (n + 2) S 0 false [] = some [⟨false, X, 0⟩, ⟨true, [46, 122], 1 + a.length⟩, ⟨false, Y, q⟩] := by
  have hna : ∀ c ∈ 117 :: a, c ≠ 123 := fun c hc => by
    rcases List.mem_cons.1 hc with rfl | hc
    · decide
    · exact (Lx.blank_ne (ha c hc)).1
  have hnb : ∀ c ∈ b ++ [118], c ≠ 123 := fun c hc => by
    rcases List.mem_append.1 hc with hc | hc
    · exact (Lx.blank_ne (hb c hc)).1
    · rw [List.mem_singleton.1 hc]; decide
  have hT : (if m = true then Lx.right (if false = true then Lx.left (117 :: a) else 117 :: a) else (if false = true then Lx.left (117 :: a) else 117 :: a)) = X := by
    simp only [Bool.false_eq_true, if_false]
    rw [hX, hml]
    cases l with
    | true =>
      rw [if_pos rfl, if_pos rfl, show 117 :: a = [117] ++ a from rfl, Lx.right_blanks ha]
      rfl
    | false => rw [if_neg (by decide), if_neg (by decide)]
  have h1 := Lx.go_at (n := n + 1) (tr := false) (out := []) (S := S) (p := 0) (by rw [List.drop_zero]; exact hS) hna hm hk hact hT
  have hlS : S.length = (117 :: a).length + 2 + F.length := by rw [hS]; simp; omega
  have hd : S.drop (0 + (117 :: a).length + 2 + act.fin) = b ++ [118] := by
    rw [hS, show 0 + (117 :: a).length + 2 + act.fin = (117 :: a).length + (2 + act.fin) by omega, ← List.drop_drop, List.drop_left, ← List.drop_drop]
    exact hF
  have hXn : X ≠ [] := by rw [hX]; cases l <;> simp
  have hYn : Y ≠ [] := by rw [hY]; cases r <;> simp
  refine ⟨0 + (117 :: a).length + 2 + act.fin, ?_⟩
  rw [h1, Lx.go_last (T := Y) (by omega) hd (by omega) hnb ?_, hc, htx]
  · unfold Lx.one
    rw [if_neg hXn, if_neg hYn]
    simp
    omega
  · rw [htr, hY]
    cases r with
    | true =>
      rw [if_pos rfl, if_pos rfl, Lx.left_blanks hb]
      rfl
    | false => rw [if_neg (by decide), if_neg (by decide)]
/-- A TEXT, AN ACTION, A TEXT -/
theorem Lt.split (a b : ByteArray) (l r : Bool) (s X Y : ByteArray) (ha : ∀ c ∈ a.data.toList, Lx.blank c = true) (hb : ∀ c ∈ b.data.toList, Lx.blank c = true) (hs : s.size ≤ 65536)
    (hS : s.data.toList = (117 :: a.data.toList) ++ ((if l = true then [123, 123, 45, 32] else [123, 123]) ++ ([46, 122] ++ ((if r = true then [32, 45, 125, 125] else [125, 125]) ++ (b.data.toList ++ [118])))))
    (hX : X.data.toList = if l = true then [117] else 117 :: a.data.toList) (hY : Y.data.toList = if r = true then [118] else b.data.toList ++ [118]) :
    ∃ q, Lx.split s = ([⟨false, X.data.toList, 0⟩, ⟨true, [46, 122], 1 + a.size⟩, ⟨false, Y.data.toList, q⟩], 0) := by
  have h13 : ∀ c ∈ s.data.toList, c ≠ 13 := fun c hc e => by
    subst e
    rw [hS] at hc
    rcases List.mem_append.1 hc with hc | hc
    · rcases List.mem_cons.1 hc with hc | hc
      · revert hc; decide
      · exact (Lx.blank_ne (ha _ hc)).2 rfl
    · rcases List.mem_append.1 hc with hc | hc
      · cases l <;> revert hc <;> decide
      · rcases List.mem_append.1 hc with hc | hc
        · revert hc; decide
        · rcases List.mem_append.1 hc with hc | hc
          · cases r <;> revert hc <;> decide
          · rcases List.mem_append.1 hc with hc | hc
            · exact (Lx.blank_ne (hb _ hc)).2 rfl
            · revert hc; decide
  have key : ∃ q, Lx.go (s.data.toList.length + 1) s.data.toList 0 false [] = some [⟨false, X.data.toList, 0⟩, ⟨true, [46, 122], 1 + a.data.toList.length⟩, ⟨false, Y.data.toList, q⟩] := by
    have hn : ∃ n, s.data.toList.length + 1 = n + 2 := ⟨s.data.toList.length - 1, by
      have : 0 < s.data.toList.length := by rw [hS]; simp
      omega⟩
    obtain ⟨n, hn⟩ := hn
    rw [hn]
    clear hn h13 hs
    generalize s.data.toList = S at *
    generalize X.data.toList = XL at *
    generalize Y.data.toList = YL at *
    generalize a.data.toList = A at *
    generalize b.data.toList = B at *
    cases l <;> cases r
    · exact Lt.go1 (F := 46 :: 122 :: 125 :: 125 :: (B ++ [118])) (m := false) (act := ⟨4, [46, 122], false, false⟩) 0 hS ha hb (by kernel_rfl) rfl (by kernel_rfl) (by kernel_rfl) rfl rfl rfl (by kernel_rfl) (by simp) hX hY
    · exact Lt.go1 (F := 46 :: 122 :: 32 :: 45 :: 125 :: 125 :: (B ++ [118])) (m := false) (act := ⟨6, [46, 122], true, false⟩) 0 hS ha hb (by kernel_rfl) rfl (by kernel_rfl) (by kernel_rfl) rfl rfl rfl (by kernel_rfl) (by simp) hX hY
    · exact Lt.go1 (F := 45 :: 32 :: 46 :: 122 :: 125 :: 125 :: (B ++ [118])) (m := true) (act := ⟨6, [46, 122], false, false⟩) 2 hS ha hb (by kernel_rfl) rfl (by kernel_rfl) (by kernel_rfl) rfl rfl rfl (by kernel_rfl) (by simp) hX hY
    · exact Lt.go1 (F := 45 :: 32 :: 46 :: 122 :: 32 :: 45 :: 125 :: 125 :: (B ++ [118])) (m := true) (act := ⟨8, [46, 122], true, false⟩) 2 hS ha hb (by kernel_rfl) rfl (by kernel_rfl) (by kernel_rfl) rfl rfl rfl (by kernel_rfl) (by simp) hX hY
  obtain ⟨q, hq⟩ := key
  refine ⟨q, ?_⟩
  unfold Lx.split
  rw [if_neg (by omega), Lx.lines_id h13]
  unfold Lx.all
  rw [hq, Wk.len_data]
  rfl
end Go.Proofs.YtfcmcmokmhklhaaDoor

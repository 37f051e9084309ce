/-
  PLAIN: two surrogates are one sign.
-/
import Derived.Test.YtboalkfagfgnpaaDoorJQuiet
namespace Go.Proofs.YtboalkfagfgnpaaDoor
def Js.fourL (x : Nat) : List UInt8 := [Js.hex (x / 4096 % 16), Js.hex (x / 256 % 16), Js.hex (x / 16 % 16), Js.hex (x % 16)]
theorem Js.dig_hex : ∀ n, n < 16 → Pl.dig (Js.hex n) = n := by decide
theorem Js.four_back (x : Nat) (hx : x < 65536) (r : List UInt8) : Js.four (Js.fourL x ++ r) = some (x, r) := by
  have h1 := Js.dig_hex (x / 4096 % 16) (by omega)
  have h2 := Js.dig_hex (x / 256 % 16) (by omega)
  have h3 := Js.dig_hex (x / 16 % 16) (by omega)
  have h4 := Js.dig_hex (x % 16) (by omega)
  show Js.four (Js.hex (x / 4096 % 16) :: Js.hex (x / 256 % 16) :: Js.hex (x / 16 % 16) :: Js.hex (x % 16) :: r) = _
  rw [Js.four, h1, h2, h3, h4, if_pos (by omega)]
  congr 2
  omega
theorem Js.uni_two (x y : Nat) (hx : 55296 ≤ x ∧ x ≤ 56319) (hy : 56320 ≤ y ∧ y ≤ 57343) (r : List UInt8) : Js.uni (Js.fourL x ++ 92 :: 117 :: (Js.fourL y ++ r)) = some (Pl.runeL (65536 + (x - 55296) * 1024 + (y - 56320)), r) := by
  have h1 := Js.four_back x (by omega) (92 :: 117 :: (Js.fourL y ++ r))
  have h2 := Js.four_back y (by omega) r
  generalize Js.fourL y ++ r = Y at *
  generalize Js.fourL x ++ 92 :: 117 :: Y = X at *
  unfold Js.uni
  simp only [h1, h2, if_pos hx, if_pos hy, and_self, if_true]
theorem Js.uni_pair (k : Nat) (h1 : 65536 ≤ k) (h2 : k < 1114112) (r : List UInt8) : Js.uni (Js.fourL (55296 + (k - 65536) / 1024) ++ 92 :: 117 :: (Js.fourL (56320 + (k - 65536) % 1024) ++ r)) = some (Pl.runeL k, r) := by
  obtain ⟨x, hx⟩ : ∃ x, 55296 + (k - 65536) / 1024 = x := ⟨_, rfl⟩
  obtain ⟨y, hy⟩ : ∃ y, 56320 + (k - 65536) % 1024 = y := ⟨_, rfl⟩
  rw [hx, hy, Js.uni_two x y (by omega) (by omega), show 65536 + (x - 55296) * 1024 + (y - 56320) = k by omega]
theorem Js.text_leaf {s : ByteArray} (h : s.size ≤ 65536) : (Js.leaf 4 0 0 s).may = true := by
  unfold Vt.may
  rw [Js.stand_leaf (by decide) (Js.formed4 h)]
theorem Js.get_pair (k : Nat) (h1 : 65536 ≤ k) (h2 : k < 1114112) : Js.get (34 :: 92 :: 117 :: (Js.fourL (55296 + (k - 65536) / 1024) ++ 92 :: 117 :: (Js.fourL (56320 + (k - 65536) % 1024) ++ [34]))) = some (Js.leaf 4 0 0 ⟨(Pl.runeL k).toArray⟩) := by
  have hl := Pl.runeL_len k
  have he : Js.escaped (117 :: (Js.fourL (55296 + (k - 65536) / 1024) ++ 92 :: 117 :: (Js.fourL (56320 + (k - 65536) % 1024) ++ [34]))) = some (Pl.runeL k, [34]) := by
    rw [Js.escaped, if_neg (by decide), if_neg (by decide), if_neg (by decide), if_neg (by decide), if_neg (by decide), if_neg (by decide), if_pos rfl]
    exact Js.uni_pair k h1 h2 [34]
  have hv : Js.value 8 (34 :: 92 :: 117 :: (Js.fourL (55296 + (k - 65536) / 1024) ++ 92 :: 117 :: (Js.fourL (56320 + (k - 65536) % 1024) ++ [34]))) = some (Js.leaf 4 0 0 ⟨(Pl.runeL k).toArray⟩, []) := by
    rw [Js.value, Js.ws_stay rfl, Js.at_quote, Js.text_esc he, Js.text_quote]
    show some (Js.leaf 4 0 0 ⟨(Pl.runeL k ++ []).toArray⟩, []) = _
    rw [List.append_nil]
  unfold Js.get
  rw [if_neg (by simp [Js.fourL]), hv]
  show (if Js.ws [] = [] ∧ _ then _ else _) = _
  rw [if_pos ⟨rfl, Js.text_leaf (by rw [Js.size_arr]; omega)⟩]
theorem Js.rune4 (k : Nat) (h1 : 65536 ≤ k) (h2 : k < 1114112) : Pl.runeL k = [UInt8.ofNat (240 + k / 262144), UInt8.ofNat (128 + k / 4096 % 64), UInt8.ofNat (128 + k / 64 % 64), UInt8.ofNat (128 + k % 64)] := by
  unfold Pl.runeL
  rw [if_neg (by omega), if_neg (by omega), if_neg (by omega), if_neg (by omega)]
end Go.Proofs.YtboalkfagfgnpaaDoor

/-
  PLAIN: words that are none; names and paths up to their bounds.
-/
import Derived.Test.YtnophkbbeipaaaaOLt
import Derived.KernelRfl
namespace Go.Proofs.Ytnophkbbeipaaaa
open Go.RowKit
def Wz.bad : Array Value := #[.string ⟨#[37]⟩, .string ⟨#[97, 37]⟩, .string ⟨#[58]⟩, .string ⟨#[58, 32, 61]⟩, .string ⟨#[36]⟩, .string ⟨#[36, 49]⟩, .string ⟨#[46, 49]⟩, .string ⟨#[46, 46]⟩, .string ⟨#[46, 97, 46]⟩, .string ⟨#[36, 120, 46]⟩, .string ⟨#[49, 97]⟩, .string ⟨#[97, 58, 61]⟩, .string ⟨#[34, 97, 34, 98]⟩, .string ⟨#[46, 97, 36, 120]⟩, .string ⟨#[45, 32, 49]⟩, .string ⟨#[45]⟩, .string ⟨#[45, 45, 49]⟩, .string ⟨#[57, 48, 48, 55, 49, 57, 57, 50, 53, 52, 55, 52, 48, 57, 57, 50]⟩, .string ⟨#[45, 57, 57, 57, 57, 57, 57, 57, 57, 57, 57, 57, 57, 57, 57, 57, 57, 57, 57, 57, 57]⟩, .string ⟨#[34, 97]⟩, .string ⟨#[34, 92, 113, 34]⟩, .string ⟨#[34, 92]⟩]
def Wz.want (q : Nat) : Int := if 19 ≤ q then 1401 else if 14 ≤ q then 1402 else 1400
theorem Wz.named (q : Nat) (hq : q < 22) : ∃ nm : ByteArray, Wz.bad[q]? = some (.string nm) ∧ Wx.words (⟨#[97, 32, 124, 32]⟩ ++ nm) = ([], Wz.want q) ∧ nm.size ≤ 30 := by
  match q, hq with
  | 0, _ => exact ⟨_, rfl, by kernel_rfl, by decide⟩
  | 1, _ => exact ⟨_, rfl, by kernel_rfl, by decide⟩
  | 2, _ => exact ⟨_, rfl, by kernel_rfl, by decide⟩
  | 3, _ => exact ⟨_, rfl, by kernel_rfl, by decide⟩
  | 4, _ => exact ⟨_, rfl, by kernel_rfl, by decide⟩
  | 5, _ => exact ⟨_, rfl, by kernel_rfl, by decide⟩
  | 6, _ => exact ⟨_, rfl, by kernel_rfl, by decide⟩
  | 7, _ => exact ⟨_, rfl, by kernel_rfl, by decide⟩
  | 8, _ => exact ⟨_, rfl, by kernel_rfl, by decide⟩
  | 9, _ => exact ⟨_, rfl, by kernel_rfl, by decide⟩
  | 10, _ => exact ⟨_, rfl, by kernel_rfl, by decide⟩
  | 11, _ => exact ⟨_, rfl, by kernel_rfl, by decide⟩
  | 12, _ => exact ⟨_, rfl, by kernel_rfl, by decide⟩
  | 13, _ => exact ⟨_, rfl, by kernel_rfl, by decide⟩
  | 14, _ => exact ⟨_, rfl, by kernel_rfl, by decide⟩
  | 15, _ => exact ⟨_, rfl, by kernel_rfl, by decide⟩
  | 16, _ => exact ⟨_, rfl, by kernel_rfl, by decide⟩
  | 17, _ => exact ⟨_, rfl, by kernel_rfl, by decide⟩
  | 18, _ => exact ⟨_, rfl, by kernel_rfl, by decide⟩
  | 19, _ => exact ⟨_, rfl, by kernel_rfl, by decide⟩
  | 20, _ => exact ⟨_, rfl, by kernel_rfl, by decide⟩
  | 21, _ => exact ⟨_, rfl, by kernel_rfl, by decide⟩
  | n + 22, h => exact absurd h (by omega)
theorem Wz.index (wh : Int) : ∃ q : Nat, q < 22 ∧ wrap64 ((IntKind.u64.wrap wh).tmod 22) = (q : Int) := by
  have h1 : 0 ≤ IntKind.u64.wrap wh := by
    rw [IntKind.wrap_u64]
    omega
  have h2 : (IntKind.u64.wrap wh).tmod 22 = IntKind.u64.wrap wh % 22 := Int.tmod_eq_emod_of_nonneg h1
  refine ⟨(IntKind.u64.wrap wh % 22).toNat, by omega, ?_⟩
  rw [h2]
  unfold wrap64
  omega
/-- the document's words of three long names -/
def Wz.names (K : Nat) : List UInt8 := 36 :: (List.replicate K 97 ++ 32 :: 46 :: (List.replicate K 97 ++ 32 :: List.replicate K 97))
def Wz.path : Nat → List UInt8
  | 0 => []
  | n + 1 => Wz.path n ++ [46, 98]
theorem Wz.long0 (m : Nat) (hm : m < 8) : (Wx.words ⟨(Wz.names (29 + m)).toArray⟩).2 = if 29 + m ≤ 32 then 0 else 1400 := by
  have h : ∀ q : Fin 8, (Wx.words ⟨(Wz.names (29 + q.val)).toArray⟩).2 = if 29 + q.val ≤ 32 then 0 else 1400 := by decide +kernel
  exact h ⟨m, hm⟩
theorem Wz.deep0 (m : Nat) (hm : m < 8) : (Wx.words ⟨(36 :: 97 :: Wz.path (5 + m)).toArray⟩).2 = if 5 + m ≤ 8 then 0 else 1400 := by
  have h : ∀ q : Fin 8, (Wx.words ⟨(36 :: 97 :: Wz.path (5 + q.val)).toArray⟩).2 = if 5 + q.val ≤ 8 then 0 else 1400 := by decide +kernel
  exact h ⟨m, hm⟩
theorem Wz.long {s : ByteArray} {m : Nat} (hm : m ≤ 7) (hs : s.data.toList = Wz.names (29 + m)) : (Wx.words s).2 = if 29 + m ≤ 32 then 0 else 1400 := by
  rw [show s = ⟨(Wz.names (29 + m)).toArray⟩ from WideShapes.bytes_inj hs]
  exact Wz.long0 m (by omega)
theorem Wz.deep {s : ByteArray} {m : Nat} (hm : m ≤ 7) (hs : s.data.toList = 36 :: 97 :: Wz.path (5 + m)) : (Wx.words s).2 = if 5 + m ≤ 8 then 0 else 1400 := by
  rw [show s = ⟨(36 :: 97 :: Wz.path (5 + m)).toArray⟩ from WideShapes.bytes_inj hs]
  exact Wz.deep0 m (by omega)
end Go.Proofs.Ytnophkbbeipaaaa

/-
  THE WALKS of strings.Clone, tok.isLoose, tok.oneLineEnd, and of the reader's tellText and tellComment.
-/
import Derived.Test.YtjbkgokiikbaeaaGreatDoorTTell
import Derived.Test.YtjbkgokiikbaeaaGreatDoorTLines
import Derived.Test.YtjbkgokiikbaeaaGreatDoorShelf5
import Derived.Test.YtjbkgokiikbaeaaGreatDoorRDec
import Derived.Lib.SplitLaws
namespace Go.Proofs.YtjbkgokiikbaeaaGreatDoor
open Go.RowKit
theorem Tp.clone (s : ByteArray) (w : World) (h : s.size ≤ 281474976710656) : Calls Tryz.prog 80 #[.string s] w fun e w' => e = .returned (.string s) ∧ Below w.heap.size w w' := by
  go_enter Tryz.func80, Tryz.ntmps80
  go_wp2_with (go_at_call 100; refine (Sh.stringslite_Clone s _ h).mono ?_; rintro e w1 ⟨rfl, hb⟩)
  go_ret
  exact ⟨rfl, hb⟩
theorem Tp.isLoose (a : Int) (w : World) : Calls Tryz.prog 31 #[.int .i64 a] w fun e w' => e = .returned (.bool (Rd.loose a)) ∧ w' = w := by
  unfold Rd.loose
  by_cases g1 : a < 3
  · have d1 : decide (a < 3) = true := decide_eq_true g1
    go_enter Tryz.func31, Tryz.ntmps31
    go_wp2
    go_ret
    simp [g1]
  · have d1 : decide (a < 3) = false := decide_eq_false g1
    by_cases g2 : 19 ≤ a
    · have d2 : decide (19 ≤ a) = true := decide_eq_true g2
      go_enter Tryz.func31, Tryz.ntmps31
      go_wp2
      go_ret
      simp
    · have d2 : decide (19 ≤ a) = false := decide_eq_false g2
      go_enter Tryz.func31, Tryz.ntmps31
      go_wp2
      go_ret
      simp
theorem Tp.oneLineEnd (s : ByteArray) (m : Int) (w : World) (hs : s.size ≤ 65536) (hm : w.cell? ⟨0, 0, none⟩ = some (.int .i64 m)) : Calls Tryz.prog 29 #[.string s] w fun e w' => e = .returned (.string (Rd.page s)) ∧ Below w.heap.size w w' := by
  have k1 := Lib.countB_le ⟨#[13, 10]⟩ (by decide) s.size s (Nat.le_refl _)
  have c1 := Sh.strings_ReplaceAll s ⟨#[13, 10]⟩ ⟨#[10]⟩ m w (by omega) hm (by decide) (by show s.size + _ * 1 ≤ _; omega)
  have hl := Li.crlf_len s.data.toList
  rw [Wk.len_data] at hl
  obtain ⟨t, ht⟩ : ∃ t : ByteArray, t = ⟨(Lib.replaceAll s.data.toList [13, 10] [10]).toArray⟩ := ⟨_, rfl⟩
  have hts : t.size ≤ 65536 := by
    rw [← Wk.len_data, ht]
    show (Lib.replaceAll s.data.toList [13, 10] [10]).toArray.toList.length ≤ _
    rw [List.toList_toArray]; omega
  have c1' : Calls Tryz.prog 73 #[.string s, .string ⟨#[13, 10]⟩, .string ⟨#[10]⟩] w fun e w' => e = .returned (.string t) ∧ Below w.heap.size w w' := by rw [ht]; exact c1
  have k2 := Lib.countB_le ⟨#[13]⟩ (by decide) t.size t (Nat.le_refl _)
  have c2 := fun (u : World) (hb : Below w.heap.size w u) => Sh.strings_ReplaceAll t ⟨#[13]⟩ ⟨#[10]⟩ m u (by omega) (Tp.keep hb hm) (by decide) (by show t.size + _ * 1 ≤ _; omega)
  have he : (⟨(Lib.replaceAll t.data.toList [13] [10]).toArray⟩ : ByteArray) = Rd.page s := by
    rw [ht, Rd.page]
    show (⟨(Lib.replaceAll (Lib.replaceAll s.data.toList [13, 10] [10]).toArray.toList [13] [10]).toArray⟩ : ByteArray) = _
    rw [List.toList_toArray, Li.lines]
  have c2' : ∀ u, Below w.heap.size w u → Calls Tryz.prog 73 #[.string t, .string ⟨#[13]⟩, .string ⟨#[10]⟩] u fun e w' => e = .returned (.string (Rd.page s)) ∧ Below u.heap.size u w' := fun u hb => by rw [← he]; exact c2 u hb
  clear c1 c2 ht he hl k1 k2 hm
  go_enter Tryz.func29, Tryz.ntmps29
  go_wp2_with fail
  refine c1'.mono ?_
  rintro e w1 ⟨rfl, hb1⟩
  clear c1'
  go_wp2_with fail
  refine (c2' _ hb1).mono ?_
  rintro e w2 ⟨rfl, hb2⟩
  go_wp2
  go_ret
  exact ⟨rfl, hb1.trans (hb2.mono hb1.size)⟩
end Go.Proofs.YtjbkgokiikbaeaaGreatDoor

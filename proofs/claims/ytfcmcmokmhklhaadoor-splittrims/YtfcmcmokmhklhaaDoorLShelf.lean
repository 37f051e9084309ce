/-
  The library's trims and Clone at this program; lines.OneEnd as the landed program has it.
-/
import Derived.Test.YtfcmcmokmhklhaaDoorLSh0
import Derived.Test.YtfcmcmokmhklhaaDoorLLib
import Derived.Test.YtfcmcmokmhklhaaDoorLSplit
namespace Go.Proofs.YtfcmcmokmhklhaaDoor
open Go.RowKit
open Go.Lib
theorem Sh.set : (Tryd.prog.info? 70).map (fun i => (i.zero, i.size)) = some (some (.agg (Array.replicate 256 (.bool false))), 256) := by kernel_rfl
theorem Sh.strings_TrimLeft (s cutset : ByteArray) (w : World) (hcs : cutset.size < 4294967281) (hascii : ∀ (j : Nat) b, cutset.data.toList[j]? = some b → b.toNat < 128) : Calls Tryd.prog 29 #[.string s, .string cutset] w fun e w' => e = .returned (.string ⟨(Lib.trimLeftS s.data.toList cutset.data.toList).toArray⟩) ∧ Below w.heap.size w w' :=
  Any.strings_TrimLeft_laid Sh.lays161 Sh.set s cutset w hcs hascii
theorem Sh.strings_TrimRight (s cutset : ByteArray) (w : World) (hs : s.size ≤ 9223372036854775807) (hcs : cutset.size < 4294967281) (hascii : ∀ (j : Nat) b, cutset.data.toList[j]? = some b → b.toNat < 128) : Calls Tryd.prog 32 #[.string s, .string cutset] w fun e w' => e = .returned (.string ⟨(Lib.trimRightS s.data.toList cutset.data.toList).toArray⟩) ∧ Below w.heap.size w w' :=
  Any.strings_TrimRight_laid Sh.lays162 Sh.set s cutset w hs hcs hascii
theorem Sh.strings_Trim (s cutset : ByteArray) (w : World) (hs : s.size ≤ 9223372036854775807) (hcs : cutset.size < 4294967281) (hascii : ∀ (j : Nat) b, cutset.data.toList[j]? = some b → b.toNat < 128) : Calls Tryd.prog 38 #[.string s, .string cutset] w fun e w' => e = .returned (.string ⟨(Lib.trimS s.data.toList cutset.data.toList).toArray⟩) ∧ Below w.heap.size w w' :=
  Any.strings_Trim_laid Sh.lays160 Sh.set s cutset w hs hcs hascii
theorem Tp.clone (s : ByteArray) (w : World) (h : s.size ≤ 281474976710656) : Calls Tryd.prog 50 #[.string s] w fun e w' => e = .returned (.string s) ∧ Below w.heap.size w w' := by
  go_enter Tryd.func50, Tryd.ntmps50
  go_wp2_with (go_at_call 65; refine (Sh.stringslite_Clone s _ h).mono ?_; rintro e w1 ⟨rfl, hb⟩)
  go_ret
  exact ⟨rfl, hb⟩
theorem Li.prefix (old new : List UInt8) (b : UInt8) (l : List UInt8) (ho : old ≠ []) (hn : old ≠ new) (h : old.isPrefixOf (b :: l) = true) : replaceAll (b :: l) old new = new ++ replaceAll ((b :: l).drop old.length) old new := by
  have hi : index (b :: l) old = ((0 : Nat) : Int) := by unfold index; rw [if_pos h]; rfl
  have hb : (old == new) = false := beq_eq_false_iff_ne.2 hn
  unfold replaceAll replace
  rw [hb]
  simp only [Bool.false_eq_true, if_false]
  have e : ∀ s, replaceNum s old (-1) = count s old := fun s => by unfold replaceNum; rw [if_pos (.inl (by decide))]
  rw [e, e, count_hit ho hi, Nat.add_comm, replaceK_hit _ _ _ _ _ hi]
  simp
theorem Li.skip (old new : List UInt8) (b : UInt8) (l : List UInt8) (ho : old ≠ []) (hn : old ≠ new) (h : old.isPrefixOf (b :: l) = false) : replaceAll (b :: l) old new = b :: replaceAll l old new := by
  have hb : (old == new) = false := beq_eq_false_iff_ne.2 hn
  unfold replaceAll replace
  rw [hb]
  simp only [Bool.false_eq_true, if_false]
  have e : ∀ s, replaceNum s old (-1) = count s old := fun s => by unfold replaceNum; rw [if_pos (.inl (by decide))]
  rw [e, e]
  by_cases hm : index l old = -1
  · have hi : index (b :: l) old = -1 := by unfold index; rw [h, hm]; rfl
    rw [count_miss hi, count_miss hm]
    rfl
  · obtain ⟨i, hi⟩ : ∃ i : Nat, index l old = i := by
      have := index_ge l old
      exact ⟨(index l old).toNat, by omega⟩
    have hi' : index (b :: l) old = ((i + 1 : Nat) : Int) := by
      unfold index
      rw [h, hi]
      have : ((i : Int) == -1) = false := beq_eq_false_iff_ne.2 (by omega)
      rw [this]
      rfl
    rw [count_hit ho hi, count_hit ho hi', Nat.add_comm, Nat.add_comm 1, replaceK_hit _ _ _ _ _ hi, replaceK_hit _ _ _ _ _ hi']
    rw [show i + 1 + old.length = (i + old.length) + 1 by omega, List.drop_succ_cons]
    rfl
theorem Li.nil (old new : List UInt8) (ho : old ≠ []) (hn : old ≠ new) : replaceAll [] old new = [] := by
  have hb : (old == new) = false := beq_eq_false_iff_ne.2 hn
  unfold replaceAll replace
  rw [hb]
  simp only [Bool.false_eq_true, if_false]
  unfold replaceNum
  rw [if_pos (.inl (by decide))]
  have hi : index [] old = -1 := by
    unfold index
    cases old with
    | nil => exact absurd rfl ho
    | cons a t => rfl
  rw [count_miss hi]
  rfl
def Li.one (c : UInt8) : UInt8 := if c = 13 then 10 else c
theorem Li.cr (s : List UInt8) : replaceAll s [13] [10] = s.map Li.one := by
  induction s with
  | nil => exact Li.nil _ _ (by decide) (by decide)
  | cons b l ih =>
    by_cases h : b = 13
    · subst h
      rw [Li.prefix _ _ _ _ (by decide) (by decide) (by simp [List.isPrefixOf])]
      show [10] ++ replaceAll l [13] [10] = _
      rw [ih]
      rfl
    · have hp : ([13] : List UInt8).isPrefixOf (b :: l) = false := by
        simp only [List.isPrefixOf, Bool.and_true]
        exact beq_eq_false_iff_ne.2 (fun e => h e.symm)
      rw [Li.skip _ _ _ _ (by decide) (by decide) hp, ih]
      simp [Li.one, h]
theorem Li.lines (s : List UInt8) : replaceAll (replaceAll s [13, 10] [10]) [13] [10] = Rd.lines s := by
  rw [Li.cr]
  fun_induction Rd.lines s with
  | case1 => rw [Li.nil _ _ (by decide) (by decide)]; rfl
  | case2 l ih =>
    rw [Li.prefix _ _ _ _ (by decide) (by decide) (by simp [List.isPrefixOf])]
    show ([10] ++ replaceAll l [13, 10] [10]).map Li.one = _
    rw [List.map_append, ih]
    rfl
  | case3 c l hne ih =>
    have hp : ([13, 10] : List UInt8).isPrefixOf (c :: l) = false := by
      cases l with
      | nil => simp [List.isPrefixOf]
      | cons d l =>
        simp only [List.isPrefixOf, Bool.and_true]
        by_cases h1 : c = 13
        · by_cases h2 : d = 10
          · exact absurd h2 (by intro h2; subst h1 h2; exact hne l rfl rfl)
          · simp [beq_eq_false_iff_ne.2 (fun e : (10 : UInt8) = d => h2 e.symm)]
        · simp [beq_eq_false_iff_ne.2 (fun e : (13 : UInt8) = c => h1 e.symm)]
    rw [Li.skip _ _ _ _ (by decide) (by decide) hp, List.map_cons, ih]
    rfl
theorem Li.crlf_len (s : List UInt8) : (replaceAll s [13, 10] [10]).length ≤ s.length := by
  have h := Li.lines s
  rw [Li.cr] at h
  have h2 := congrArg List.length h
  rw [List.length_map] at h2
  rw [h2]
  exact Lx.lines_len s
theorem Tp.oneEnd (s : ByteArray) (m : Int) (w : World) (hs : s.size ≤ 65536) (hm : w.cell? ⟨0, 0, none⟩ = some (.int .i64 m)) : Calls Tryd.prog 16 #[.string s] w fun e w' => e = .returned (.string (Rd.page s)) ∧ Below w.heap.size w w' := by
  have k1 := Lib.countB_le ⟨#[13, 10]⟩ (by decide) s.size s (Nat.le_refl _)
  have c1 := Sh.strings_ReplaceAll s ⟨#[13, 10]⟩ ⟨#[10]⟩ m w (by omega) hm (by decide) (by show s.size + _ * 1 ≤ _; omega)
  have hl := Li.crlf_len s.data.toList
  rw [Wk.len_data] at hl
  obtain ⟨t, ht⟩ : ∃ t : ByteArray, t = ⟨(Lib.replaceAll s.data.toList [13, 10] [10]).toArray⟩ := ⟨_, rfl⟩
  have hts : t.size ≤ 65536 := by
    rw [← Wk.len_data, ht]
    show (Lib.replaceAll s.data.toList [13, 10] [10]).toArray.toList.length ≤ _
    rw [List.toList_toArray]; omega
  have c1' : Calls Tryd.prog 27 #[.string s, .string ⟨#[13, 10]⟩, .string ⟨#[10]⟩] w fun e w' => e = .returned (.string t) ∧ Below w.heap.size w w' := by rw [ht]; exact c1
  have k2 := Lib.countB_le ⟨#[13]⟩ (by decide) t.size t (Nat.le_refl _)
  have c2 := fun (u : World) (hb : Below w.heap.size w u) => Sh.strings_ReplaceAll t ⟨#[13]⟩ ⟨#[10]⟩ m u (by omega) (Tp.keep hb hm) (by decide) (by show t.size + _ * 1 ≤ _; omega)
  have he : (⟨(Lib.replaceAll t.data.toList [13] [10]).toArray⟩ : ByteArray) = Rd.page s := by
    rw [ht, Rd.page]
    show (⟨(Lib.replaceAll (Lib.replaceAll s.data.toList [13, 10] [10]).toArray.toList [13] [10]).toArray⟩ : ByteArray) = _
    rw [List.toList_toArray, Li.lines]
  have c2' : ∀ u, Below w.heap.size w u → Calls Tryd.prog 27 #[.string t, .string ⟨#[13]⟩, .string ⟨#[10]⟩] u fun e w' => e = .returned (.string (Rd.page s)) ∧ Below u.heap.size u w' := fun u hb => by rw [← he]; exact c2 u hb
  clear c1 c2 ht he hl k1 k2 hm
  go_enter Tryd.func16, Tryd.ntmps16
  go_wp2_with fail
  refine c1'.mono ?_
  rintro e w1 ⟨rfl, hb1⟩
  clear c1'
  go_wp2_with fail
  refine (c2' _ hb1).mono ?_
  rintro e w2 ⟨rfl, hb2⟩
  go_wp2
  go_ret
  exact ⟨rfl, hb1.trans (hb2.mono hb1.size)⟩
end Go.Proofs.YtfcmcmokmhklhaaDoor

/-
  PLAIN: what the library's Index, Cut and the trims give, in the words of the document's Split.
-/
import Derived.Test.YtjppobeomocgbaaGreatDoorTLRef2toLMem
import Derived.Lib.CutLaws
import Derived.Lib.SlTrimSet
import Derived.Shelf.Strings.SlTrimAscii
import Derived.Lib.Replace
import Derived.Lib.CountLaws
import Derived.Test.YtjppobeomocgbaaGreatDoorTKOwn1toLSh0
import Derived.Test.YtjppobeomocgbaaGreatDoorTLSplittoGLet
import Derived.Test.YtjppobeomocgbaaGreatDoorTOPlaintoIArgMay
import Derived.Test.YtjppobeomocgbaaGreatDoorTGDatatoGCopy
namespace Go.Proofs.YtjppobeomocgbaaGreatDoor
theorem Ll.pre2 (a b c : UInt8) (l : List UInt8) : ([a, b] : List UInt8).isPrefixOf (c :: l) = (decide (c = a) && decide (l.head? = some b)) := by
  cases l with
  | nil => simp [List.isPrefixOf]
  | cons d l =>
    simp only [List.isPrefixOf, Bool.and_true, List.head?_cons, Option.some.injEq]
    by_cases h1 : c = a
    · by_cases h2 : d = b
      · subst h1 h2; simp
      · simp [h2, beq_eq_false_iff_ne.2 (fun e : b = d => h2 e.symm)]
    · simp [h1, beq_eq_false_iff_ne.2 (fun e : a = c => h1 e.symm)]
theorem Ll.index2 (a b c : UInt8) (l : List UInt8) : Lib.index (c :: l) [a, b] = if c = a ∧ l.head? = some b then 0 else if Lib.index l [a, b] = -1 then -1 else Lib.index l [a, b] + 1 := by
  conv => lhs; unfold Lib.index
  rw [Ll.pre2]
  by_cases h1 : c = a
  · by_cases h2 : l.head? = some b
    · simp [h1, h2]
    · simp [h1, h2]
  · simp [h1]
theorem Ll.index_ge (l : List UInt8) (a b : UInt8) : -1 ≤ Lib.index l [a, b] := Lib.index_ge l [a, b]
theorem Ll.text : ∀ (l : List UInt8) (i : Nat), Lx.text i l = if Lib.index l [123, 123] = -1 then i + l.length else i + (Lib.index l [123, 123]).toNat := by
  intro l
  induction l with
  | nil => intro i; rfl
  | cons c l ih =>
    intro i
    have hg := Ll.index_ge l 123 123
    unfold Lx.text
    rw [Ll.index2, ih]
    generalize Lib.index l [123, 123] = q at *
    simp only [List.length_cons]
    by_cases h : c = 123 ∧ l.head? = some 123
    · rw [if_pos h, if_pos h, if_neg (by decide)]
      rfl
    · rw [if_neg h, if_neg h]
      by_cases h2 : q = -1
      · rw [if_pos h2, if_pos h2, if_pos rfl]
        omega
      · rw [if_neg h2, if_neg h2, if_neg (by omega)]
        omega
theorem Ll.star : ∀ (l : List UInt8) (i : Nat), Lx.star i l = if Lib.index l [42, 47] = -1 then none else some (i + (Lib.index l [42, 47]).toNat) := by
  intro l
  induction l with
  | nil => intro i; rfl
  | cons c l ih =>
    intro i
    have hg := Ll.index_ge l 42 47
    unfold Lx.star
    rw [Ll.index2, ih]
    generalize Lib.index l [42, 47] = q at *
    by_cases h : c = 42 ∧ l.head? = some 47
    · rw [if_pos h, if_pos h, if_neg (by decide)]
      rfl
    · rw [if_neg h, if_neg h]
      by_cases h2 : q = -1
      · rw [if_pos h2, if_pos h2, if_pos rfl]
      · rw [if_neg h2, if_neg h2, if_neg (by omega)]
        congr 1
        omega
theorem Ll.cut_len (l : List UInt8) (a b : UInt8) : (Lib.cut l [a, b]).1 = l.take (if Lib.index l [a, b] = -1 then l.length else (Lib.index l [a, b]).toNat) := by
  have hg := Ll.index_ge l a b
  unfold Lib.cut
  by_cases h : Lib.index l [a, b] = -1
  · rw [if_neg (by omega), if_pos h, List.take_length]
  · rw [if_pos (by omega), if_neg h]
theorem Ll.cut_text (l : List UInt8) (i : Nat) : (Lib.cut l [123, 123]).1 = l.take (Lx.text i l - i) := by
  rw [Ll.cut_len, Ll.text]
  congr 1
  split <;> omega
/-- where the next comment's end stands, or the end -/
def Lx.starAt (i : Nat) (l : List UInt8) : Nat := (Lx.star i l).getD (i + l.length)
theorem Ll.cut_star (l : List UInt8) (i : Nat) : (Lib.cut l [42, 47]).1 = l.take (Lx.starAt i l - i) := by
  rw [Ll.cut_len]
  unfold Lx.starAt
  rw [Ll.star]
  congr 1
  split
  · rw [Option.getD_none]; omega
  · rw [Option.getD_some]; omega
theorem Ll.blank (c : UInt8) : ([9, 10, 32] : List UInt8).contains c = Lx.blank c := by
  unfold Lx.blank
  simp only [List.contains_cons, List.contains_nil, Bool.or_false, Bool.or_assoc]
theorem Ll.left (l : List UInt8) : Lib.trimLeftS l [9, 10, 32] = Lx.left l := by
  unfold Lib.trimLeftS Lx.left
  congr 1
  funext c
  exact Ll.blank c
theorem Ll.right (l : List UInt8) : Lib.trimRightS l [9, 10, 32] = Lx.right l := by
  unfold Lib.trimRightS Lx.right
  congr 2
  funext c
  exact Ll.blank c
theorem Ll.skip : ∀ (l : List UInt8) (i : Nat), Lx.skip i l = i + (l.length - (Lx.left l).length) := by
  intro l
  induction l with
  | nil => intro i; rfl
  | cons c l ih =>
    intro i
    have hl := Lx.left_len l
    unfold Lx.skip
    unfold Lx.left at hl ⊢
    rw [List.dropWhile_cons]
    by_cases h : Lx.blank c = true
    · rw [if_pos h, if_pos h, ih]
      unfold Lx.left
      simp only [List.length_cons]
      omega
    · rw [if_neg h, if_neg h]
      omega
theorem Ll.right_cons (c : UInt8) (l : List UInt8) : Lx.right (c :: l) = if Lx.right l = [] then (if Lx.blank c = true then [] else [c]) else c :: Lx.right l := by
  unfold Lx.right
  rw [List.reverse_cons, List.dropWhile_append]
  by_cases h : (l.reverse.dropWhile Lx.blank).isEmpty = true
  · have h2 := List.isEmpty_iff.1 h
    rw [if_pos h, h2, List.reverse_nil, if_pos rfl, List.dropWhile_cons]
    split <;> rfl
  · have h2 : ¬ (l.reverse.dropWhile Lx.blank).reverse = [] := fun e => h (List.isEmpty_iff.2 (List.reverse_eq_nil_iff.1 e))
    rw [if_neg h, if_neg h2, List.reverse_append]
    rfl
theorem Ll.trim : ∀ (l : List UInt8), Lx.left (Lx.right l) = Lx.right (Lx.left l) := by
  intro l
  induction l with
  | nil => rfl
  | cons c l ih =>
    have e : Lx.left (c :: l) = if Lx.blank c = true then Lx.left l else c :: l := by unfold Lx.left; rw [List.dropWhile_cons]
    by_cases hc : Lx.blank c = true
    · rw [e, if_pos hc, ← ih, Ll.right_cons]
      by_cases h1 : Lx.right l = []
      · rw [if_pos h1, if_pos hc, h1]
      · rw [if_neg h1]
        unfold Lx.left
        rw [List.dropWhile_cons, if_pos hc]
    · rw [e, if_neg hc, Ll.right_cons]
      by_cases h1 : Lx.right l = []
      · rw [if_pos h1, if_neg hc]
        unfold Lx.left
        rw [List.dropWhile_cons, if_neg hc]
      · rw [if_neg h1]
        unfold Lx.left
        rw [List.dropWhile_cons, if_neg hc]
theorem Ll.both (l : List UInt8) : Lib.trimS l [9, 10, 32] = Lx.right (Lx.left l) := by
  unfold Lib.trimS
  rw [Ll.right, Ll.left, Ll.trim]
end Go.Proofs.YtjppobeomocgbaaGreatDoor
/-
  The library's trims and Clone at this program; lines.OneEnd as the landed program has it.
-/
namespace Go.Proofs.YtjppobeomocgbaaGreatDoor
open Go.RowKit
open Go.Lib
theorem Sh.set : (Tryz.prog.info? 129).map (fun i => (i.zero, i.size)) = some (some (.agg (Array.replicate 256 (.bool false))), 256) := by kernel_rfl
theorem Sh.strings_TrimLeft (s cutset : ByteArray) (w : World) (hcs : cutset.size < 4294967281) (hascii : ∀ (j : Nat) b, cutset.data.toList[j]? = some b → b.toNat < 128) : Calls Tryz.prog 42 #[.string s, .string cutset] w fun e w' => e = .returned (.string ⟨(Lib.trimLeftS s.data.toList cutset.data.toList).toArray⟩) ∧ Below w.heap.size w w' :=
  Any.strings_TrimLeft_laid Sh.lays161 Sh.set s cutset w hcs hascii
theorem Sh.strings_TrimRight (s cutset : ByteArray) (w : World) (hs : s.size ≤ 9223372036854775807) (hcs : cutset.size < 4294967281) (hascii : ∀ (j : Nat) b, cutset.data.toList[j]? = some b → b.toNat < 128) : Calls Tryz.prog 45 #[.string s, .string cutset] w fun e w' => e = .returned (.string ⟨(Lib.trimRightS s.data.toList cutset.data.toList).toArray⟩) ∧ Below w.heap.size w w' :=
  Any.strings_TrimRight_laid Sh.lays162 Sh.set s cutset w hs hcs hascii
theorem Sh.strings_Trim (s cutset : ByteArray) (w : World) (hs : s.size ≤ 9223372036854775807) (hcs : cutset.size < 4294967281) (hascii : ∀ (j : Nat) b, cutset.data.toList[j]? = some b → b.toNat < 128) : Calls Tryz.prog 51 #[.string s, .string cutset] w fun e w' => e = .returned (.string ⟨(Lib.trimS s.data.toList cutset.data.toList).toArray⟩) ∧ Below w.heap.size w w' :=
  Any.strings_Trim_laid Sh.lays160 Sh.set s cutset w hs hcs hascii
theorem Tp.clone (s : ByteArray) (w : World) (h : s.size ≤ 281474976710656) : Calls Tryz.prog 75 #[.string s] w fun e w' => e = .returned (.string s) ∧ Below w.heap.size w w' := by
  go_enter Tryz.func75, Tryz.ntmps75
  go_wp2_with (go_at_call 106; refine (Sh.stringslite_Clone s _ h).mono ?_; rintro e w1 ⟨rfl, hb⟩)
  go_ret
  exact ⟨rfl, hb⟩
theorem Li.prefix (old new : List UInt8) (b : UInt8) (l : List UInt8) (ho : old ≠ []) (hn : old ≠ new) (h : old.isPrefixOf (b :: l) = true) : replaceAll (b :: l) old new = new ++ replaceAll ((b :: l).drop old.length) old new := by
  have hi : index (b :: l) old = ((0 : Nat) : Int) := by unfold index; rw [if_pos h]; rfl
  have hb : (old == new) = false := beq_eq_false_iff_ne.2 hn
  unfold replaceAll replace
  rw [hb]
  simp only [Bool.false_eq_true, if_false]
  have e : ∀ s, replaceNum s old (-1) = count s old := fun s => by unfold replaceNum; rw [if_pos (.inl (by decide))]
  rw [e, e, count_hit ho hi, Nat.add_comm, replaceK_hit _ _ _ _ _ hi]
  simp
theorem Li.skip (old new : List UInt8) (b : UInt8) (l : List UInt8) (ho : old ≠ []) (hn : old ≠ new) (h : old.isPrefixOf (b :: l) = false) : replaceAll (b :: l) old new = b :: replaceAll l old new := by
  have hb : (old == new) = false := beq_eq_false_iff_ne.2 hn
  unfold replaceAll replace
  rw [hb]
  simp only [Bool.false_eq_true, if_false]
  have e : ∀ s, replaceNum s old (-1) = count s old := fun s => by unfold replaceNum; rw [if_pos (.inl (by decide))]
  rw [e, e]
  by_cases hm : index l old = -1
  · have hi : index (b :: l) old = -1 := by unfold index; rw [h, hm]; rfl
    rw [count_miss hi, count_miss hm]
    rfl
  · obtain ⟨i, hi⟩ : ∃ i : Nat, index l old = i := by
      have := index_ge l old
      exact ⟨(index l old).toNat, by omega⟩
    have hi' : index (b :: l) old = ((i + 1 : Nat) : Int) := by
      unfold index
      rw [h, hi]
      have : ((i : Int) == -1) = false := beq_eq_false_iff_ne.2 (by omega)
      rw [this]
      rfl
    rw [count_hit ho hi, count_hit ho hi', Nat.add_comm, Nat.add_comm 1, replaceK_hit _ _ _ _ _ hi, replaceK_hit _ _ _ _ _ hi']
    rw [show i + 1 + old.length = (i + old.length) + 1 by omega, List.drop_succ_cons]
    rfl
theorem Li.nil (old new : List UInt8) (ho : old ≠ []) (hn : old ≠ new) : replaceAll [] old new = [] := by
  have hb : (old == new) = false := beq_eq_false_iff_ne.2 hn
  unfold replaceAll replace
  rw [hb]
  simp only [Bool.false_eq_true, if_false]
  unfold replaceNum
  rw [if_pos (.inl (by decide))]
  have hi : index [] old = -1 := by
    unfold index
    cases old with
    | nil => exact absurd rfl ho
    | cons a t => rfl
  rw [count_miss hi]
  rfl
def Li.one (c : UInt8) : UInt8 := if c = 13 then 10 else c
theorem Li.cr (s : List UInt8) : replaceAll s [13] [10] = s.map Li.one := by
  induction s with
  | nil => exact Li.nil _ _ (by decide) (by decide)
  | cons b l ih =>
    by_cases h : b = 13
    · subst h
      rw [Li.prefix _ _ _ _ (by decide) (by decide) (by simp [List.isPrefixOf])]
      show [10] ++ replaceAll l [13] [10] = _
      rw [ih]
      rfl
    · have hp : ([13] : List UInt8).isPrefixOf (b :: l) = false := by
        simp only [List.isPrefixOf, Bool.and_true]
        exact beq_eq_false_iff_ne.2 (fun e => h e.symm)
      rw [Li.skip _ _ _ _ (by decide) (by decide) hp, ih]
      simp [Li.one, h]
theorem Li.lines (s : List UInt8) : replaceAll (replaceAll s [13, 10] [10]) [13] [10] = Rd.lines s := by
  rw [Li.cr]
  fun_induction Rd.lines s with
  | case1 => rw [Li.nil _ _ (by decide) (by decide)]; rfl
  | case2 l ih =>
    rw [Li.prefix _ _ _ _ (by decide) (by decide) (by simp [List.isPrefixOf])]
    show ([10] ++ replaceAll l [13, 10] [10]).map Li.one = _
    rw [List.map_append, ih]
    rfl
  | case3 c l hne ih =>
    have hp : ([13, 10] : List UInt8).isPrefixOf (c :: l) = false := by
      cases l with
      | nil => simp [List.isPrefixOf]
      | cons d l =>
        simp only [List.isPrefixOf, Bool.and_true]
        by_cases h1 : c = 13
        · by_cases h2 : d = 10
          · exact absurd h2 (by intro h2; subst h1 h2; exact hne l rfl rfl)
          · simp [beq_eq_false_iff_ne.2 (fun e : (10 : UInt8) = d => h2 e.symm)]
        · simp [beq_eq_false_iff_ne.2 (fun e : (13 : UInt8) = c => h1 e.symm)]
    rw [Li.skip _ _ _ _ (by decide) (by decide) hp, List.map_cons, ih]
    rfl
theorem Li.crlf_len (s : List UInt8) : (replaceAll s [13, 10] [10]).length ≤ s.length := by
  have h := Li.lines s
  rw [Li.cr] at h
  have h2 := congrArg List.length h
  rw [List.length_map] at h2
  rw [h2]
  exact Lx.lines_len s
theorem Tp.oneEnd (s : ByteArray) (m : Int) (w : World) (hs : s.size ≤ 65536) (hm : w.cell? ⟨0, 0, none⟩ = some (.int .i64 m)) : Calls Tryz.prog 22 #[.string s] w fun e w' => e = .returned (.string (Rd.page s)) ∧ Below w.heap.size w w' := by
  have k1 := Lib.countB_le ⟨#[13, 10]⟩ (by decide) s.size s (Nat.le_refl _)
  have c1 := Sh.strings_ReplaceAll s ⟨#[13, 10]⟩ ⟨#[10]⟩ m w (by omega) hm (by decide) (by show s.size + _ * 1 ≤ _; omega)
  have hl := Li.crlf_len s.data.toList
  rw [Wk.len_data] at hl
  obtain ⟨t, ht⟩ : ∃ t : ByteArray, t = ⟨(Lib.replaceAll s.data.toList [13, 10] [10]).toArray⟩ := ⟨_, rfl⟩
  have hts : t.size ≤ 65536 := by
    rw [← Wk.len_data, ht]
    show (Lib.replaceAll s.data.toList [13, 10] [10]).toArray.toList.length ≤ _
    rw [List.toList_toArray]; omega
  have c1' : Calls Tryz.prog 40 #[.string s, .string ⟨#[13, 10]⟩, .string ⟨#[10]⟩] w fun e w' => e = .returned (.string t) ∧ Below w.heap.size w w' := by rw [ht]; exact c1
  have k2 := Lib.countB_le ⟨#[13]⟩ (by decide) t.size t (Nat.le_refl _)
  have c2 := fun (u : World) (hb : Below w.heap.size w u) => Sh.strings_ReplaceAll t ⟨#[13]⟩ ⟨#[10]⟩ m u (by omega) (Tp.keep hb hm) (by decide) (by show t.size + _ * 1 ≤ _; omega)
  have he : (⟨(Lib.replaceAll t.data.toList [13] [10]).toArray⟩ : ByteArray) = Rd.page s := by
    rw [ht, Rd.page]
    show (⟨(Lib.replaceAll (Lib.replaceAll s.data.toList [13, 10] [10]).toArray.toList [13] [10]).toArray⟩ : ByteArray) = _
    rw [List.toList_toArray, Li.lines]
  have c2' : ∀ u, Below w.heap.size w u → Calls Tryz.prog 40 #[.string t, .string ⟨#[13]⟩, .string ⟨#[10]⟩] u fun e w' => e = .returned (.string (Rd.page s)) ∧ Below u.heap.size u w' := fun u hb => by rw [← he]; exact c2 u hb
  clear c1 c2 ht he hl k1 k2 hm
  go_enter Tryz.func22, Tryz.ntmps22
  go_wp2_with fail
  refine c1'.mono ?_
  rintro e w1 ⟨rfl, hb1⟩
  clear c1'
  go_wp2_with fail
  refine (c2' _ hb1).mono ?_
  rintro e w2 ⟨rfl, hb2⟩
  go_wp2
  go_ret
  exact ⟨rfl, hb1.trans (hb2.mono hb1.size)⟩
end Go.Proofs.YtjppobeomocgbaaGreatDoor
/-
  THE WALK of the landed copied.
-/
namespace Go.Proofs.YtjppobeomocgbaaGreatDoor
open Go.RowKit
set_option maxRecDepth 100000 in
set_option maxHeartbeats 4000000 in
theorem Ko.copied (p : List (List UInt8)) (v : Value) (R : Nat → Prop) (w : World) (h : St.Lies w R p v) (hn : p.length ≤ 1048576) (hz : ∀ t ∈ p, t.length ≤ 1048576) :
    Calls Tryz.prog 140 #[v] w fun e w' => ∃ v', e = .returned v' ∧ St.Lies w' (fun b => w.heap.size ≤ b ∧ b < w'.heap.size ∧ Rm.Ub w' b) p v' ∧ Below w.heap.size w w' := by
  obtain ⟨a, d, rfl, hd, hm, hx⟩ := h
  have HX := Lib.hid hx
  have HZ := Lib.hid hz
  have hml : p.length ≤ 9223372036854775807 := by omega
  clear hx hz hm
  go_enter Tryz.func140, Tryz.ntmps140
  go_wp2_with fail
  go_loopw [3, 8] (fun ov jv wr => ∃ (j : Nat) (ts : List (List UInt8)) (a1 : Option Addr) (d1 : Nat), j ≤ p.length ∧ ov = .slice a1 j d1 ∧ jv = .int .i64 (j : Int) ∧ ts.length = j ∧ Hid (p = ts ++ p.drop j) ∧ Hid (wr.ownsRow w.heap.size 9 1 (.slice a1 j d1) j (St.cells ts)) ∧ Hid (Below w.heap.size w wr)) (fun _ jv _ => p.length - (intOf jv).toNat)
  case atStart => exact ⟨0, [], none, 0, Nat.zero_le _, rfl, rfl, rfl, rfl, World.ownsRow_nil _ _ _ _, Below.refl _ _⟩
  case round =>
    obtain ⟨j, ts, a1, d1, hj, rfl, rfl, htl, HP, HO, HB⟩ := hrel
    by_cases hlt : j < p.length
    · have dlt : decide ((j : Int) < (p.length : Int)) = true := decide_eq_true (by omega)
      obtain ⟨b, o, rfl, _, x0⟩ := HX.out j p[j] (List.getElem?_eq_getElem hlt)
      have x0 := Tp.keep HB.out x0
      have hjd : j < d := by omega
      have hzj := HZ.out p[j] (List.getElem_mem hlt)
      have hst : p = (ts ++ [p[j]]) ++ p.drop (j + 1) := by rw [List.append_assoc]; exact HP.out.trans (by rw [List.drop_eq_getElem_cons hlt]; rfl)
      have HST := Lib.hid hst
      have cl := fun u => Tp.clone ⟨p[j].toArray⟩ u
      clear hst HP HX HZ
      generalize p[j] = t at *
      obtain ⟨T, hT⟩ : ∃ T : ByteArray, ⟨t.toArray⟩ = T := ⟨_, rfl⟩
      have HT := Lib.hid hT
      rw [hT] at x0 cl
      clear hT
      have hTs : T.size ≤ 281474976710656 := by rw [← HT.out]; show t.toArray.size ≤ _; rw [List.size_toArray]; omega
      go_wp2_with (first | (go_at_call 75; refine (cl _ hTs).mono ?_; rintro e w4 ⟨rfl, b4⟩; have B4 := Lib.hid (HB.out.trans (b4.mono HB.out.size)); have HO4 : Hid (w4.ownsRow w.heap.size 9 1 (.slice a1 j d1) j (St.cells ts)) := Rm.own_on HO.out (fun k hk => b4.block k (HO.out.lt k hk).2); clear b4 cl) | (at_builtin; refine Ro.push rfl _ _ 33 9 1 16 _ rfl Tryz.underlying33 St.info rfl (by decide) _ rfl (HO4.out.alloc _) w4.heap.size [.string T] rfl (St.cell1 w4 T) rfl (St.ones _) (by unfold maxLen; omega) (by omega) (by have := B4.out.size; simp; omega) ?_; intro v6 w6 R6 hg6 _; have HO6 : Hid (w6.ownsRow w.heap.size 9 1 v6 (j + 1) (St.cells (ts ++ [t]))) := (by unfold Hid; rw [St.cells_snoc, HT.out]; exact R6); obtain ⟨a6, d6, rfl⟩ := Gr.form R6; have B6 := Lib.hid (B4.out.trans (((Below.refl w.heap.size w4).alloc B4.out.size _).grown hg6 (by have := B4.out.size; simp; omega) (fun k e => (HO4.out.lt k e).1))); clear R6 hg6))
      go_roundw
      case rel => exact ⟨j + 1, ts ++ [t], a6, d6, by omega, rfl, by go_num, by rw [List.length_append, htl]; rfl, HST, HO6, B6⟩
      case measure => simp [intOf]; omega
    · have ej : j = p.length := by omega
      have dlt : decide ((j : Int) < (p.length : Int)) = false := decide_eq_false (by omega)
      have hts : p = ts := by
        have := HP.out
        rw [List.drop_of_length_le (by omega), List.append_nil] at this
        exact this
      clear HP HX HZ hlt
      subst ej
      have HL : Hid (St.Lies wr (fun b => w.heap.size ≤ b ∧ b < wr.heap.size ∧ Rm.Ub wr b) p (.slice a1 p.length d1)) := St.Lies.own (by rw [← hts] at HO; exact HO.out)
      clear hts htl HO
      go_wp2_with fail
      go_ret
      exact ⟨_, rfl, HL.out, HB.out⟩
end Go.Proofs.YtjppobeomocgbaaGreatDoor

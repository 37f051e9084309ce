/-
  PLAIN: the reference's scan and the program's reader, side by side: they tell the same tokens.
-/
import Derived.Test.YtblpkjlodncpeaaGreatDoorBTInvtoTSc1
import Derived.Test.YtblpkjlodncpeaaGreatDoorBPlaintoKPlain
import Derived.Lib.Replace
import Derived.Lib.CountLaws
import Derived.Shelf.Strings.Replace
import Derived.Shelf.Strconv.Clone
import Derived.Test.YtblpkjlodncpeaaGreatDoorProg
import Derived.Test.YtblpkjlodncpeaaGreatDoorBTBoxtoTOk
import Derived.Test.YtblpkjlodncpeaaGreatDoorBRReftoRefRef
import Derived.Lib.SplitLaws
import Derived.Deep.QuietTactic
import Derived.BigQuiet
import Derived.Test.YtblpkjlodncpeaaGreatDoorBRefDectoTSc2
import Derived.Shelf.Strconv.AppendIntPublic10
namespace Go.Proofs.YtblpkjlodncpeaaGreatDoor
theorem Rf.sl_append (P : ByteArray) (a b c : Nat) (h1 : a ≤ b) (h2 : b ≤ c) : Rf.sl P a b ++ Rf.sl P b c = Rf.sl P a c := by
 unfold Rf.sl
 simp only [ByteArray.data_extract, Array.toList_extract, List.extract_eq_take_drop]
 rw [show c - a = (b - a) + (c - b) by omega, List.take_add, List.drop_drop, show a + (b - a) = b by omega]
theorem Rf.sl_nil (P : ByteArray) (a : Nat) : Rf.sl P a a = [] := by
 unfold Rf.sl
 simp
theorem Rf.sl_len (P : ByteArray) (a b : Nat) (h : b ≤ P.size) : (Rf.sl P a b).length = b - a := by
 unfold Rf.sl
 simp only [ByteArray.data_extract, Array.toList_extract, List.extract_eq_take_drop, List.length_take, List.length_drop]
 have : P.data.toList.length = P.size := rfl
 omega
theorem Rf.sl_ne (P : ByteArray) (a b : Nat) (h : b ≤ P.size) (hab : a ≤ b) : Rf.sl P a b = [] ↔ a = b := by
 constructor
 ·
  intro e
  have := Rf.sl_len P a b h
  rw [e] at this
  simp at this
  omega
 ·
  intro e
  rw [e]
  exact Rf.sl_nil P b
theorem Rf.sl_ba (P : ByteArray) (a b : Nat) : (⟨(Rf.sl P a b).toArray⟩ : ByteArray) = P.extract a b := by
 apply ByteArray.ext
 show (P.extract a b).data.toList.toArray = (P.extract a b).data
 exact Array.toArray_toList
theorem Rf.ext_append (P : ByteArray) (a b : Nat) (h : a ≤ b) : P.extract a b ++ P.extract b (b + 1) = P.extract a (b + 1) := by
 rw [← Rf.sl_ba, ← Rf.sl_ba, ← Rf.sl_ba, ← Rf.sl_append P a b (b + 1) h (by omega)]
 apply ByteArray.ext
 simp [ByteArray.data_append]
theorem Rf.ext_nil (P : ByteArray) (a : Nat) : P.extract a a = Ts.e := by
 rw [← Rf.sl_ba, Rf.sl_nil]
 rfl
theorem Rf.dec_e : Rd.dec Ts.e = Ts.e := by decide
def Rf.txts (b : List UInt8) (raw : Bool) : List Tk := if b = [] then [] else [⟨0, Ts.e, Rf.txt b raw, [], false⟩]
theorem Rf.flush_out (x : Rf) : x.flush.out = x.out ++ Rf.txts x.buf x.raw := by
 unfold Rf.flush Rf.txts
 split
 ·
  simp
 ·
  rfl
theorem Rf.flush_buf (x : Rf) : x.flush.buf = [] := by
 unfold Rf.flush
 split
 ·
  next e => exact e
 ·
  rfl
theorem Rf.flush_rest (x : Rf) : x.flush.st = x.st ∧ x.flush.attrs = x.attrs ∧ x.flush.has = x.has := by
 unfold Rf.flush
 split <;> exact ⟨rfl, rfl, rfl⟩
theorem Rf.commit_rest (x : Rf) : x.commit.st = x.st ∧ x.commit.out = x.out ∧ x.commit.buf = x.buf ∧ x.commit.raw = x.raw ∧ x.commit.has = false ∧ x.commit.hold = x.hold := by
 unfold Rf.commit
 split
 ·
  repeat' split
  all_goals exact ⟨rfl, rfl, rfl, rfl, rfl, rfl⟩
 ·
  next h => exact ⟨rfl, rfl, rfl, rfl, by simpa using h, rfl⟩
theorem Rf.commit_attrs (x : Rf) : x.commit.attrs = if x.has = true ∧ x.fresh = true then x.attrs ++ [(x.pn, Rd.dec x.pv)] else x.attrs := by
 unfold Rf.commit Rf.fresh
 by_cases h : x.has = true
 ·
  rw [if_pos h]
  by_cases ha : x.attrs.any (fun a => decide (a.1 = x.pn)) = true
  ·
   rw [if_pos ha, if_neg (by rw [ha]; simp)]
  ·
   rw [if_neg ha]
   by_cases hl : x.attrs.length < 32
   ·
    rw [if_pos hl, if_pos ⟨h, by simp [ha, hl]⟩]
   ·
    rw [if_neg hl, if_neg (by simp [hl])]
 ·
  rw [if_neg h, if_neg (fun q => h q.1)]
theorem Rd.tellText_toks (P : ByteArray) (r : Rd) (f : Nat) (held : ByteArray) (h1 : r.text ≤ f) (h2 : f ≤ P.size) (raw : Bool) (hr : Rf.sl P r.text f ≠ [] → raw = Rf.isRaw held) : (Rd.tellText P r f held).toks = r.toks ++ Rf.txts (Rf.sl P r.text f) raw := by
 unfold Rd.tellText Rf.txts
 by_cases e : r.text = f
 ·
  rw [if_pos e, if_pos ((Rf.sl_ne P _ _ h2 h1).2 e), List.append_nil]
 ·
  have hne : Rf.sl P r.text f ≠ [] := fun q => e ((Rf.sl_ne P _ _ h2 h1).1 q)
  rw [if_neg e, if_neg hne, hr hne]
  show r.toks ++ [_] = _
  unfold Rf.txt Rf.isRaw Rd.textOf
  rw [Rf.sl_ba]
  by_cases q : Ts.kind held = 3 ∨ Ts.kind held = 4
  ·
   rw [if_pos q, if_pos (decide_eq_true q)]
  ·
   rw [if_neg q, if_neg (by rw [decide_eq_false q]; decide)]
structure Rf.Att (P : ByteArray) (i : Nat) (x : Rf) (r : Rd) : Prop where
 a1 : r.st.pl ≠ 5 → r.st.pl ≠ 8 → r.st.pl ≠ 9 → r.st.pl ≠ 10 → r.attrs = x.commit.attrs
 a5 : r.st.pl = 5 → x.has = true ∧ x.pn = r.st.attr ∧ x.pv = Ts.e ∧ r.attrs = x.attrs
 a67 : r.st.pl = 6 ∨ r.st.pl = 7 → x.has = true ∧ x.pv = Ts.e ∧ r.taken = x.fresh
 a8 : r.st.pl = 8 ∨ r.st.pl = 9 ∨ r.st.pl = 10 → x.has = true ∧ x.pv = P.extract r.value i ∧ r.value ≤ i ∧ r.taken = x.fresh ∧ r.attrs = if x.fresh = true then x.attrs ++ [(x.pn, Ts.e)] else x.attrs
structure Rf.Sim (P : ByteArray) (i : Nat) (x : Rf) (r : Rd) : Prop where
 st : x.st = r.st
 ok : Rd.Ok r i
 fine : Ts.Fine r.st
 loose : (r.st.pl < 3 ∨ 19 ≤ r.st.pl) → r.toks = x.out ∧ x.has = false ∧ x.attrs = [] ∧ r.attrs = [] ∧ (x.buf ≠ [] → x.raw = Rf.isRaw r.st.held)
 plain : (r.st.pl = 0 ∨ r.st.pl = 19) → x.hold = -1 ∧ x.buf = Rf.sl P r.text i
 mid : (r.st.pl = 1 ∨ r.st.pl = 2 ∨ r.st.pl = 20 ∨ r.st.pl = 21 ∨ r.st.pl = 22) → x.hold = (r.opn : Int) ∧ x.buf = Rf.sl P r.text r.opn
 other : 3 ≤ r.st.pl → r.st.pl < 19 → r.toks = x.out ++ Rf.txts x.buf x.raw
 com : 13 ≤ r.st.pl → r.st.pl ≤ 18 → x.hold = (r.opn : Int) ∧ x.has = false ∧ x.attrs = [] ∧ r.attrs = []
 tag : 3 ≤ r.st.pl → r.st.pl ≤ 12 → Rf.Att P i x r
theorem Rf.loose_true {a : Int} (h : a < 3 ∨ 19 ≤ a) : Rd.loose a = true := by
 unfold Rd.loose
 rcases h with h | h
 ·
  simp [h]
 ·
  simp [h]
theorem Rf.loose_false {a : Int} (h : 3 ≤ a ∧ a < 19) : Rd.loose a = false := by
 unfold Rd.loose
 rw [decide_eq_false (by omega), decide_eq_false (by omega)]
 rfl
theorem Rf.inTag_true {a : Int} (h : 3 ≤ a ∧ a ≤ 12) : Ts.inTag a = true := by
 unfold Ts.inTag
 rw [decide_eq_true h.1, decide_eq_true h.2]
 rfl
theorem Rf.inTag_false {a : Int} (h : a < 3 ∨ 12 < a) : Ts.inTag a = false := by
 unfold Ts.inTag
 rcases h with h | h
 ·
  rw [decide_eq_false (by omega)]; rfl
 ·
  rw [decide_eq_false (p := a ≤ 12) (by omega)]; simp
def Rd.moved (r : Rd) (N : Ts) (o : Nat) : Rd := ⟨N, r.toks, r.text, o, r.value, r.attrs, r.taken⟩
theorem Rd.go_same (P : ByteArray) (r : Rd) (N : Ts) (o i : Nat) (h1 : ¬ (r.st.pl = 22 ∧ N.pl = 0)) (h2 : ((r.st.pl < 3 ∨ 19 ≤ r.st.pl) ∧ (N.pl < 3 ∨ 19 ≤ N.pl)) ∨ ((13 ≤ r.st.pl ∧ r.st.pl ≤ 18) ∧ (3 ≤ N.pl ∧ N.pl < 19))) : Rd.go P r N o i = Rd.moved r N o := by
 unfold Rd.go
 rw [if_neg h1]
 rcases h2 with ⟨a, b⟩ | ⟨a, b⟩
 ·
  rw [if_neg (by rw [Rf.loose_true b]; simp), if_neg (by rw [Rf.inTag_false (by omega)]; decide), if_neg (by rw [Rf.loose_true a]; simp)]
  rfl
 ·
  rw [if_neg (by rw [Rf.loose_false (a := r.st.pl) (by omega)]; simp), if_neg (by rw [Rf.inTag_false (by omega)]; decide), if_neg (by rw [Rf.loose_false b]; simp)]
  rfl
theorem Rd.go_end (P : ByteArray) (r : Rd) (N : Ts) (o i : Nat) (h1 : r.st.pl = 22 ∧ N.pl = 0) : Rd.go P r N o i = (Rd.tellText P (Rd.moved r N o) o r.st.held).tell ⟨2, r.st.held, Ts.e, [], false⟩ (i + 1) := by
 unfold Rd.go
 rw [if_pos h1]
 rfl
theorem Rd.go_text (P : ByteArray) (r : Rd) (N : Ts) (o i : Nat) (h1 : r.st.pl < 3 ∨ 19 ≤ r.st.pl) (h2 : 3 ≤ N.pl ∧ N.pl < 19) : Rd.go P r N o i = Rd.tellText P (Rd.moved r N o) o r.st.held := by
 unfold Rd.go
 rw [if_neg (by omega), if_pos ⟨Rf.loose_true h1, Rf.loose_false h2⟩]
 rfl
theorem Rd.go_tags (P : ByteArray) (r : Rd) (N : Ts) (o i : Nat) (h1 : 3 ≤ r.st.pl ∧ r.st.pl ≤ 12) : Rd.go P r N o i = Rd.tags P (Rd.moved r N o) r.st i := by
 unfold Rd.go
 rw [if_neg (by omega), if_neg (by rw [Rf.loose_false (a := r.st.pl) (by omega)]; simp), if_pos (Rf.inTag_true h1)]
 rfl
theorem Rd.go_com (P : ByteArray) (r : Rd) (N : Ts) (o i : Nat) (h1 : 13 ≤ r.st.pl ∧ r.st.pl ≤ 18) (h2 : N.pl < 3 ∨ 19 ≤ N.pl) : Rd.go P r N o i = Rd.tellComment P (Rd.moved r N o) r.st i := by
 unfold Rd.go
 rw [if_neg (by omega), if_neg (by rw [Rf.loose_false (a := r.st.pl) (by omega)]; simp), if_neg (by rw [Rf.inTag_false (by omega)]; decide), if_pos ⟨Rf.loose_false (by omega), Rf.loose_true h2⟩]
 rfl
def Rf.moved (x : Rf) (N : Ts) : Rf := { x with st := N }
theorem Rf.go_emit (P : ByteArray) (x : Rf) (N : Ts) (i : Nat) (h : (x.st.pl = 22 ∧ N.pl = 0) ∨ (Rf.inTag x.st.pl ∧ ¬ Rf.inTag N.pl)) : Rf.go P x N i = { (Rf.moved x N).emit x.st with hold := -1 } := by
 unfold Rf.go
 exact if_pos h
theorem Rf.go_value (P : ByteArray) (x : Rf) (N : Ts) (i : Nat) (h1 : ¬ x.st.pl = 22 ∨ ¬ N.pl = 0) (h : Rf.inTag N.pl) : Rf.go P x N i = (Rf.moved x N).value P x.st i := by
 unfold Rf.go
 dsimp only
 rw [if_neg (by
  rintro (q | q)
  ·
   rcases h1 with e | e
   ·
    exact e q.1
   ·
    exact e q.2
  ·
   exact q.2 h), if_pos h]
 rfl
theorem Rf.go_com (P : ByteArray) (x : Rf) (N : Ts) (i : Nat) (h1 : 13 ≤ x.st.pl ∧ x.st.pl ≤ 18) (h2 : N.pl = 0) : Rf.go P x N i = { (Rf.moved x N).flush with out := (Rf.moved x N).flush.out ++ [⟨3, Ts.e, if x.st.pl = 17 then P.extract (x.hold.toNat + 4) (i - 2) else P.extract (x.hold.toNat + 2) i, [], false⟩], hold := -1 } := by
 unfold Rf.go
 dsimp only
 rw [if_neg (by unfold Rf.inTag; omega), if_neg (by unfold Rf.inTag; omega), if_pos ⟨h1.1, h1.2, h2⟩]
 rfl
theorem Rf.go_same (P : ByteArray) (x : Rf) (N : Ts) (i : Nat) (h1 : ¬ Rf.inTag N.pl) (h2 : ¬ Rf.inTag x.st.pl) (h3 : ¬ (x.st.pl = 22 ∧ N.pl = 0)) (h4 : ¬ (13 ≤ x.st.pl ∧ x.st.pl ≤ 18 ∧ N.pl = 0)) (h5 : (¬ Rf.inText N.pl ∨ ¬ Rf.inText x.st.pl) ∨ (¬ (N.pl = 1 ∨ N.pl = 20) ∧ ¬ (N.pl = 0 ∨ N.pl = 19))) : Rf.go P x N i = Rf.moved x N := by
 unfold Rf.go
 dsimp only
 rw [if_neg (by
  rintro (q | q)
  ·
   exact h3 q
  ·
   exact h2 q.1), if_neg h1, if_neg h4]
 rcases h5 with h5 | h5
 ·
  rw [if_pos h5]; rfl
 ·
  by_cases q : ¬ Rf.inText N.pl ∨ ¬ Rf.inText x.st.pl
  ·
   rw [if_pos q]; rfl
  ·
   rw [if_neg q, if_neg h5.1, if_neg h5.2]; rfl
theorem Rf.go_open (P : ByteArray) (x : Rf) (N : Ts) (i : Nat) (h1 : Rf.inText x.st.pl) (h2 : N.pl = 1 ∨ N.pl = 20) : Rf.go P x N i = { (if 0 ≤ x.hold then (Rf.moved x N).adds P x.hold.toNat i else Rf.moved x N) with hold := (i : Int) } := by
 unfold Rf.inText at h1
 unfold Rf.go
 dsimp only
 rw [if_neg (by unfold Rf.inTag; omega), if_neg (by unfold Rf.inTag; omega), if_neg (by omega), if_neg (by unfold Rf.inText; omega), if_pos h2]
 rfl
theorem Rf.go_text (P : ByteArray) (x : Rf) (N : Ts) (i : Nat) (h1 : Rf.inText x.st.pl) (h2 : N.pl = 0 ∨ N.pl = 19) (h3 : ¬ (x.st.pl = 22 ∧ N.pl = 0)) : Rf.go P x N i = { (Rf.moved x N).adds P (if 0 ≤ x.hold then x.hold.toNat else i) (i + 1) with hold := -1 } := by
 unfold Rf.inText at h1
 unfold Rf.go
 dsimp only
 rw [if_neg (by
  rintro (q | q)
  ·
   exact h3 q
  ·
   unfold Rf.inTag at q; omega), if_neg (by unfold Rf.inTag; omega), if_neg (by omega), if_neg (by unfold Rf.inText; omega), if_neg (by omega), if_pos h2]
 rfl
open Go.Lib
theorem Li.prefix (old new : List UInt8) (b : UInt8) (l : List UInt8) (ho : old ≠ []) (hn : old ≠ new) (h : old.isPrefixOf (b :: l) = true) : replaceAll (b :: l) old new = new ++ replaceAll ((b :: l).drop old.length) old new := by
 have hi : index (b :: l) old = ((0 : Nat) : Int) := by unfold index; rw [if_pos h]; rfl
 have hb : (old == new) = false := beq_eq_false_iff_ne.2 hn
 unfold replaceAll replace
 rw [hb]
 simp only [Bool.false_eq_true, if_false]
 have e : ∀ s, replaceNum s old (-1) = count s old := fun s => by unfold replaceNum; rw [if_pos (.inl (by decide))]
 rw [e, e, count_hit ho hi, Nat.add_comm, replaceK_hit _ _ _ _ _ hi]
 simp
theorem Li.skip (old new : List UInt8) (b : UInt8) (l : List UInt8) (ho : old ≠ []) (hn : old ≠ new) (h : old.isPrefixOf (b :: l) = false) : replaceAll (b :: l) old new = b :: replaceAll l old new := by
 have hb : (old == new) = false := beq_eq_false_iff_ne.2 hn
 unfold replaceAll replace
 rw [hb]
 simp only [Bool.false_eq_true, if_false]
 have e : ∀ s, replaceNum s old (-1) = count s old := fun s => by unfold replaceNum; rw [if_pos (.inl (by decide))]
 rw [e, e]
 by_cases hm : index l old = -1
 ·
  have hi : index (b :: l) old = -1 := by unfold index; rw [h, hm]; rfl
  rw [count_miss hi, count_miss hm]
  rfl
 ·
  obtain ⟨i, hi⟩ : ∃ i : Nat, index l old = i := by
   have := index_ge l old
   exact ⟨(index l old).toNat, by omega⟩
  have hi' : index (b :: l) old = ((i + 1 : Nat) : Int) := by
   unfold index
   rw [h, hi]
   have : ((i : Int) == -1) = false := beq_eq_false_iff_ne.2 (by omega)
   rw [this]
   rfl
  rw [count_hit ho hi, count_hit ho hi', Nat.add_comm, Nat.add_comm 1, replaceK_hit _ _ _ _ _ hi, replaceK_hit _ _ _ _ _ hi']
  rw [show i + 1 + old.length = (i + old.length) + 1 by omega, List.drop_succ_cons]
  rfl
theorem Li.nil (old new : List UInt8) (ho : old ≠ []) (hn : old ≠ new) : replaceAll [] old new = [] := by
 have hb : (old == new) = false := beq_eq_false_iff_ne.2 hn
 unfold replaceAll replace
 rw [hb]
 simp only [Bool.false_eq_true, if_false]
 unfold replaceNum
 rw [if_pos (.inl (by decide))]
 have hi : index [] old = -1 := by
  unfold index
  cases old with
  | nil => exact absurd rfl ho
  | cons a t => rfl
 rw [count_miss hi]
 rfl
def Li.one (c : UInt8) : UInt8 := if c = 13 then 10 else c
theorem Li.cr (s : List UInt8) : replaceAll s [13] [10] = s.map Li.one := by
 induction s with
 | nil => exact Li.nil _ _ (by decide) (by decide)
 | cons b l ih =>
  by_cases h : b = 13
  ·
   subst h
   rw [Li.prefix _ _ _ _ (by decide) (by decide) (by simp [List.isPrefixOf])]
   show [10] ++ replaceAll l [13] [10] = _
   rw [ih]
   rfl
  ·
   have hp : ([13] : List UInt8).isPrefixOf (b :: l) = false := by
    simp only [List.isPrefixOf, Bool.and_true]
    exact beq_eq_false_iff_ne.2 (fun e => h e.symm)
   rw [Li.skip _ _ _ _ (by decide) (by decide) hp, ih]
   simp [Li.one, h]
theorem Li.lines_len : ∀ (s : List UInt8), (Rd.lines s).length ≤ s.length := by
 intro s
 fun_induction Rd.lines s with
 | case1 => exact Nat.le_refl _
 | case2 l ih => simp; omega
 | case3 c l _ ih => simp; omega
theorem Li.lines (s : List UInt8) : replaceAll (replaceAll s [13, 10] [10]) [13] [10] = Rd.lines s := by
 rw [Li.cr]
 fun_induction Rd.lines s with
 | case1 => rw [Li.nil _ _ (by decide) (by decide)]; rfl
 | case2 l ih =>
  rw [Li.prefix _ _ _ _ (by decide) (by decide) (by simp [List.isPrefixOf])]
  show ([10] ++ replaceAll l [13, 10] [10]).map Li.one = _
  rw [List.map_append, ih]
  rfl
 | case3 c l hne ih =>
  have hp : ([13, 10] : List UInt8).isPrefixOf (c :: l) = false := by
   cases l with
   | nil => simp [List.isPrefixOf]
   | cons d l =>
    simp only [List.isPrefixOf, Bool.and_true]
    by_cases h1 : c = 13
    ·
     by_cases h2 : d = 10
     ·
      exact absurd h2 (by intro h2; subst h1 h2; exact hne l rfl rfl)
     ·
      simp [beq_eq_false_iff_ne.2 (fun e : (10 : UInt8) = d => h2 e.symm)]
    ·
     simp [beq_eq_false_iff_ne.2 (fun e : (13 : UInt8) = c => h1 e.symm)]
  rw [Li.skip _ _ _ _ (by decide) (by decide) hp, List.map_cons, ih]
  rfl
theorem Li.crlf_len (s : List UInt8) : (replaceAll s [13, 10] [10]).length ≤ s.length := by
 have h := Li.lines s
 rw [Li.cr] at h
 have h2 := congrArg List.length h
 rw [List.length_map] at h2
 rw [h2]
 exact Li.lines_len s
open Go.Shelf
def Sh.lays155_ren : Go.Shelf.Ren := ⟨fun | 155 => 51 | 154 => 97 | 138 => 130 | 165 => 110 | 143 => 131 | 166 => 113 | 197 => 132 | 169 => 114 | 195 => 153 | 218 => 154 | 240 => 135 | 241 => 136 | 219 => 155 | 260 => 156 | 276 => 158 | 277 => 159 | 217 => 169 | 225 => 170 | 224 => 171 | 267 => 172 | 266 => 176 | 314 => 177 | n => n, fun | 9 => 9 | 3 => 3 | 4 => 4 | 72 => 124 | 0 => 0 | 76 => 130 | 105 => 140 | 21 => 21 | 5 => 5 | 70 => 122 | 20 => 20 | 37 => 43 | 75 => 128 | 127 => 111 | 164 => 157 | 46 => 45 | 119 => 166 | 139 => 169 | 138 => 168 | 146 => 171 | 51 => 163 | 80 => 132 | n => n, fun | 1 => 1 | 3 => 2 | 4 => 3 | n => n⟩
theorem Sh.lays155 : Go.Proofs.Lays.n155 Tryz.prog Sh.lays155_ren := {
 mixed := by kernel_rfl
 f138 := Tryz.func130.trans (congrArg some (by kernel_rfl))
 f143 := Tryz.func131.trans (congrArg some (by kernel_rfl))
 f154 := Tryz.func97.trans (congrArg some (by kernel_rfl))
 f155 := Tryz.func51.trans (congrArg some (by kernel_rfl))
 f165 := Tryz.func110.trans (congrArg some (by kernel_rfl))
 f166 := Tryz.func113.trans (congrArg some (by kernel_rfl))
 f169 := Tryz.func114.trans (congrArg some (by kernel_rfl))
 f195 := Tryz.func153.trans (congrArg some (by kernel_rfl))
 f197 := Tryz.func132.trans (congrArg some (by kernel_rfl))
 f217 := Tryz.func169.trans (congrArg some (by kernel_rfl))
 f218 := Tryz.func154.trans (congrArg some (by kernel_rfl))
 f219 := Tryz.func155.trans (congrArg some (by kernel_rfl))
 f224 := Tryz.func171.trans (congrArg some (by kernel_rfl))
 f225 := Tryz.func170.trans (congrArg some (by kernel_rfl))
 f240 := Tryz.func135.trans (congrArg some (by kernel_rfl))
 f241 := Tryz.func136.trans (congrArg some (by kernel_rfl))
 f260 := Tryz.func156.trans (congrArg some (by kernel_rfl))
 f266 := Tryz.func176.trans (congrArg some (by kernel_rfl))
 f267 := Tryz.func172.trans (congrArg some (by kernel_rfl))
 f276 := Tryz.func158.trans (congrArg some (by kernel_rfl))
 f277 := Tryz.func159.trans (congrArg some (by kernel_rfl))
 f314 := Tryz.func177.trans (congrArg some (by kernel_rfl))
 t0 := Tryz.underlying0
 a0 := Tryz.isAgg0
 z0 := Tryz.sizeOf0
 v0 := Tryz.zeroValue0
 t3 := Tryz.underlying3
 a3 := Tryz.isAgg3
 z3 := Tryz.sizeOf3
 v3 := Tryz.zeroValue3
 t4 := Tryz.underlying4
 a4 := Tryz.isAgg4
 z4 := Tryz.sizeOf4
 v4 := Tryz.zeroValue4
 t5 := Tryz.underlying5
 a5 := Tryz.isAgg5
 z5 := Tryz.sizeOf5
 v5 := Tryz.zeroValue5
 t9 := Tryz.underlying9
 a9 := Tryz.isAgg9
 z9 := Tryz.sizeOf9
 v9 := Tryz.zeroValue9
 t20 := Tryz.underlying20
 a20 := Tryz.isAgg20
 z20 := Tryz.sizeOf20
 v20 := Tryz.zeroValue20
 t21 := Tryz.underlying21
 a21 := Tryz.isAgg21
 z21 := Tryz.sizeOf21
 v21 := Tryz.zeroValue21
 t37 := Tryz.underlying43
 a37 := Tryz.isAgg43
 z37 := Tryz.sizeOf43
 v37 := Tryz.zeroValue43
 t46 := Tryz.underlying45
 a46 := Tryz.isAgg45
 z46 := Tryz.sizeOf45
 v46 := Tryz.zeroValue45
 t51 := Tryz.underlying163
 a51 := Tryz.isAgg163
 z51 := Tryz.sizeOf163
 v51 := Tryz.zeroValue163
 t70 := Tryz.underlying122
 a70 := Tryz.isAgg122
 z70 := Tryz.sizeOf122
 v70 := Tryz.zeroValue122
 t72 := Tryz.underlying124
 a72 := Tryz.isAgg124
 z72 := Tryz.sizeOf124
 v72 := Tryz.zeroValue124
 t75 := Tryz.underlying128
 a75 := Tryz.isAgg128
 z75 := Tryz.sizeOf128
 v75 := Tryz.zeroValue128
 t76 := Tryz.underlying130
 a76 := Tryz.isAgg130
 z76 := Tryz.sizeOf130
 v76 := Tryz.zeroValue130
 t105 := Tryz.underlying140
 a105 := Tryz.isAgg140
 z105 := Tryz.sizeOf140
 v105 := Tryz.zeroValue140
 t119 := Tryz.underlying166
 a119 := Tryz.isAgg166
 z119 := Tryz.sizeOf166
 t127 := Tryz.underlying111
 a127 := Tryz.isAgg111
 z127 := Tryz.sizeOf111
 v127 := Tryz.zeroValue111
 t138 := Tryz.underlying168
 a138 := Tryz.isAgg168
 z138 := Tryz.sizeOf168
 v138 := Tryz.zeroValue168
 t139 := Tryz.underlying169
 a139 := Tryz.isAgg169
 z139 := Tryz.sizeOf169
 v139 := Tryz.zeroValue169
 t146 := Tryz.underlying171
 a146 := Tryz.isAgg171
 z146 := Tryz.sizeOf171
 v146 := Tryz.zeroValue171
 t164 := Tryz.underlying157
 a164 := Tryz.isAgg157
 z164 := Tryz.sizeOf157
 v164 := Tryz.zeroValue157
 g1 := by kernel_rfl
 g3 := by kernel_rfl
 g4 := by kernel_rfl }
theorem Sh.Builder_Extra_155 : Builder.Extra Tryz.prog Sh.lays155_ren := {
 sizeBuilder := by kernel_rfl
 liesBuilder := by kernel_rfl
 t5 := Tryz.underlying5
 a5 := Tryz.isAgg5
 z5 := Tryz.sizeOf5
 v5 := Tryz.zeroValue5
 infoByte := by kernel_rfl
 cellsByte := by kernel_rfl
 sizeByte := by kernel_rfl
 neB5 := by decide }
open Go.RowKit Go.Lib in
theorem Sh.strings_ReplaceAll (s old new : ByteArray) (m : Int) (w : World) (hs : s.size < 4294967281) (hm : w.cell? ⟨1, 0, none⟩ = some (.int .i64 m)) (h1 : 1 ≤ old.size) (hlen : s.size + Lib.countB s old * new.size ≤ 140737488355328) :
  Calls Tryz.prog 51 #[.string s, .string old, .string new] w fun e w' =>
   e = .returned (.string ⟨(Lib.replaceAll s.data.toList old.data.toList new.data.toList).toArray⟩) ∧ Below w.heap.size w w' := Any.strings_ReplaceAll Sh.lays155 Sh.Builder_Extra_155 s old new m w hs hm h1 hlen
def Sh.laysM316_ren : Go.Shelf.Ren := ⟨fun | 316 => 50 | n => n, fun | 9 => 9 | 3 => 3 | 4 => 4 | 37 => 43 | 0 => 0 | 127 => 111 | 5 => 5 | n => n, fun | n => n⟩
theorem Sh.laysM316 : Go.Proofs.LaysM.n316 Tryz.prog Sh.laysM316_ren := {
 mixed := by kernel_rfl
 f316 := Tryz.func50.trans (congrArg some (by kernel_rfl))
 t0 := Tryz.underlying0
 a0 := Tryz.isAgg0
 z0 := Tryz.sizeOf0
 v0 := Tryz.zeroValue0
 t3 := Tryz.underlying3
 a3 := Tryz.isAgg3
 z3 := Tryz.sizeOf3
 v3 := Tryz.zeroValue3
 t4 := Tryz.underlying4
 a4 := Tryz.isAgg4
 z4 := Tryz.sizeOf4
 v4 := Tryz.zeroValue4
 t9 := Tryz.underlying9
 a9 := Tryz.isAgg9
 z9 := Tryz.sizeOf9
 v9 := Tryz.zeroValue9
 t37 := Tryz.underlying43
 a37 := Tryz.isAgg43
 z37 := Tryz.sizeOf43
 v37 := Tryz.zeroValue43
 t127 := Tryz.underlying111
 a127 := Tryz.isAgg111
 z127 := Tryz.sizeOf111
 v127 := Tryz.zeroValue111
 t5 := Tryz.underlying5
 a5 := Tryz.isAgg5
 z5 := Tryz.sizeOf5
 v5 := Tryz.zeroValue5
 i0 := by kernel_rfl
 i3 := by kernel_rfl
 i4 := by kernel_rfl
 i5 := by kernel_rfl
 i9 := by kernel_rfl
 i37 := by kernel_rfl
 i127 := by kernel_rfl }
open Go.RowKit in
theorem Sh.stringslite_Clone (s : ByteArray) (w : World) (hlim : s.size ≤ 281474976710656) :
  Calls Tryz.prog 50 #[.string s] w fun e w' => e = .returned (.string s) ∧ Below w.heap.size w w' := Any.stringslite_Clone Sh.laysM316 s w hlim
open Go.RowKit
theorem Tp.clone (s : ByteArray) (w : World) (h : s.size ≤ 281474976710656) : Calls Tryz.prog 28 #[.string s] w fun e w' => e = .returned (.string s) ∧ Below w.heap.size w w' := by
 go_enter Tryz.func28, Tryz.ntmps28
 go_wp2_with (go_at_call 50; refine (Sh.stringslite_Clone s _ h).mono ?_; rintro e w1 ⟨rfl, hb⟩)
 go_ret
 exact ⟨rfl, hb⟩
theorem Tp.isLoose (a : Int) (w : World) : Calls Tryz.prog 35 #[.int .i64 a] w fun e w' => e = .returned (.bool (Rd.loose a)) ∧ w' = w := by
 unfold Rd.loose
 by_cases g1 : a < 3
 ·
  have d1 : decide (a < 3) = true := decide_eq_true g1
  go_enter Tryz.func35, Tryz.ntmps35
  go_wp2
  go_ret
  simp [g1]
 ·
  have d1 : decide (a < 3) = false := decide_eq_false g1
  by_cases g2 : 19 ≤ a
  ·
   have d2 : decide (19 ≤ a) = true := decide_eq_true g2
   go_enter Tryz.func35, Tryz.ntmps35
   go_wp2
   go_ret
   simp
  ·
   have d2 : decide (19 ≤ a) = false := decide_eq_false g2
   go_enter Tryz.func35, Tryz.ntmps35
   go_wp2
   go_ret
   simp
theorem Tp.oneLineEnd (s : ByteArray) (m : Int) (w : World) (hs : s.size ≤ 65536) (hm : w.cell? ⟨1, 0, none⟩ = some (.int .i64 m)) : Calls Tryz.prog 31 #[.string s] w fun e w' => e = .returned (.string (Rd.page s)) ∧ Below w.heap.size w w' := by
 have k1 := Lib.countB_le ⟨#[13, 10]⟩ (by decide) s.size s (Nat.le_refl _)
 have c1 := Sh.strings_ReplaceAll s ⟨#[13, 10]⟩ ⟨#[10]⟩ m w (by omega) hm (by decide) (by show s.size + _ * 1 ≤ _; omega)
 have hl := Li.crlf_len s.data.toList
 rw [Wk.len_data] at hl
 obtain ⟨t, ht⟩ : ∃ t : ByteArray, t = ⟨(Lib.replaceAll s.data.toList [13, 10] [10]).toArray⟩ := ⟨_, rfl⟩
 have hts : t.size ≤ 65536 := by
  rw [← Wk.len_data, ht]
  show (Lib.replaceAll s.data.toList [13, 10] [10]).toArray.toList.length ≤ _
  rw [List.toList_toArray]; omega
 have c1' : Calls Tryz.prog 51 #[.string s, .string ⟨#[13, 10]⟩, .string ⟨#[10]⟩] w fun e w' => e = .returned (.string t) ∧ Below w.heap.size w w' := by rw [ht]; exact c1
 have k2 := Lib.countB_le ⟨#[13]⟩ (by decide) t.size t (Nat.le_refl _)
 have c2 := fun (u : World) (hb : Below w.heap.size w u) => Sh.strings_ReplaceAll t ⟨#[13]⟩ ⟨#[10]⟩ m u (by omega) (Tp.keep hb hm) (by decide) (by show t.size + _ * 1 ≤ _; omega)
 have he : (⟨(Lib.replaceAll t.data.toList [13] [10]).toArray⟩ : ByteArray) = Rd.page s := by
  rw [ht, Rd.page]
  show (⟨(Lib.replaceAll (Lib.replaceAll s.data.toList [13, 10] [10]).toArray.toList [13] [10]).toArray⟩ : ByteArray) = _
  rw [List.toList_toArray, Li.lines]
 have c2' : ∀ u, Below w.heap.size w u → Calls Tryz.prog 51 #[.string t, .string ⟨#[13]⟩, .string ⟨#[10]⟩] u fun e w' => e = .returned (.string (Rd.page s)) ∧ Below u.heap.size u w' := fun u hb => by rw [← he]; exact c2 u hb
 clear c1 c2 ht he hl k1 k2 hm
 go_enter Tryz.func31, Tryz.ntmps31
 go_wp2_with fail
 refine c1'.mono ?_
 rintro e w1 ⟨rfl, hb1⟩
 clear c1'
 go_wp2_with fail
 refine (c2' _ hb1).mono ?_
 rintro e w2 ⟨rfl, hb2⟩
 go_wp2
 go_ret
 exact ⟨rfl, hb1.trans (hb2.mono hb1.size)⟩
theorem Rm.text_cut (P : ByteArray) (a b : Nat) (h1 : a ≤ b) (h2 : b ≤ P.size) (u : World) : (Instr.slice 9 (.string P) (some (.int .i64 (a : Int))) (some (.int .i64 (b : Int))) none).run Tryz.prog u = .ok (.string (P.extract a b)) u := by
 have h := Wk.run_cut u P (a : Int) (b : Int) (by omega) (by omega) (by omega)
 rwa [Int.toNat_natCast, Int.toNat_natCast] at h
theorem Rm.cut_size (P : ByteArray) (a b : Nat) : (P.extract a b).size ≤ P.size := by
 rw [ByteArray.size_extract]; omega
set_option maxHeartbeats 2000000 in
theorem Rm.tellText (r : Rd) (fin : Nat) (held : ByteArray) (w : World) (g : Nat) (P : ByteArray) (tv av : Value) (h : Rm.At w g P r tv av) (hP : P.size ≤ 65536) (hf : r.text ≤ fin) (hfP : fin ≤ P.size) (hn : r.toks.length ≤ 1000000) :
  Calls Tryz.prog 36 #[.pointer (some ⟨g, 0, none⟩), .int .i64 (fin : Int), .string held] w fun e w' => e = .returned (.tuple #[]) ∧ ∃ tv' av', Rm.At w' g P (Rd.tellText P r fin held) tv' av' ∧ Rm.Kept w w' g tv av tv' av' := by
 have c0 := h.box.page
 have c31 := h.box.text
 have HH := Lib.hid h
 by_cases he : r.text = fin
 ·
  have t0 : ((r.text : Int) == (fin : Int)) = true := beq_iff_eq.2 (by omega)
  have HE := Lib.hid he
  clear h he
  go_enter Tryz.func36, Tryz.ntmps36
  go_wp2
  refine bodyPost_ret (v := .tuple #[]) (by simp [results, Tryz.results36, go_sem]) rfl ⟨rfl, tv, av, ?_, Rm.Kept.refl _ _ _ _⟩
  unfold Rd.tellText
  rw [if_pos HE.out]
  exact HH.out
 ·
  have t0 : ((r.text : Int) == (fin : Int)) = false := beq_eq_false_iff_ne.2 (by omega)
  have hcut := Rm.text_cut P r.text fin hf hfP
  have hsz := Rm.cut_size P r.text fin
  have HT : Hid (Rd.tellText P r fin held = r.tell ⟨0, Ts.e, Rd.textOf P r.text fin held, [], false⟩ fin) := by unfold Rd.tellText Hid; rw [if_neg he]
  have HTO : Hid (Rd.textOf P r.text fin held = if Ts.kind held = 3 ∨ Ts.kind held = 4 then P.extract r.text fin else Rd.dec (P.extract r.text fin)) := rfl
  have hx : ∀ X, Rd.textOf P r.text fin held = X → Hid (Rd.tellText P r fin held = r.tell ⟨0, Ts.e, X, [], false⟩ fin) := fun X e => by rw [← e]; exact HT
  clear HT
  by_cases k3 : Ts.kind held = 3
  ·
   have HT := hx (P.extract r.text fin) (by rw [HTO.out, if_pos (.inl k3)])
   have u3 : (Ts.kind held == 3) = true := beq_iff_eq.2 k3
   clear k3 HTO hx
   have tell := fun (u : World) (hb : Below w.heap.size w u) => Rm.tell r ⟨0, Ts.e, P.extract r.text fin, [], false⟩ (.slice none 0 0) fin u g P tv av (HH.out.on hb) (Ak.Lies.nil _ _) hn
   clear h he hf hfP
   go_enter Tryz.func36, Tryz.ntmps36
   go_wp2_with fail
   go_quiet (fail)
   go_wp2_with (first | (go_at_call 80; refine (Tp.kind held _).mono ?_; rintro e w' ⟨rfl, rfl⟩) | (go_at_call 28; refine (Tp.clone (P.extract r.text fin) _ (by omega)).mono ?_; rintro e w1 ⟨rfl, hb1⟩; have q1 : Below w.heap.size w w1 := Below.trans (by first | exact Wk.below_drews (Below.refl _ _) _ | exact (Below.refl _ _).drew) (hb1.mono (by first | (simp; done) | omega)); clear hb1) | (go_at_call 75; refine (tell _ q1).mono ?_; rintro e w2 ⟨rfl, tv2, hA, hK⟩))
   go_end0
   refine ⟨rfl, tv2, .slice none 0 0, ?_, (Rm.Kept.of g tv av q1).trans hK⟩
   rw [HT.out]
   exact hA
  have u3 : (Ts.kind held == 3) = false := beq_eq_false_iff_ne.2 k3
  by_cases k4 : Ts.kind held = 4
  ·
   have HT := hx (P.extract r.text fin) (by rw [HTO.out, if_pos (.inr k4)])
   have u4 : (Ts.kind held == 4) = true := beq_iff_eq.2 k4
   clear k3 k4 HTO hx
   have tell := fun (u : World) (hb : Below w.heap.size w u) => Rm.tell r ⟨0, Ts.e, P.extract r.text fin, [], false⟩ (.slice none 0 0) fin u g P tv av (HH.out.on hb) (Ak.Lies.nil _ _) hn
   clear h he hf hfP
   go_enter Tryz.func36, Tryz.ntmps36
   go_wp2_with fail
   go_quiet (fail)
   go_wp2_with (first | (go_at_call 80; refine (Tp.kind held _).mono ?_; rintro e w' ⟨rfl, rfl⟩) | (go_at_call 28; refine (Tp.clone (P.extract r.text fin) _ (by omega)).mono ?_; rintro e w1 ⟨rfl, hb1⟩; have q1 : Below w.heap.size w w1 := Below.trans (by first | exact Wk.below_drews (Below.refl _ _) _ | exact (Below.refl _ _).drew) (hb1.mono (by first | (simp; done) | omega)); clear hb1) | (go_at_call 75; refine (tell _ q1).mono ?_; rintro e w2 ⟨rfl, tv2, hA, hK⟩))
   go_end0
   refine ⟨rfl, tv2, .slice none 0 0, ?_, (Rm.Kept.of g tv av q1).trans hK⟩
   rw [HT.out]
   exact hA
  have HT := hx (Rd.dec (P.extract r.text fin)) (by rw [HTO.out, if_neg (by simp [k3, k4])])
  have u4 : (Ts.kind held == 4) = false := beq_eq_false_iff_ne.2 k4
  have hD : ∀ u : World, Calls Tryz.prog 81 #[.string (P.extract r.text fin)] u fun e w' => e = .returned (.string (Rd.dec (P.extract r.text fin))) ∧ Below u.heap.size u w' := fun u => Rr.decode (P.extract r.text fin) u (by omega)
  clear k3 k4 HTO hx
  generalize Rd.dec (P.extract r.text fin) = D at *
  have tell := fun (u : World) (hb : Below w.heap.size w u) => Rm.tell r ⟨0, Ts.e, D, [], false⟩ (.slice none 0 0) fin u g P tv av (HH.out.on hb) (Ak.Lies.nil _ _) hn
  clear h he hf hfP
  go_enter Tryz.func36, Tryz.ntmps36
  go_wp2_with fail
  go_quiet (fail)
  go_wp2_with (first | (go_at_call 80; refine (Tp.kind held _).mono ?_; rintro e w' ⟨rfl, rfl⟩) | (go_at_call 81; refine (hD _).mono ?_; rintro e w1 ⟨rfl, hb1⟩; have q1 : Below w.heap.size w w1 := Below.trans (by first | exact Wk.below_drews (Below.refl _ _) _ | exact (Below.refl _ _).drew) (hb1.mono (by first | (simp; done) | omega)); clear hb1) | (go_at_call 75; refine (tell _ q1).mono ?_; rintro e w2 ⟨rfl, tv2, hA, hK⟩))
  go_end0
  refine ⟨rfl, tv2, .slice none 0 0, ?_, (Rm.Kept.of g tv av q1).trans hK⟩
  rw [HT.out]
  exact hA
theorem Sc.grown_drew {w w4 : World} {r : Option Nat} (h : w.drew.grownBy w4 r) : w.grownBy w4 r := ⟨h.os, h.tape, h.output, h.size, h.block⟩
set_option maxHeartbeats 4000000 in
theorem Sc.addsRaw (P : ByteArray) (x : Rf) (w : World) (g : Nat) (bv ov av : Value) (h : Sc.At w g P x bv ov av) (a b : Nat) (hab : a ≤ b) (hb : b ≤ P.size) (hP : P.size ≤ 65536) (hl : x.buf.length ≤ 65536) (K : Int) (hK : Ts.kind x.st.held = K) (raw : Bool) (hr : raw = Rf.isRaw x.st.held) (t3 : (K == 3) = true ∧ raw = true ∨ (K == 3) = false ∧ (K == 4) = raw) :
  Calls Tryz.prog 43 #[.pointer (some ⟨g, 0, none⟩), .int .i64 (a : Int), .int .i64 (b : Int)] w fun e w' => e = .returned (.tuple #[]) ∧ ∃ bv', Sc.At w' g P (x.adds P a b) bv' ov av ∧ Sc.Kept w w' g bv ov av bv' ov av := by
 obtain ⟨ba, bd, rfl⟩ := Rm.form h.buf
 have he := fun u => Rs.elem x.st.held u
 rw [hK] at he
 have c5 := h.box.cell 5 _ rfl
 have c9 := h.box.cell 9 _ rfl
 have fz := h.box.fz
 have hlt := h.lt
 have hA1 := h.set (x' := { x with raw := raw }) 9 (.bool raw) (by decide) rfl rfl rfl rfl
 have hK1 := Sc.Kept.set w g 9 (.bool raw) (.slice ba x.buf.length bd) ov av
 have HX : Hid (x.adds P a b = { ({ x with raw := raw } : Rf) with buf := x.buf ++ Rf.sl P a b }) := by unfold Hid Rf.adds; rw [← hr]
 obtain ⟨W, hW⟩ : ∃ W, w.setCell ⟨g, 9, none⟩ (.bool raw) = W := ⟨_, rfl⟩
 rw [hW] at hA1 hK1
 have e0 := hA1.box.cell 0 _ rfl
 have e8 := hA1.box.cell 8 _ rfl
 have ef := hA1.box.fz
 have hcut := Rm.text_cut P a b hab hb
 have hes : (P.extract a b).size = b - a := by rw [ByteArray.size_extract]; omega
 have HES := Lib.hid hes
 have HN : Hid (x.buf.length + (P.extract a b).size ≤ maxLen ∧ x.buf.length + (P.extract a b).size ≤ 140737488355328) := ⟨by unfold maxLen; omega, by omega⟩
 have hlW : g < W.heap.size := hA1.lt
 have HA1 := Lib.hid hA1
 have HK1 := Lib.hid hK1
 have HS := Lib.hid (Sc.strCells P a b)
 clear h hA1 hK1 hK hr hes
 rcases t3 with ⟨q3, rfl⟩ | ⟨q3, q4⟩
 all_goals
  go_enter Tryz.func43, Tryz.ntmps43
  go_wp2_with (go_at_call 91; refine (he _).mono ?_; rintro e w' ⟨rfl, hw⟩; have hw := hw.symm; subst hw)
  try rw [hW]
  clear hW c5 c9 fz he q3
  have HO := Lib.hid HA1.out.buf
  go_region_law (first | (refine Sc.step_str rfl (.tmp 26) (.tmp 33) rfl (.slice ba x.buf.length bd) (by rfl) HO.out (P.extract a b) (by rfl) HN.out.1 HN.out.2 (by first | omega | (simp; omega)) ?_; intro v4 w4 R4 hg4 hf4; obtain ⟨a4, d4, rfl⟩ := Rm.form R4; have HR4 := Lib.hid R4; have HG4 := Lib.hid (Sc.grown_drew hg4); have HF4 := Lib.hid hf4; have B4 := HA1.out.box.on (w' := w4) (Sc.grown_ne (Sc.grown_drew hg4) hlW (fun e => by have := (HO.out.lt g e).1; omega)); have d8 := B4.cell 8 _ rfl; have df := B4.fz; clear R4 hg4 hf4 B4))
  all_goals go_wp2
  all_goals go_end0
  all_goals
   have R5 : w4.ownsRow (g + 1) 5 1 (.slice a4 (x.buf.length + (P.extract a b).size) d4) (x.buf ++ Rf.sl P a b).length (Lib.byteCells (x.buf ++ Rf.sl P a b)) := by
    have := HR4.out
    rw [HS.out, ← Lib.byteCells_append] at this
    rw [List.length_append, Rf.sl_len P a b hb, ← HES.out]
    exact this
   obtain ⟨z1, z2⟩ := Sc.At.bufPut HA1.out R5 HG4.out HF4.out
   rw [HES.out] at z1 z2
   refine ⟨rfl, _, ?_, HK1.out.trans z2⟩
   rw [HX.out]
   exact z1
theorem Sc.adds (P : ByteArray) (x : Rf) (w : World) (g : Nat) (bv ov av : Value) (h : Sc.At w g P x bv ov av) (a b : Nat) (hab : a ≤ b) (hb : b ≤ P.size) (hP : P.size ≤ 65536) (hl : x.buf.length ≤ 65536) :
  Calls Tryz.prog 43 #[.pointer (some ⟨g, 0, none⟩), .int .i64 (a : Int), .int .i64 (b : Int)] w fun e w' => e = .returned (.tuple #[]) ∧ ∃ bv', Sc.At w' g P (x.adds P a b) bv' ov av ∧ Sc.Kept w w' g bv ov av bv' ov av := by
 refine Sc.addsRaw P x w g bv ov av h a b hab hb hP hl (Ts.kind x.st.held) rfl (Rf.isRaw x.st.held) rfl ?_
 unfold Rf.isRaw
 by_cases h3 : Ts.kind x.st.held = 3
 ·
  exact Or.inl ⟨beq_iff_eq.2 h3, decide_eq_true (Or.inl h3)⟩
 ·
  refine Or.inr ⟨beq_eq_false_iff_ne.2 h3, ?_⟩
  by_cases h4 : Ts.kind x.st.held = 4
  ·
   rw [decide_eq_true (Or.inr h4)]
   exact beq_iff_eq.2 h4
  ·
   rw [decide_eq_false (by rintro (q | q); exact h3 q; exact h4 q)]
   exact beq_eq_false_iff_ne.2 h4
def Sh.laysM176_ren : Go.Shelf.Ren := ⟨fun | 176 => 48 | 249 => 96 | 288 => 129 | 283 => 149 | 284 => 150 | 285 => 151 | 286 => 152 | 129 => 165 | 317 => 164 | 318 => 166 | 319 => 167 | 320 => 168 | 337 => 174 | 338 => 175 | n => n, fun | 37 => 43 | 2 => 2 | 3 => 3 | 53 => 69 | 4 => 4 | 9 => 9 | 171 => 151 | 0 => 0 | 173 => 154 | 212 => 162 | 51 => 163 | 5 => 5 | 20 => 20 | 213 => 164 | 46 => 45 | 232 => 173 | 233 => 174 | n => n, fun | 17 => 0 | 18 => 4 | 19 => 5 | n => n⟩
theorem Sh.laysM176 : Go.Proofs.LaysM.n176 Tryz.prog Sh.laysM176_ren := {
 mixed := by kernel_rfl
 f129 := Tryz.func165.trans (congrArg some (by kernel_rfl))
 f176 := Tryz.func48.trans (congrArg some (by kernel_rfl))
 f249 := Tryz.func96.trans (congrArg some (by kernel_rfl))
 f283 := Tryz.func149.trans (congrArg some (by kernel_rfl))
 f284 := Tryz.func150.trans (congrArg some (by kernel_rfl))
 f285 := Tryz.func151.trans (congrArg some (by kernel_rfl))
 f286 := Tryz.func152.trans (congrArg some (by kernel_rfl))
 f288 := Tryz.func129.trans (congrArg some (by kernel_rfl))
 f317 := Tryz.func164.trans (congrArg some (by kernel_rfl))
 f318 := Tryz.func166.trans (congrArg some (by kernel_rfl))
 f319 := Tryz.func167.trans (congrArg some (by kernel_rfl))
 f320 := Tryz.func168.trans (congrArg some (by kernel_rfl))
 f337 := Tryz.func174.trans (congrArg some (by kernel_rfl))
 f338 := Tryz.func175.trans (congrArg some (by kernel_rfl))
 t0 := Tryz.underlying0
 a0 := Tryz.isAgg0
 z0 := Tryz.sizeOf0
 v0 := Tryz.zeroValue0
 t2 := Tryz.underlying2
 a2 := Tryz.isAgg2
 z2 := Tryz.sizeOf2
 v2 := Tryz.zeroValue2
 t3 := Tryz.underlying3
 a3 := Tryz.isAgg3
 z3 := Tryz.sizeOf3
 v3 := Tryz.zeroValue3
 t4 := Tryz.underlying4
 a4 := Tryz.isAgg4
 z4 := Tryz.sizeOf4
 v4 := Tryz.zeroValue4
 t5 := Tryz.underlying5
 a5 := Tryz.isAgg5
 z5 := Tryz.sizeOf5
 v5 := Tryz.zeroValue5
 t9 := Tryz.underlying9
 a9 := Tryz.isAgg9
 z9 := Tryz.sizeOf9
 v9 := Tryz.zeroValue9
 t20 := Tryz.underlying20
 a20 := Tryz.isAgg20
 z20 := Tryz.sizeOf20
 v20 := Tryz.zeroValue20
 t37 := Tryz.underlying43
 a37 := Tryz.isAgg43
 z37 := Tryz.sizeOf43
 v37 := Tryz.zeroValue43
 t46 := Tryz.underlying45
 a46 := Tryz.isAgg45
 z46 := Tryz.sizeOf45
 v46 := Tryz.zeroValue45
 t51 := Tryz.underlying163
 a51 := Tryz.isAgg163
 z51 := Tryz.sizeOf163
 v51 := Tryz.zeroValue163
 t53 := Tryz.underlying69
 a53 := Tryz.isAgg69
 z53 := Tryz.sizeOf69
 v53 := Tryz.zeroValue69
 t171 := Tryz.underlying151
 a171 := Tryz.isAgg151
 z171 := Tryz.sizeOf151
 v171 := Tryz.zeroValue151
 t173 := Tryz.underlying154
 a173 := Tryz.isAgg154
 z173 := Tryz.sizeOf154
 v173 := Tryz.zeroValue154
 t212 := Tryz.underlying162
 a212 := Tryz.isAgg162
 z212 := Tryz.sizeOf162
 v212 := Tryz.zeroValue162
 t213 := Tryz.underlying164
 a213 := Tryz.isAgg164
 z213 := Tryz.sizeOf164
 t232 := Tryz.underlying173
 a232 := Tryz.isAgg173
 z232 := Tryz.sizeOf173
 v232 := Tryz.zeroValue173
 t233 := Tryz.underlying174
 a233 := Tryz.isAgg174
 z233 := Tryz.sizeOf174
 v233 := Tryz.zeroValue174
 g17 := by kernel_rfl
 g18 := by kernel_rfl
 g19 := by kernel_rfl
 i0 := by kernel_rfl
 i2 := by kernel_rfl
 i3 := by kernel_rfl
 i4 := by kernel_rfl
 i5 := by kernel_rfl
 i9 := by kernel_rfl
 i20 := by kernel_rfl
 i37 := by kernel_rfl
 i46 := by kernel_rfl
 i51 := by kernel_rfl
 i53 := by kernel_rfl
 i171 := by kernel_rfl
 i173 := by kernel_rfl
 i212 := by kernel_rfl
 i232 := by kernel_rfl
 i233 := by kernel_rfl
 m17 := by kernel_rfl
 m18 := by kernel_rfl
 m19 := by kernel_rfl }
open Go.RowKit Go.Sort Go.Lib in
theorem Sh.strconv_AppendInt_10 (B n : Nat) (i : Int) (h0 : -9223372036854775808 ≤ i) (h1 : i ≤ 9223372036854775807) (sv : Value) (xs : List Value) (w : World) (hown : w.ownsRow B 5 1 sv n xs) (hBw : B ≤ w.heap.size) (hlim : n + 21 ≤ 140737488355328) (htab : Lib.TabBelow Tryz.prog B w "internal/strconv.uint64pow10" .u64 Lib.pow10Tab) :
  Calls Tryz.prog 48 #[sv, .int .i64 i, .int .i64 10] w fun e w' => ∃ v', e = .returned v' ∧ w'.ownsRow B 5 1 v' (n + (Lib.itoa i).length) (xs ++ Lib.byteCells (Lib.itoa i)) ∧ Below B w w' ∧ Lib.OthersKept 5 none w w' := Any.strconv_AppendInt_10 Sh.laysM176 B n i h0 h1 sv xs w hown hBw hlim htab
end Go.Proofs.YtblpkjlodncpeaaGreatDoor

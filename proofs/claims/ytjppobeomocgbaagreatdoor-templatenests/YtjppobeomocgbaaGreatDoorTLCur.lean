/-
  THE PROGRAM's CURSOR IN MEMORY; the walks of lex's rest, upTo, skip, skipBlanks, skipTrimMark, take.
-/
import Derived.Test.YtjppobeomocgbaaGreatDoorTLLibtoKCopy
import Derived.Test.YtjppobeomocgbaaGreatDoorTLSplittoGLet
import Derived.Deep.QuietTactic
import Derived.Deep.RegionWith
namespace Go.Proofs.YtjppobeomocgbaaGreatDoor
open Go.RowKit
/-- what the program reads of package variables -/
def Lp.T (w : World) : Prop := ∃ m, w.cell? ⟨0, 0, none⟩ = some (.int .i64 m)
theorem Lp.T.on {w w' : World} (h : Lp.T w) (hb : Below w.heap.size w w') : Lp.T w' := h.imp fun _ hm => Tp.keep hb hm
/-- the splitter lies in block g -/
def Sq.At (w : World) (g : Nat) (s : ByteArray) (i : Nat) (p : Value) (o : Int) (t : Bool) : Prop := Bs.Box w g #[.string s, .int .i64 (i : Int), p, .int .i64 o, .bool t] 75
/-- all but block g is as it was -/
structure Sq.Kept (w w' : World) (g : Nat) : Prop where
  os : w'.os = w.os
  tape : w'.tape = w.tape
  output : w'.output = w.output
  size : w.heap.size ≤ w'.heap.size
  block : ∀ k, k < w.heap.size → k ≠ g → w'.heap[k]? = w.heap[k]?
theorem Sq.Kept.refl (w : World) (g : Nat) : Sq.Kept w w g := ⟨rfl, rfl, rfl, Nat.le_refl _, fun _ _ _ => rfl⟩
theorem Sq.Kept.trans {w w1 w2 : World} {g : Nat} (h : Sq.Kept w w1 g) (h2 : Sq.Kept w1 w2 g) : Sq.Kept w w2 g :=
  ⟨h2.os.trans h.os, h2.tape.trans h.tape, h2.output.trans h.output, Nat.le_trans h.size h2.size, fun k hk hg => (h2.block k (Nat.lt_of_lt_of_le hk h.size) hg).trans (h.block k hk hg)⟩
theorem Sq.Kept.set {w w1 : World} {g : Nat} (h : Sq.Kept w w1 g) (i : Nat) (v : Value) : Sq.Kept w (w1.setCell ⟨g, i, none⟩ v) g :=
  ⟨h.os, h.tape, h.output, by simp; exact h.size, fun k hk hg => (Below.heap_setCell _ _ _ _ hg).trans (h.block k hk hg)⟩
theorem Sq.Kept.drewN {w w1 : World} {g : Nat} (h : Sq.Kept w w1 g) (n : Nat) : Sq.Kept w (w1.drewN n) g := ⟨h.os, h.tape, h.output, h.size, h.block⟩
theorem Sq.Kept.then {w w1 w2 : World} {g : Nat} (h : Sq.Kept w w1 g) (hb : Below w1.heap.size w1 w2) : Sq.Kept w w2 g :=
  ⟨hb.os.trans h.os, hb.tape.trans h.tape, hb.output.trans h.output, Nat.le_trans h.size hb.size, fun k hk hg => (hb.block k (Nat.lt_of_lt_of_le hk h.size)).trans (h.block k hk hg)⟩
theorem Sq.Kept.of {w w' : World} (g : Nat) (hb : Below w.heap.size w w') : Sq.Kept w w' g := (Sq.Kept.refl w g).then hb
section
variable {w w' : World} {g : Nat} {s : ByteArray} {i : Nat} {p : Value} {o : Int} {t : Bool}
theorem Sq.At.c0 (h : Sq.At w g s i p o t) : w.cell? ⟨g, 0, none⟩ = some (.string s) := Bs.Box.cell h 0 rfl
theorem Sq.At.c1 (h : Sq.At w g s i p o t) : w.cell? ⟨g, 1, none⟩ = some (.int .i64 (i : Int)) := Bs.Box.cell h 1 rfl
theorem Sq.At.c2 (h : Sq.At w g s i p o t) : w.cell? ⟨g, 2, none⟩ = some p := Bs.Box.cell h 2 rfl
theorem Sq.At.c3 (h : Sq.At w g s i p o t) : w.cell? ⟨g, 3, none⟩ = some (.int .i64 o) := Bs.Box.cell h 3 rfl
theorem Sq.At.c4 (h : Sq.At w g s i p o t) : w.cell? ⟨g, 4, none⟩ = some (.bool t) := Bs.Box.cell h 4 rfl
theorem Sq.At.fz (h : Sq.At w g s i p o t) : ∀ q, w.frozen? ⟨g, q, none⟩ = false := fun q => Bs.Box.frozen h q
theorem Sq.At.drewN (h : Sq.At w g s i p o t) (n : Nat) : Sq.At (w.drewN n) g s i p o t := h
theorem Sq.At.set1 (h : Sq.At w g s i p o t) (j : Nat) : Sq.At (w.setCell ⟨g, 1, none⟩ (.int .i64 (j : Int))) g s j p o t := Bs.Box.set h 1 _
theorem Sq.At.set2 (h : Sq.At w g s i p o t) (v : Value) : Sq.At (w.setCell ⟨g, 2, none⟩ v) g s i v o t := Bs.Box.set h 2 _
theorem Sq.At.set3 (h : Sq.At w g s i p o t) (x : Int) : Sq.At (w.setCell ⟨g, 3, none⟩ (.int .i64 x)) g s i p x t := Bs.Box.set h 3 _
theorem Sq.At.set4 (h : Sq.At w g s i p o t) (b : Bool) : Sq.At (w.setCell ⟨g, 4, none⟩ (.bool b)) g s i p o b := Bs.Box.set h 4 _
theorem Sq.At.then (h : Sq.At w g s i p o t) (hb : Below w.heap.size w w') : Sq.At w' g s i p o t := Bs.Box.on h hb (Bs.Box.lt h)
end
/-- the package variable stands, in another block -/
def Sq.M (w : World) (g : Nat) : Prop := 0 ≠ g ∧ Lp.T w
theorem Sq.M.on {w w' : World} {g : Nat} (h : Sq.M w g) (hk : Sq.Kept w w' g) : Sq.M w' g := by
  obtain ⟨h1, m, hm⟩ := h
  exact ⟨h1, m, (World.cell?_of_block (a := ⟨0, 0, none⟩) (hk.block _ (World.block_lt_of_cell? _ _ hm) h1)).trans hm⟩
set_option maxHeartbeats 2000000 in
theorem Sq.rest (g : Nat) (s : ByteArray) (i : Nat) (p : Value) (o : Int) (t : Bool) (w : World) (h : Sq.At w g s i p o t) (hi : i ≤ s.size) :
    Calls Tryz.prog 66 #[.pointer (some ⟨g, 0, none⟩)] w fun e w' => e = .returned (.string (s.extract i s.size)) ∧ ∃ n, w' = w.drewN n := by
  have c0 := h.c0
  have c1 := h.c1
  clear h
  go_enter Tryz.func66, Tryz.ntmps66
  go_wp2_with fail
  go_quiet (fail)
  go_wp2
  go_ret
  exact ⟨rfl, _, rfl⟩
set_option maxHeartbeats 2000000 in
theorem Sq.upTo (sep : ByteArray) (n : Nat) (g : Nat) (s : ByteArray) (i : Nat) (p : Value) (o : Int) (t : Bool) (w : World) (h : Sq.At w g s i p o t) (hM : Sq.M w g) (hi : i ≤ n) (hn : n ≤ s.size) (hs : s.size ≤ 65536) (hc : (Lib.cut (s.data.toList.drop i) sep.data.toList).1 = (s.data.toList.drop i).take (n - i)) :
    Calls Tryz.prog 41 #[.pointer (some ⟨g, 0, none⟩), .string sep] w fun e w' => e = .returned (.string (s.extract i n)) ∧ Sq.At w' g s n p o t ∧ Sq.Kept w w' g := by
  obtain ⟨_, m, hm⟩ := hM
  have r1 := Sq.rest g s i p o t w h (by omega)
  have hz : (s.extract i s.size).size = s.size - i := by rw [ByteArray.size_extract]; omega
  have k1 := fun u hm => Sh.strings_Cut (s.extract i s.size) sep m u (by omega) hm
  have e1 : (⟨(Lib.cut (s.extract i s.size).data.toList sep.data.toList).1.toArray⟩ : ByteArray) = s.extract i n := by
    apply WideShapes.bytes_inj
    show (Lib.cut (s.extract i s.size).data.toList sep.data.toList).1.toArray.toList = _
    rw [List.toList_toArray, Wk.rest_data, hc, Lib.extract_data]
  rw [e1] at k1
  generalize (Lib.cut (s.extract i s.size).data.toList sep.data.toList).2.1 = X at *
  generalize (Lib.cut (s.extract i s.size).data.toList sep.data.toList).2.2 = B at *
  have hz2 : (s.extract i n).size = n - i := by rw [ByteArray.size_extract]; omega
  generalize s.extract i n = U at *
  generalize s.extract i s.size = V at *
  have H := Lib.hid h
  clear h hc e1
  go_enter Tryz.func41, Tryz.ntmps41
  go_wp2_with (go_at_call 66; refine r1.mono ?_; rintro e w1 ⟨rfl, n1, rfl⟩)
  have hm1 : (w.drewN n1).cell? ⟨0, 0, none⟩ = some (.int .i64 m) := hm
  have H1 := Lib.hid (H.out.drewN n1)
  have HK := Lib.hid ((Sq.Kept.refl w g).drewN n1)
  generalize w.drewN n1 = w1 at *
  clear r1 hm H
  have H3 := fun (u : World) (q : Sq.At u g s i p o t) => q.set1 n
  have HK3 := fun (u : World) (q : Sq.Kept w u g) => q.set 1 (.int .i64 (n : Int))
  have en : (i : Int) + (U.size : Int) = (n : Int) := by omega
  rw [← en] at H3 HK3
  have hz3 : U.size ≤ 65536 := by omega
  clear en hz2 hz
  go_wp2_with (go_at_call 65; refine (k1 _ hm1).mono ?_; rintro e w2 ⟨rfl, n2, rfl⟩; have H2 := Lib.hid (H1.out.drewN n2); have HK2 := Lib.hid (HK.out.drewN n2); generalize w1.drewN n2 = w2 at *; have c1 := H2.out.c1; have f := H2.out.fz; have H3 := Lib.hid (H3 _ H2.out); have HK3 := Lib.hid (HK3 _ HK2.out); clear k1 hm1 H1 HK H2 HK2)
  go_ret
  exact ⟨rfl, by have := H3.out; exact this, HK3.out⟩
set_option maxHeartbeats 2000000 in
theorem Sq.skip (mk : ByteArray) (b : Bool) (g : Nat) (s : ByteArray) (i : Nat) (p : Value) (o : Int) (t : Bool) (w : World) (h : Sq.At w g s i p o t) (hi : i ≤ s.size) (hs : s.size ≤ 65536) (hz : mk.size ≤ 2) (hb : Lib.hasPrefix (s.data.toList.drop i) mk.data.toList = b) :
    Calls Tryz.prog 43 #[.pointer (some ⟨g, 0, none⟩), .string mk] w fun e w' => e = .returned (.bool b) ∧ Sq.At w' g s (if b = true then i + mk.size else i) p o t ∧ Sq.Kept w w' g := by
  have r1 := Sq.rest g s i p o t w h hi
  have k1 := fun u => Sh.strings_HasPrefix (s.extract i s.size) mk u
  rw [Wk.rest_data, hb] at k1
  generalize s.extract i s.size = V at *
  have H := Lib.hid h
  clear h hb
  cases b with
  | true =>
    go_enter Tryz.func43, Tryz.ntmps43
    go_wp2_with (go_at_call 66; refine r1.mono ?_; rintro e w1 ⟨rfl, n1, rfl⟩)
    have H1 := Lib.hid (H.out.drewN n1)
    have HK := Lib.hid ((Sq.Kept.refl w g).drewN n1)
    generalize w.drewN n1 = w1 at *
    have c1 := H1.out.c1
    have f := H1.out.fz
    have H3 := Lib.hid (H1.out.set1 (i + mk.size))
    have HK3 := Lib.hid (HK.out.set 1 (.int .i64 ((i + mk.size : Nat) : Int)))
    rw [show ((i + mk.size : Nat) : Int) = (i : Int) + (mk.size : Int) by omega] at H3 HK3
    clear r1 H H1 HK
    go_wp2_with (go_at_call 71; refine (k1 _).mono ?_; rintro e w2 ⟨rfl, hw⟩; have hw := hw.symm; subst hw)
    go_ret
    exact ⟨rfl, H3.out, HK3.out⟩
  | false =>
    go_enter Tryz.func43, Tryz.ntmps43
    go_wp2_with (go_at_call 66; refine r1.mono ?_; rintro e w1 ⟨rfl, n1, rfl⟩)
    have H1 := Lib.hid (H.out.drewN n1)
    have HK := Lib.hid ((Sq.Kept.refl w g).drewN n1)
    generalize w.drewN n1 = w1 at *
    clear r1 H
    go_wp2_with (go_at_call 71; refine (k1 _).mono ?_; rintro e w2 ⟨rfl, hw⟩; have hw := hw.symm; subst hw)
    go_ret
    exact ⟨rfl, H1.out, HK.out⟩
set_option maxHeartbeats 2000000 in
theorem Sq.take (g : Nat) (s : ByteArray) (i : Nat) (p : Value) (o : Int) (t : Bool) (w : World) (h : Sq.At w g s i p o t) (hi : i < s.size) (hs : s.size ≤ 65536) :
    Calls Tryz.prog 76 #[.pointer (some ⟨g, 0, none⟩)] w fun e w' => e = .returned (.int .u8 (s[i].toNat : Int)) ∧ Sq.At w' g s (i + 1) p o t ∧ Sq.Kept w w' g := by
  have c0 := h.c0
  have c1 := h.c1
  have H := Lib.hid h
  clear h
  have e1 : ((i : Int) == (s.size : Int)) = false := beq_eq_false_iff_ne.2 (by omega)
  have e2 : ¬ i = s.size := by omega
  go_enter Tryz.func76, Tryz.ntmps76
  go_wp2_with fail
  go_quiet (fail)
  have H1 := Lib.hid (H.out.drewN nq)
  have HK := Lib.hid ((Sq.Kept.refl w g).drewN nq)
  generalize w.drewN nq = w1 at *
  clear c0 c1 H
  have c0 := H1.out.c0
  have c1 := H1.out.c1
  go_wp2_with fail
  go_quiet (fail)
  have H2 := Lib.hid (H1.out.drewN nq)
  have HK2 := Lib.hid (HK.out.drewN nq)
  generalize w1.drewN nq = w2 at *
  clear c0 c1 H1 HK
  have c0 := H2.out.c0
  have c1 := H2.out.c1
  have f := H2.out.fz
  have H3 := Lib.hid (H2.out.set1 (i + 1))
  have HK3 := Lib.hid (HK2.out.set 1 (.int .i64 ((i + 1 : Nat) : Int)))
  rw [show ((i + 1 : Nat) : Int) = (i : Int) + 1 by omega] at H3 HK3
  clear H2 HK2
  go_wp2_with fail
  go_ret
  exact ⟨rfl, H3.out, HK3.out⟩
set_option maxHeartbeats 2000000 in
/-- at the end: nothing -/
theorem Sq.take0 (g : Nat) (s : ByteArray) (p : Value) (o : Int) (t : Bool) (w : World) (h : Sq.At w g s s.size p o t) :
    Calls Tryz.prog 76 #[.pointer (some ⟨g, 0, none⟩)] w fun e w' => e = .returned (.int .u8 0) ∧ Sq.At w' g s s.size p o t ∧ Sq.Kept w w' g := by
  have c0 := h.c0
  have c1 := h.c1
  have H := Lib.hid h
  clear h
  go_enter Tryz.func76, Tryz.ntmps76
  go_wp2_with fail
  go_quiet (fail)
  have H1 := Lib.hid (H.out.drewN nq)
  have HK := Lib.hid ((Sq.Kept.refl w g).drewN nq)
  generalize w.drewN nq = w1 at *
  clear c0 c1 H
  go_wp2_with fail
  go_ret
  exact ⟨rfl, H1.out, HK.out⟩
set_option maxHeartbeats 4000000 in
/-- blanks ahead are passed over -/
theorem Sq.skipBlanks (g : Nat) (s : ByteArray) (i : Nat) (p : Value) (o : Int) (t : Bool) (w : World) (h : Sq.At w g s i p o t) (hi : i ≤ s.size) (hs : s.size ≤ 65536) :
    Calls Tryz.prog 47 #[.pointer (some ⟨g, 0, none⟩)] w fun e w' => e = .returned (.bool (decide (i < Lx.skip i (s.data.toList.drop i)))) ∧ Sq.At w' g s (Lx.skip i (s.data.toList.drop i)) p o t ∧ Sq.Kept w w' g := by
  have c0 := h.c0
  have c1 := h.c1
  have r1 := fun u q => Sq.rest g s i p o t u q hi
  have hz : (s.extract i s.size).size = s.size - i := by rw [ByteArray.size_extract]; omega
  have k1 := fun u => Sh.strings_TrimLeft (s.extract i s.size) ⟨#[9, 10, 32]⟩ u (by decide) (Go.Proofs.ascii_of_all (by decide))
  have hk := Lx.skip_ge (s.data.toList.drop i) i
  have e1 := Ll.skip (s.data.toList.drop i) i
  rw [List.length_drop, Wk.len_data] at hk e1
  have e2 : (Lib.trimLeftS (s.extract i s.size).data.toList (⟨#[9, 10, 32]⟩ : ByteArray).data.toList) = Lx.left (s.data.toList.drop i) := by rw [Wk.rest_data]; exact Ll.left _
  rw [e2] at k1
  have hl := Lx.left_len (s.data.toList.drop i)
  rw [List.length_drop, Wk.len_data] at hl
  obtain ⟨U, hU⟩ : ∃ U : ByteArray, U = ⟨(Lx.left (s.data.toList.drop i)).toArray⟩ := ⟨_, rfl⟩
  have hUz : U.size = (Lx.left (s.data.toList.drop i)).length := by rw [hU, ← Wk.len_data]
  rw [← hU] at k1
  rw [← hUz] at e1 hl
  clear hUz hU e2
  generalize Lx.skip i (s.data.toList.drop i) = n at *
  generalize s.extract i s.size = V at *
  have en : (s.size : Int) - (U.size : Int) = (n : Int) := by omega
  have HN := Lib.hid (show (s.size : Int) - (U.size : Int) = (n : Int) by omega)
  have hd : decide ((i : Int) < (n : Int)) = decide (i < n) := by simp
  generalize decide (i < n) = B at *
  have H := Lib.hid h
  have HK := Lib.hid (Sq.Kept.refl w g)
  have hUs : U.size ≤ s.size := by omega
  clear h en e1 hl hz
  go_enter Tryz.func47, Tryz.ntmps47
  have H3 := fun (u : World) (q : Sq.At u g s i p o t) => q.set1 n
  have HK3 := fun (u : World) (q : Sq.Kept w u g) => q.set 1 (.int .i64 (n : Int))
  go_wp2_with fail
  rw [← HN.out] at H3 HK3 hd
  clear HN
  go_region_with (first | (go_at_call 66; refine (r1 _ (by exact H.out)).mono ?_; rintro e w1 ⟨rfl, n1, rfl⟩) | (go_at_call 42; refine (k1 _).mono ?_; rintro e w2 ⟨rfl, b2⟩; have H2 := Lib.hid (Sq.At.then (w := _) (by exact H.out) b2); have HK2 := Lib.hid (Sq.Kept.then (w1 := _) (by exact HK.out.drewN _) b2); have f := H2.out.fz; have d0 := H2.out.c0; have d1 := H2.out.c1; have H4 := Lib.hid (H3 _ H2.out); have HK4 := Lib.hid (HK3 _ HK2.out); clear b2 H3 HK3 k1 r1 H2 HK2))
  all_goals go_wp2
  all_goals go_ret
  all_goals exact ⟨rfl, H4.out, HK4.out⟩
theorem Lq.pre (S : List UInt8) (i : Nat) (a b : UInt8) : Lib.hasPrefix (S.drop i) [a, b] = Lx.two S i a b := by
  unfold Lib.hasPrefix Lx.two
  by_cases h : i < S.length
  · rw [List.drop_eq_getElem_cons h, Ll.pre2, List.getElem?_eq_getElem h, ← List.head?_drop]
    simp
  · rw [List.drop_of_length_le (by omega), List.getElem?_eq_none (by omega)]
    rfl
theorem Lq.pre1 (S : List UInt8) (i : Nat) (a : UInt8) : Lib.hasPrefix (S.drop i) [a] = decide (S[i]? = some a) := by
  unfold Lib.hasPrefix
  by_cases h : i < S.length
  · rw [List.drop_eq_getElem_cons h, List.getElem?_eq_getElem h]
    simp only [List.isPrefixOf, Bool.and_true, Option.some.injEq]
    rw [Bool.eq_iff_iff]
    simp only [beq_iff_eq, decide_eq_true_eq]
    exact ⟨Eq.symm, Eq.symm⟩
  · rw [List.drop_of_length_le (by omega), List.getElem?_eq_none (by omega)]
    rfl
theorem Lq.mark (S : List UInt8) (i : Nat) : Lx.mark S i = (Lx.two S i 45 32 || (Lx.two S i 45 10 || Lx.two S i 45 9)) := by
  unfold Lx.mark Lx.two Lx.blank
  by_cases h : i + 1 < S.length
  · rw [List.getElem?_eq_getElem (show i < S.length by omega), List.getElem?_eq_getElem h, List.getD_eq_getElem?_getD, List.getElem?_eq_getElem h, decide_eq_true h]
    simp only [Option.some.injEq, Option.getD_some, Bool.and_true]
    rw [Bool.eq_iff_iff]
    simp only [Bool.and_eq_true, Bool.or_eq_true, decide_eq_true_eq, beq_iff_eq]
    constructor
    · rintro ⟨h1, (h2 | h2) | h2⟩
      · exact .inr (.inr ⟨h1, h2⟩)
      · exact .inr (.inl ⟨h1, h2⟩)
      · exact .inl ⟨h1, h2⟩
    · rintro (⟨h1, h2⟩ | ⟨h1, h2⟩ | ⟨h1, h2⟩)
      · exact ⟨h1, .inr h2⟩
      · exact ⟨h1, .inl (.inr h2)⟩
      · exact ⟨h1, .inl (.inl h2)⟩
  · rw [decide_eq_false h, List.getElem?_eq_none (show S.length ≤ i + 1 by omega)]
    simp
theorem Sq.skip2T (a b : UInt8) (g : Nat) (s : ByteArray) (i : Nat) (p : Value) (o : Int) (t : Bool) (w : World) (h : Sq.At w g s i p o t) (hi : i ≤ s.size) (hs : s.size ≤ 65536) (hb : Lx.two s.data.toList i a b = true) :
    Calls Tryz.prog 43 #[.pointer (some ⟨g, 0, none⟩), .string ⟨#[a, b]⟩] w fun e w' => e = .returned (.bool true) ∧ Sq.At w' g s (i + 2) p o t ∧ Sq.Kept w w' g :=
  (Sq.skip ⟨#[a, b]⟩ true g s i p o t w h hi hs (Nat.le_refl 2) ((Lq.pre _ _ _ _).trans hb)).mono fun _ _ h => h
theorem Sq.skip2F (a b : UInt8) (g : Nat) (s : ByteArray) (i : Nat) (p : Value) (o : Int) (t : Bool) (w : World) (h : Sq.At w g s i p o t) (hi : i ≤ s.size) (hs : s.size ≤ 65536) (hb : Lx.two s.data.toList i a b = false) :
    Calls Tryz.prog 43 #[.pointer (some ⟨g, 0, none⟩), .string ⟨#[a, b]⟩] w fun e w' => e = .returned (.bool false) ∧ Sq.At w' g s i p o t ∧ Sq.Kept w w' g :=
  (Sq.skip ⟨#[a, b]⟩ false g s i p o t w h hi hs (Nat.le_refl 2) ((Lq.pre _ _ _ _).trans hb)).mono fun _ _ h => h
theorem Sq.skip1T (a : UInt8) (g : Nat) (s : ByteArray) (i : Nat) (p : Value) (o : Int) (t : Bool) (w : World) (h : Sq.At w g s i p o t) (hi : i ≤ s.size) (hs : s.size ≤ 65536) (hb : s.data.toList[i]? = some a) :
    Calls Tryz.prog 43 #[.pointer (some ⟨g, 0, none⟩), .string ⟨#[a]⟩] w fun e w' => e = .returned (.bool true) ∧ Sq.At w' g s (i + 1) p o t ∧ Sq.Kept w w' g :=
  (Sq.skip ⟨#[a]⟩ true g s i p o t w h hi hs (by show 1 ≤ 2; decide) ((Lq.pre1 _ _ _).trans (decide_eq_true hb))).mono fun _ _ h => h
theorem Sq.skip1F (a : UInt8) (g : Nat) (s : ByteArray) (i : Nat) (p : Value) (o : Int) (t : Bool) (w : World) (h : Sq.At w g s i p o t) (hi : i ≤ s.size) (hs : s.size ≤ 65536) (hb : ¬ s.data.toList[i]? = some a) :
    Calls Tryz.prog 43 #[.pointer (some ⟨g, 0, none⟩), .string ⟨#[a]⟩] w fun e w' => e = .returned (.bool false) ∧ Sq.At w' g s i p o t ∧ Sq.Kept w w' g :=
  (Sq.skip ⟨#[a]⟩ false g s i p o t w h hi hs (by show 1 ≤ 2; decide) ((Lq.pre1 _ _ _).trans (decide_eq_false hb))).mono fun _ _ h => h
set_option maxHeartbeats 2000000 in
/-- a trim mark behind two braces -/
theorem Sq.trimMark (g : Nat) (s : ByteArray) (i : Nat) (p : Value) (o : Int) (t : Bool) (w : World) (h : Sq.At w g s i p o t) (hi : i ≤ s.size) (hs : s.size ≤ 65536) :
    Calls Tryz.prog 44 #[.pointer (some ⟨g, 0, none⟩)] w fun e w' => e = .returned (.bool (Lx.mark s.data.toList i)) ∧ Sq.At w' g s (if Lx.mark s.data.toList i = true then i + 2 else i) p o t ∧ Sq.Kept w w' g := by
  rw [Lq.mark]
  have H := Lib.hid h
  clear h
  cases h1 : Lx.two s.data.toList i 45 32 with
  | true =>
    have k1 := fun u q => Sq.skip2T 45 32 g s i p o t u q hi hs h1
    go_enter Tryz.func44, Tryz.ntmps44
    go_wp2_with (go_at_call 43; refine (k1 _ H.out).mono ?_; rintro e w1 ⟨rfl, a1, b1⟩; have H1 := Lib.hid a1; have K1 := Lib.hid b1; clear a1 b1 k1 H)
    go_ret
    exact ⟨rfl, H1.out, K1.out⟩
  | false =>
    have k1 := fun u q => Sq.skip2F 45 32 g s i p o t u q hi hs h1
    cases h2 : Lx.two s.data.toList i 45 10 with
    | true =>
      have k2 := fun u q => Sq.skip2T 45 10 g s i p o t u q hi hs h2
      go_enter Tryz.func44, Tryz.ntmps44
      go_wp2_with (go_at_call 43; first | (refine (k1 _ H.out).mono ?_; rintro e w1 ⟨rfl, a1, b1⟩; have H1 := Lib.hid a1; have K1 := Lib.hid b1; clear a1 b1 k1 H) | (refine (k2 _ H1.out).mono ?_; rintro e w2 ⟨rfl, a2, b2⟩; have H2 := Lib.hid a2; have K2 := Lib.hid (K1.out.trans b2); clear a2 b2 k2))
      go_ret
      exact ⟨rfl, H2.out, K2.out⟩
    | false =>
      have k2 := fun u q => Sq.skip2F 45 10 g s i p o t u q hi hs h2
      cases h3 : Lx.two s.data.toList i 45 9 with
      | true =>
        have k3 := fun u q => Sq.skip2T 45 9 g s i p o t u q hi hs h3
        go_enter Tryz.func44, Tryz.ntmps44
        go_wp2_with (go_at_call 43; first | (refine (k1 _ H.out).mono ?_; rintro e w1 ⟨rfl, a1, b1⟩; have H1 := Lib.hid a1; have K1 := Lib.hid b1; clear a1 b1 k1 H) | (refine (k2 _ H1.out).mono ?_; rintro e w2 ⟨rfl, a2, b2⟩; have H2 := Lib.hid a2; have K2 := Lib.hid (K1.out.trans b2); clear a2 b2 k2) | (refine (k3 _ H2.out).mono ?_; rintro e w3 ⟨rfl, a3, b3⟩; have H3 := Lib.hid a3; have K3 := Lib.hid (K2.out.trans b3); clear a3 b3 k3))
        go_ret
        exact ⟨rfl, H3.out, K3.out⟩
      | false =>
        have k3 := fun u q => Sq.skip2F 45 9 g s i p o t u q hi hs h3
        go_enter Tryz.func44, Tryz.ntmps44
        go_wp2_with (go_at_call 43; first | (refine (k1 _ H.out).mono ?_; rintro e w1 ⟨rfl, a1, b1⟩; have H1 := Lib.hid a1; have K1 := Lib.hid b1; clear a1 b1 k1 H) | (refine (k2 _ H1.out).mono ?_; rintro e w2 ⟨rfl, a2, b2⟩; have H2 := Lib.hid a2; have K2 := Lib.hid (K1.out.trans b2); clear a2 b2 k2) | (refine (k3 _ H2.out).mono ?_; rintro e w3 ⟨rfl, a3, b3⟩; have H3 := Lib.hid a3; have K3 := Lib.hid (K2.out.trans b3); clear a3 b3 k3))
        go_ret
        exact ⟨rfl, H3.out, K3.out⟩
end Go.Proofs.YtjppobeomocgbaaGreatDoor

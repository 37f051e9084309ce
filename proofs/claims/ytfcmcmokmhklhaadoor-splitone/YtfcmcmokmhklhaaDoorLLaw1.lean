/-
  PLAIN: sources without actions; a comment alone.
-/
import Derived.Test.YtfcmcmokmhklhaaDoorLSplit
namespace Go.Proofs.YtfcmcmokmhklhaaDoor
open Go.RowKit
/-- one byte of a text -/
theorem Lf.cut1 (s : ByteArray) (i : Nat) (h : i < s.size) : ∃ p : ByteArray, (∀ u : World, (Instr.slice 9 (.string s) (some (.int .i64 (i : Int))) (some (.int .i64 ((i : Int) + 1))) none).run Tryd.prog u = .ok (.string p) u) ∧ p.data.toList = [s[i]] ∧ p.size = 1 := by
  have hd : (s.extract i (i + 1)).data.toList = [s[i]] := by
    rw [Wk.part_data, Rl.drop s i h]
    rfl
  refine ⟨s.extract i (i + 1), fun u => ?_, hd, by rw [← Wk.len_data, hd]; rfl⟩
  have h := Wk.run_cut u s (i : Int) ((i : Int) + 1) (by omega) (by omega) (by omega)
  rw [show ((i : Int) + 1).toNat = i + 1 by omega, Int.toNat_natCast] at h
  exact h
/-- the first m bytes without those of a kind -/
def Lf.keep (f : UInt8 → Bool) (m : Nat) (l : List UInt8) : List UInt8 := (l.take m).filter f
theorem Lf.keep_step {f : UInt8 → Bool} {s : ByteArray} {i : Nat} (h : i < s.size) : Lf.keep f (i + 1) s.data.toList = Lf.keep f i s.data.toList ++ if f s[i] = true then [s[i]] else [] := by
  have hl : i < s.data.toList.length := by rw [Wk.len_data]; exact h
  have hg : s.data.toList[i] = s[i] := by simp [ByteArray.getElem_eq_getElem_data]
  unfold Lf.keep
  rw [List.take_succ_eq_append_getElem hl, hg, List.filter_append, List.filter_cons, List.filter_nil]
theorem Lf.keep_end {f : UInt8 → Bool} {s : ByteArray} {i m : Nat} (h : i = s.size) (hm : i ≤ m) : Lf.keep f i s.data.toList = Lf.keep f m s.data.toList := by
  unfold Lf.keep
  rw [List.take_of_length_le (by rw [Wk.len_data]; omega), List.take_of_length_le (by rw [Wk.len_data]; omega)]
theorem Lf.keep_len (f : UInt8 → Bool) (m : Nat) (l : List UInt8) : (Lf.keep f m l).length ≤ m := by
  unfold Lf.keep
  refine Nat.le_trans (List.length_filter_le _ _) ?_
  rw [List.length_take]
  omega
theorem Lf.keep_all {f : UInt8 → Bool} {m : Nat} {l : List UInt8} : ∀ c ∈ Lf.keep f m l, f c = true := fun _ hc => (List.mem_filter.1 hc).2
theorem Lf.append (a b : ByteArray) : (a ++ b).data.toList = a.data.toList ++ b.data.toList := by rw [ByteArray.data_append, Array.toList_append]
theorem Lx.text_none : ∀ (l : List UInt8) (i : Nat), (∀ c ∈ l, c ≠ 123) → Lx.text i l = i + l.length := by
  intro l
  induction l with
  | nil => intro i _; rfl
  | cons a l ih =>
    intro i h
    unfold Lx.text
    rw [if_neg (fun q => h a (List.mem_cons_self ..) q.1), ih (i + 1) (fun c hc => h c (List.mem_cons_of_mem _ hc)), List.length_cons]
    omega
theorem Lx.lines_mem {c : UInt8} (hc : c ≠ 10) : ∀ (l : List UInt8), c ∈ Rd.lines l → c ∈ l := by
  intro l
  fun_induction Rd.lines l with
  | case1 => exact id
  | case2 l ih =>
    intro h
    rcases List.mem_cons.1 h with h | h
    · exact absurd h hc
    · exact List.mem_cons_of_mem _ (List.mem_cons_of_mem _ (ih h))
  | case3 a l _ ih =>
    intro h
    rcases List.mem_cons.1 h with h | h
    · split at h
      · exact absurd h hc
      · rw [h]; exact List.mem_cons_self ..
    · exact List.mem_cons_of_mem _ (ih h)
theorem Lx.limits_ok {ps : List Pc} (h1 : Lx.long ps = false) (h2 : ps.length ≤ 1024) : Lx.limits ps = (ps, 0) := by
  unfold Lx.limits
  rw [if_neg (by rw [h1]; decide), if_neg (by omega)]
theorem Lx.one_long (t : List UInt8) (k : Nat) : Lx.long (Lx.one t k) = false := by
  unfold Lx.one
  split <;> rfl
/-- A SOURCE WITHOUT ACTIONS -/
theorem Lx.split_plain {s : ByteArray} (h : ∀ c ∈ s.data.toList, c ≠ 123) (hs : s.size ≤ 65536) : Lx.split s = (Lx.one (Rd.lines s.data.toList) 0, 0) := by
  unfold Lx.split
  rw [if_neg (by omega)]
  have hS : ∀ c ∈ Rd.lines s.data.toList, c ≠ 123 := fun c hc e => h c (Lx.lines_mem (by rw [e]; decide) _ hc) e
  generalize Rd.lines s.data.toList = S at *
  unfold Lx.all
  have ht : Lx.text 0 (S.drop 0) = S.length := by rw [List.drop_zero, Lx.text_none _ _ hS, Nat.zero_add]
  rw [Lx.go_fin (T := S) (by omega) ht (Nat.le_refl _) (by rw [if_neg (by decide), List.drop_zero, Nat.sub_zero, List.take_length]), List.nil_append]
  exact Lx.limits_ok (Lx.one_long _ _) (Nat.le_trans (Lx.one_len _ _).1 (by decide))
theorem Lx.lines_pre : ∀ (a l : List UInt8), (∀ c ∈ a, c ≠ 13) → Rd.lines (a ++ l) = a ++ Rd.lines l := by
  intro a
  induction a with
  | nil => intro l _; rfl
  | cons c a ih =>
    intro l h
    rw [List.cons_append, Rl.lother _ _ (h c (List.mem_cons_self ..)), ih l (fun x hx => h x (List.mem_cons_of_mem _ hx))]
    rfl
theorem Lx.lines_app (r : List UInt8) (hr : r.head? ≠ some 10) : ∀ (a : List UInt8), Rd.lines (a ++ r) = Rd.lines a ++ Rd.lines r := by
  intro a
  fun_induction Rd.lines a with
  | case1 => rfl
  | case2 l ih => rw [List.cons_append, List.cons_append, Rl.l13a, ih]; rfl
  | case3 c l hne ih =>
    by_cases hc : c = 13
    · subst hc
      have hl : l.head? ≠ some 10 := fun q => by
        cases l with
        | nil => cases q
        | cons d l =>
          have : d = 10 := by simpa using q
          exact hne l rfl (by rw [this])
      rw [List.cons_append, Rl.l13b _ (by cases l with | nil => exact hr | cons d l => exact hl), ih]
      rfl
    · rw [List.cons_append, Rl.lother _ _ hc, ih, if_neg hc]
      rfl
theorem Lx.star_at (r : List UInt8) : ∀ (l : List UInt8) (i : Nat), (∀ c ∈ l, c ≠ 42) → Lx.star i (l ++ 42 :: 47 :: r) = some (i + l.length) := by
  intro l
  induction l with
  | nil => intro i _; rfl
  | cons a l ih =>
    intro i h
    rw [List.cons_append]
    unfold Lx.star
    rw [if_neg (fun q => h a (List.mem_cons_self ..) q.1), ih (i + 1) (fun c hc => h c (List.mem_cons_of_mem _ hc)), List.length_cons]
    congr 1
    omega
/-- A COMMENT ALONE -/
theorem Lx.split_comment {s : ByteArray} {c : List UInt8} (h : s.data.toList = [123, 123, 47, 42] ++ (c ++ [42, 47, 125, 125])) (hc : ∀ x ∈ c, x ≠ 42) (hs : s.size ≤ 65536) : Lx.split s = ([], 0) := by
  unfold Lx.split
  rw [if_neg (by omega), h, Lx.lines_pre _ _ (by decide), Lx.lines_app _ (by decide)]
  have hC : ∀ x ∈ Rd.lines c, x ≠ 42 := fun x hx e => hc x (Lx.lines_mem (by rw [e]; decide) _ hx) e
  rw [show Rd.lines [42, 47, 125, 125] = [42, 47, 125, 125] by rfl]
  generalize Rd.lines c = C at *
  generalize hS : [123, 123, 47, 42] ++ (C ++ [42, 47, 125, 125]) = S
  have hl : S.length = C.length + 8 := by rw [← hS]; simp
  have hdrop : ∀ k, S.drop (4 + k) = (C ++ [42, 47, 125, 125]).drop k := fun k => by rw [← hS, List.drop_append, List.drop_of_length_le (by simp)]; simp
  have d0 : Lx.text 0 (S.drop 0) = 0 := by rw [← hS]; rfl
  have d1 : Lx.mark S (0 + 2) = false := by rw [← hS]; rfl
  have d2 : Lx.skip (if false = true then 0 + 3 else 0 + 2) (S.drop (if false = true then 0 + 3 else 0 + 2)) = 2 := by rw [← hS]; rfl
  have d3 : Lx.two S 2 47 42 = true := by rw [← hS]; rfl
  have h4 := hdrop 0
  rw [List.drop_zero] at h4
  have h5 : Lx.star 4 (S.drop 4) = some (4 + C.length) := by rw [h4]; exact Lx.star_at _ _ _ hC
  have h6 : S.drop (4 + C.length + 2) = [125, 125] := by rw [Nat.add_assoc, hdrop, List.drop_append, List.drop_of_length_le (by omega), Nat.add_sub_cancel_left]; rfl
  have h7 : Lx.skip (4 + C.length + 2) (S.drop (4 + C.length + 2)) = 4 + C.length + 2 := by rw [h6]; rfl
  have h8 : Lx.two S (4 + C.length + 2) 125 125 = true := by
    have := Lx.two_drop S (4 + C.length + 2) 0 125 125
    rw [Nat.add_zero] at this
    rw [← this, h6]
    rfl
  have ha : Lx.act S 2 = some ⟨4 + C.length + 2 + 2, [], false, true⟩ := by
    unfold Lx.act
    rw [if_pos d3]
    exact Lx.comment_good (J := 4 + C.length + 2) h5 h7 (by rw [decide_eq_false (by omega), Bool.false_and]) rfl h8
  unfold Lx.all
  rw [Lx.go_some (T := []) d0 (by omega) (by omega) d1 d2 ha rfl, Lx.go_end _ _ _ (by show S.length ≤ 4 + C.length + 2 + 2; omega)]
  rfl
end Go.Proofs.YtfcmcmokmhklhaaDoor

/-
  THE WALK of stolelaw9.UrlBack: for any text of up to 2^30 bytes it returns true.
-/
import Derived.Test.YtfjhbhddfpkebaaDoorQTo
namespace Go.Proofs.YtfjhbhddfpkebaaDoor
open Go.RowKit
theorem Rb.call {ops : Array Oper} {o : Oper} {a : Act} {w : World} {K : Act → World → Prop} {E : Prop} {Z : Exit → Act → World → Prop} (hgd : o.guard = none) (f : FuncId) (args : Array Value) (hrun : (execOp a.eval o).run Tryd.prog w = .ok (.enter f args) w) (v : Value) (hc : Calls Tryd.prog f args w fun e w' => e = .returned v ∧ w' = w) (h : K (a.put o.dst v) w) : if Region.wanted o (yielded ops a.tmps) = true then Oper.wp Tryd.prog o a w K Z else E := by
  rw [if_pos (by simp [Region.wanted, hgd])]
  unfold Oper.wp
  rw [hrun, Oper.upon_enter]
  refine hc.mono fun e w' hh => ?_
  obtain ⟨rfl, rfl⟩ := hh
  exact h
theorem Ub.dash (l : List UInt8) : Ug.part (Pl.normL l ++ [45]) = Ug.part l ++ [45] := by
  show Ug.pct Ug.plain (Pl.normL (Pl.normL l ++ [45])) = Ug.pct Ug.plain (Pl.normL l) ++ [45]
  rw [Pl.norm_append _ _ (Pl.may_norm l), Ug.pct_append]
  rfl
theorem Ub.wave (l : List UInt8) : Ug.part ([126] ++ l) = [126] ++ Ug.part l := by
  show Ug.pct Ug.plain (Pl.normL ([126] ++ l)) = [126] ++ Ug.pct Ug.plain (Pl.normL l)
  rw [Pl.norm_append _ _ (by decide +kernel), Ug.pct_append]
  rfl
theorem Ub.sixteen (n : Nat) (hn : n < 16) (w : World) : Calls Tryd.prog 16 #[.int .u8 ((Ug.hex n).toNat : Int)] w fun e w' => e = .returned (.int .u8 (n : Int)) ∧ w' = w := by
  have hh : (n < 10 ∧ (Ug.hex n).toNat = 48 + n) ∨ (¬ n < 10 ∧ (Ug.hex n).toNat = 55 + n) := by
    have : ∀ k : Fin 16, (k.val < 10 ∧ (Ug.hex k.val).toNat = 48 + k.val) ∨ (¬ k.val < 10 ∧ (Ug.hex k.val).toNat = 55 + k.val) := by decide
    exact this ⟨n, hn⟩
  generalize (Ug.hex n).toNat = m at *
  rcases hh with ⟨h1, h2⟩ | ⟨h1, h2⟩
  · have d : decide ((m : Int) ≥ 65) = false := decide_eq_false (by omega)
    go_enter Tryd.func16, Tryd.ntmps16
    go_wp2
    go_ret
    refine ⟨?_, rfl⟩
    show Ending.returned (.int .u8 (48 + (n : Int) - 48)) = _
    rw [show 48 + (n : Int) - 48 = n by omega]
  · have d : decide ((m : Int) ≥ 65) = true := decide_eq_true (by omega)
    go_enter Tryd.func16, Tryd.ntmps16
    go_wp2
    go_ret
    refine ⟨?_, rfl⟩
    show Ending.returned (.int .u8 (55 + (n : Int) - 65 + 10)) = _
    rw [show 55 + (n : Int) - 65 + 10 = n by omega]
theorem Ub.or16 (c : UInt8) : bits .or .u8 (((c.toNat / 16 : Nat) : Int) * 16) ((c.toNat % 16 : Nat) : Int) = (c.toNat : Int) := by
  have h := Ug.all (p := fun c => decide (bits .or .u8 (((c.toNat / 16 : Nat) : Int) * 16) ((c.toNat % 16 : Nat) : Int) = (c.toNat : Int))) (by decide +kernel) c
  exact of_decide_eq_true h
theorem Ub.split {n : List UInt8} {k : Nat} {c : UInt8} (h : n[k]? = some c) : Ug.pct Ug.plain n = Ug.pct Ug.plain (n.take k) ++ (Ug.byte Ug.plain c ++ Ug.pct Ug.plain (n.drop (k + 1))) := by
  have hl := (List.getElem?_eq_some_iff.1 h).1
  have e := (List.getElem?_eq_some_iff.1 h).2
  rw [← Ug.pct_cons, ← Ug.pct_append, ← e, ← List.drop_eq_getElem_cons hl, List.take_append_drop]
theorem Ub.get {n : List UInt8} {k : Nat} {c : UInt8} (h : n[k]? = some c) (j : Nat) (hj : j < (Ug.byte Ug.plain c).length) : (Ug.pct Ug.plain n)[(Ug.pct Ug.plain (n.take k)).length + j]? = (Ug.byte Ug.plain c)[j]? := by
  rw [Ub.split h, List.getElem?_append_right (by omega), Nat.add_sub_cancel_left, List.getElem?_append_left hj]
theorem Ub.len {n : List UInt8} {k : Nat} {c : UInt8} (h : n[k]? = some c) : (Ug.pct Ug.plain (n.take k)).length + (Ug.byte Ug.plain c).length ≤ (Ug.pct Ug.plain n).length := by
  rw [Ub.split h, List.length_append, List.length_append]
  omega
theorem Ub.plain_no (c : UInt8) (h : Ug.stays Ug.plain c = true) : ¬ c = 37 := by
  have := Ug.all (p := fun c => !Ug.stays Ug.plain c || !decide (c = 37)) (by decide +kernel) c
  rw [h] at this
  simpa using this
theorem Ub.at {x : ByteArray} {n : List UInt8} (hx : Ug.pct Ug.plain n = x.data.toList) {i : Nat} {d : UInt8} (h : (Ug.pct Ug.plain n)[i]? = some d) : ∃ hi : i < x.size, x[i] = d := by
  rw [hx] at h
  have hl := (List.getElem?_eq_some_iff.1 h).1
  have e := (List.getElem?_eq_some_iff.1 h).2
  rw [Wk.len_data] at hl
  refine ⟨hl, ?_⟩
  rw [← e]
  simp [ByteArray.getElem_eq_getElem_data]
set_option maxRecDepth 100000 in
set_option maxHeartbeats 20000000 in
theorem Law.urlBack (s : ByteArray) (w : World) (hT : Ut w) (hs : s.size ≤ 1073741824) : Calls Tryd.prog 5 #[.string s] w fun e w' => e = .returned (.bool true) ∧ Below w.heap.size w w' := by
  obtain ⟨x, HX, hx⟩ := Wk.ex_part s
  have nm := fun u => Sz.norm s u (by omega)
  have HNL : Hid ((Pl.normL s.data.toList).length ≤ 3221225472) := by
    have := Pl.norm_short s.data.toList
    rw [Wk.len_data] at this
    unfold Hid
    omega
  have k1 : Ug.part ((⟨(Pl.normL s.data.toList).toArray⟩ : ByteArray) ++ ⟨#[45]⟩).data.toList = (x ++ ⟨#[45]⟩).data.toList := by
    rw [Wk.cat2_data, Wk.cat2_data, ← HX.out]
    exact Ub.dash _
  have k2 : Ug.part ((⟨#[126]⟩ : ByteArray) ++ s).data.toList = (⟨#[126]⟩ ++ x).data.toList := by
    rw [Wk.cat2_data, Wk.cat2_data, ← HX.out]
    exact Ub.wave _
  have c1 := fun u hT => Up.part_to HX.out u hT (by omega)
  have c2 := fun u hT => Up.part_to k1 u hT (by have := HNL.out; rw [Wk.cat2_size]; show (Pl.normL s.data.toList).length + 1 ≤ _; omega)
  have c3 := fun u hT => Up.part_to k2 u hT (by rw [Wk.cat2_size]; show 1 + s.size ≤ _; omega)
  have HXN : Hid (Ug.pct Ug.plain (Pl.normL s.data.toList) = x.data.toList) := HX.out
  clear HX k1 k2
  generalize Pl.normL s.data.toList = n at *
  have sx := Ub.sixteen
  go_enter Tryd.func5, Tryd.ntmps5
  go_wp2_with fail
  refine (Ua.awake w hT).mono ?_
  rintro e w1 ⟨rfl, b1⟩
  have t1 := Utf8Tabs_below hT b1
  go_wp2_with fail
  refine (c1 w1 t1).mono ?_
  rintro e w2 ⟨rfl, b2⟩
  have t2 := Utf8Tabs_below t1 b2
  have HB2 := Lib.hid (Wk.below_step b1 b2)
  clear b1 b2 t1 c1
  go_wp2_with fail
  go_loopw [4, 5] (fun ov ix wr => ∃ k : Nat, k ≤ n.length ∧ ix = .int .i64 ((Ug.pct Ug.plain (n.take k)).length : Int) ∧ Hid (wr.ownsRow w2.heap.size 5 1 ov (n.take k).length (Lib.byteCells (n.take k))) ∧ Hid (Below w2.heap.size w2 wr)) (fun _ ix _ => x.size - (intOf ix).toNat)
  case atStart => exact ⟨0, Nat.zero_le _, rfl, World.ownsRow_nil _ _ _ _, Below.refl _ _⟩
  case round =>
    obtain ⟨k, hk, rfl, HO, HB⟩ := hrel
    obtain ⟨oa, od, rfl⟩ := Rb.form HO.out
    have hws := HB.out.size
    have hNL := HNL.out
    by_cases hlt : k < n.length
    · obtain ⟨c, hc⟩ : ∃ c, n[k]? = some c := ⟨n[k], List.getElem?_eq_getElem hlt⟩
      have HTK : Hid (n.take (k + 1) = n.take k ++ [c]) := by
        unfold Hid
        rw [List.take_succ_eq_append_getElem hlt, (List.getElem?_eq_some_iff.1 hc).2]
      have HPL : Hid ((Ug.pct Ug.plain (n.take (k + 1))).length = (Ug.pct Ug.plain (n.take k)).length + (Ug.byte Ug.plain c).length) := by
        unfold Hid
        rw [Qr.pct_take hc, List.length_append]
      have hln := Ub.len hc
      have hget := Ub.get hc
      rw [HXN.out, Wk.len_data] at hln
      have HN1 : Hid ((n.take k).length + 1 ≤ 140737488355328) := by
        unfold Hid
        rw [List.length_take]
        omega
      generalize n.take k = acc at *
      generalize (Ug.pct Ug.plain acc).length = i at *
      have hBY : Ug.byte Ug.plain c = if Ug.stays Ug.plain c = true then [c] else [37, Ug.hex (c.toNat / 16), Ug.hex (c.toNat % 16)] := rfl
      by_cases hst : Ug.stays Ug.plain c = true
      · rw [if_pos hst] at hBY
        rw [hBY] at hget hln HPL
        obtain ⟨hi, hxi⟩ := Ub.at HXN.out (hget 0 (by show 0 < 1; omega))
        have n1 : ((x[i].toNat : Int) != 37) = true := Qs.ne_true (d := 37) (by rw [show x[i] = c from hxi]; exact Ub.plain_no c hst)
        have HXI : Hid (x[i] = c) := hxi
        have HTK := HTK.out
        rw [← HXI.out] at HTK
        have HTK := Lib.hid HTK
        clear hxi hget hBY hst sx nm c2 c3 HXI
        have d1 : decide ((i : Int) < (x.size : Int)) = true := decide_eq_true (by omega)
        go_wp2_with (at_builtin; refine Rb.push rfl _ _ rfl _ rfl (HO.out.alloc _) wr.heap.size [x[i]] 1 rfl rfl (Rb.new wr #[.int .u8 (x[i].toNat : Int)] 5 _ rfl) HN1.out (by simp; omega) ?_; intro v5 w5 R5 hg5; have HB5 : Hid (Below w2.heap.size w2 w5) := (HB.out.alloc hws _).grown hg5 (by simp; omega) (fun k hk => (HO.out.lt k hk).1); have HR5 := Lib.hid R5; clear R5 hg5)
        go_roundw
        case rel => exact ⟨k + 1, by omega, by rw [HPL.out]; go_num, by unfold Hid; rw [HTK.out]; exact HR5.out, HB5⟩
        case measure => simp [intOf]; omega
      · rw [if_neg hst] at hBY
        rw [hBY] at hget hln HPL
        obtain ⟨hi, hxi⟩ := Ub.at HXN.out (hget 0 (by show 0 < 3; omega))
        obtain ⟨hi1, hx1⟩ := Ub.at HXN.out (hget 1 (by show 1 < 3; omega))
        obtain ⟨hi2, hx2⟩ := Ub.at HXN.out (hget 2 (by show 2 < 3; omega))
        have HXI : Hid (x[i] = 37) := hxi
        have n1 : ((x[i].toNat : Int) != 37) = false := Qs.ne_false (d := 37) HXI.out
        have d1 : decide ((i : Int) < (x.size : Int)) = true := decide_eq_true (by omega)
        have d2 : decide ((i : Int) + 2 ≥ (x.size : Int)) = false := decide_eq_false (by omega)
        have x1 : ∀ h : ((i : Int) + 1).toNat < x.size, x[((i : Int) + 1).toNat]'h = Ug.hex (c.toNat / 16) := fun h => by
          have e : ((i : Int) + 1).toNat = i + 1 := by omega
          simp only [e]
          exact hx1
        have x2 : ∀ h : ((i : Int) + 2).toNat < x.size, x[((i : Int) + 2).toNat]'h = Ug.hex (c.toNat % 16) := fun h => by
          have e : ((i : Int) + 2).toNat = i + 2 := by omega
          simp only [e]
          exact hx2
        have hc256 := c.toNat_lt
        have s1 := fun u => sx (c.toNat / 16) (by omega) u
        have s2 := fun u => sx (c.toNat % 16) (by omega) u
        have hPL : (Ug.pct Ug.plain (n.take (k + 1))).length = i + 3 := HPL.out
        have HPL := Lib.hid hPL
        clear hxi hget hBY hst sx nm c2 c3 HXI hPL
        have hor := Ub.or16 c
        have hA : c.toNat / 16 < 16 := by omega
        have hB : c.toNat % 16 < 16 := by omega
        generalize c.toNat / 16 = A at *
        generalize c.toNat % 16 = B at *
        have hwA : IntKind.u8.wrap ((A : Int) * 16) = (A : Int) * 16 := by rw [IntKind.wrap_u8]; omega
        have hw1 : IntKind.i64.wrap ((i : Int) + 1) = (i : Int) + 1 := by rw [IntKind.wrap_i64]; omega
        have hw2 : IntKind.i64.wrap ((i : Int) + 2) = (i : Int) + 2 := by rw [IntKind.wrap_i64]; omega
        have p1 : (0 : Int) ≤ (i : Int) + 1 ∧ (i : Int) + 1 < (x.size : Int) := by omega
        have p2 : (0 : Int) ≤ (i : Int) + 2 ∧ (i : Int) + 2 < (x.size : Int) := by omega
        go_upto_region 12 with fail
        go_region_law (first | (refine Rb.call rfl 16 #[.int .u8 ((Ug.hex A).toNat : Int)] ?hr _ (s1 _) ?_; case hr => go_simp) | (refine Rb.call rfl 16 #[.int .u8 ((Ug.hex B).toNat : Int)] ?hr _ (s2 _) ?_; case hr => go_simp) | (refine Rb.step rfl (.tmp 31) (.tmp 44) rfl (.slice oa acc.length od) (by rfl) (HO.out.alloc _) wr.heap.size [c] 1 rfl (by rfl) (Rb.new wr.drew #[.int .u8 (c.toNat : Int)] 5 _ rfl) HN1.out (by first | omega | (simp; omega)) ?_; intro v5 w5 R5 hg5; have HB5 : Hid (Below w2.heap.size w2 w5) := (HB.out.drew.alloc hws _).grown hg5 (by simp; omega) (fun k hk => (HO.out.lt k hk).1); have HR5 := Lib.hid R5; clear R5 hg5) | fail)
        all_goals
          go_wp2
          go_roundw
          case rel => exact ⟨k + 1, by omega, by rw [HPL.out]; go_num, by unfold Hid; rw [HTK.out]; exact HR5.out, HB5⟩
          case measure => simp [intOf]; omega
    · generalize hq : n.take k = q at *
      have e : q = n := by rw [← hq]; exact List.take_of_length_le (by omega)
      subst e
      clear hq sx
      have HL : Hid ((Ug.pct Ug.plain q).length = x.size) := by unfold Hid; rw [HXN.out, Wk.len_data]
      have hL := HL.out
      generalize (Ug.pct Ug.plain q).length = i at *
      have d1 : decide ((i : Int) < (x.size : Int)) = false := decide_eq_false (by omega)
      have hcv := Rn.conv (wr := wr.drew) HO.out
      have TT : Ut wr.drew := Utf8Tabs_below (Utf8Tabs_below t2 HB.out) (Below.refl wr.heap.size wr).drew
      have BB : Hid (Below w.heap.size w wr.drew) := (Wk.below_step HB2.out HB.out).drew
      have hrow : ∀ u, Below wr.drew.heap.size wr.drew u → (convert 28 9 (.slice oa q.length od)).run Tryd.prog u = .ok (.string ⟨q.toArray⟩) u := fun u hu => Rn.conv (World.ownsRow.kept (row := none) (w := wr.drew) HO.out ⟨hu.os, hu.tape, hu.output, hu.size, fun k hk _ => hu.block k hk⟩ (Classical.em _))
      obtain ⟨Z1, hz1⟩ : ∃ Z, (⟨q.toArray⟩ : ByteArray) ++ ⟨#[45]⟩ = Z := ⟨_, rfl⟩
      obtain ⟨Z2, hz2⟩ : ∃ Z, x ++ ⟨#[45]⟩ = Z := ⟨_, rfl⟩
      obtain ⟨Z3, hz3⟩ : ∃ Z, (⟨#[126]⟩ : ByteArray) ++ s = Z := ⟨_, rfl⟩
      obtain ⟨Z4, hz4⟩ : ∃ Z, (⟨#[126]⟩ : ByteArray) ++ x = Z := ⟨_, rfl⟩
      rw [hz1, hz2] at c2
      rw [hz3, hz4] at c3
      obtain ⟨Q, hQ⟩ : ∃ Z, (⟨q.toArray⟩ : ByteArray) = Z := ⟨_, rfl⟩
      have hQs : Q.size ≤ 3221225472 := by rw [← hQ]; exact HNL.out
      rw [hQ] at hcv hrow nm hz1
      have gQ1 : ¬ 9223372036854775807 < Q.size + 1 := by omega
      have gQ2 : ¬ 9223372036854775807 ≤ Q.size := by omega
      have gQ3 : ¬ 9223372036854775806 < Q.size := by omega
      have gQ6 : Q.size < 9223372036854775807 := by omega
      have gx1 : ¬ 9223372036854775807 < x.size + 1 := by omega
      have gx2 : ¬ 9223372036854775807 ≤ x.size := by omega
      have gx3 : ¬ 9223372036854775806 < x.size := by omega
      have gx6 : x.size < 9223372036854775807 := by omega
      have hs4 : ¬ 9223372036854775807 < 1 + s.size := by omega
      have hx4 : ¬ 9223372036854775807 < 1 + x.size := by omega
      have gs2 : ¬ 9223372036854775807 ≤ s.size := by omega
      have gs3 : ¬ 9223372036854775806 < s.size := by omega
      have gs6 : s.size < 9223372036854775807 := by omega
      clear t2 HB2 HB HL HXN hQ HNL hws hNL hk HO hT
      go_upto_region 14 with fail
      go_region_with (first | (go_at_call 17; refine (nm _).mono ?_; rintro e w3 ⟨rfl, b3⟩; (first | (have hcv := hrow _ b3) | skip); have TT := Utf8Tabs_below TT b3; have BB := Lib.hid (Wk.below_step BB.out b3); clear b3) | (go_at_call 13; (first | refine (c2 _ TT).mono ?_ | refine (c3 _ TT).mono ?_); rintro e w3 ⟨rfl, b3⟩; have TT := Utf8Tabs_below TT b3; have BB := Lib.hid (Wk.below_step BB.out b3); clear b3))
      all_goals
        go_wp2
        go_ret
        exact ⟨rfl, BB.out⟩
end Go.Proofs.YtfjhbhddfpkebaaDoor

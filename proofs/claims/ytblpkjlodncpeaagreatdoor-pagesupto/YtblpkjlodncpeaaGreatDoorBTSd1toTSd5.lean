/-
  THE WALK of the reference's value: what a byte in a tag does to the attribute under way.
-/
import Derived.Test.YtblpkjlodncpeaaGreatDoorBTSc9
import Derived.Test.YtblpkjlodncpeaaGreatDoorBTRs7
import Derived.Test.YtblpkjlodncpeaaGreatDoorBUCopytoTDec
import Derived.Test.YtblpkjlodncpeaaGreatDoorBTFittoRefTok
namespace Go.Proofs.YtblpkjlodncpeaaGreatDoor
open Go.RowKit
theorem Rf.commit_st (x : Rf) : x.commit.st = x.st := by unfold Rf.commit; (repeat' split) <;> rfl
set_option maxHeartbeats 4000000 in
theorem Sc.value (P : ByteArray) (x : Rf) (s : Ts) (i : Nat) (w : World) (g : Nat) (bv ov av : Value) (h : Sc.At w g P x bv ov av) (hl : x.pv.size ≤ 65536) (ha : x.attrs.length ≤ 32) (hi : i < P.size) (hp : P.size ≤ 65536) :
  Calls Tryz.prog 90 #[.pointer (some ⟨g, 0, none⟩), .agg #[.int .i64 s.pl, .string s.name, .bool s.fin, .string s.attr, .string s.held, .int .i64 s.read], .int .i64 (i : Int)] w fun e w' => e = .returned (.tuple #[]) ∧ ∃ av', Sc.At w' g P (x.value P s i) bv ov av' ∧ Sc.Kept w w' g bv ov av bv ov av' := by
 have hbA : Below w.heap.size w (w.alloc (.cells #[.int .i64 s.pl, .string s.name, .bool s.fin, .string s.attr, .string s.held, .int .i64 s.read] 76)) := (Below.refl _ _).alloc (Nat.le_refl _) _
 have h0 := h.on hbA
 have hk0 := Sc.Kept.of g bv ov av hbA
 have hlt := h.lt
 have n1 : w.heap.size ≠ g := by omega
 have n2 : g ≠ w.heap.size := by omega
 have c1 := h.box.cell 1 _ rfl
 have c4 := h.box.cell 4 _ rfl
 have fz := h.box.fz
 have HA0 := Lib.hid h0
 have HK0 := Lib.hid hk0
 have c1' : ∀ o, (w.alloc o).cell? ⟨g, 1, none⟩ = _ := fun o => (World.cell?_alloc_lt _ _ _ hlt).trans c1
 have c4' : ∀ o, (w.alloc o).cell? ⟨g, 4, none⟩ = _ := fun o => (World.cell?_alloc_lt _ _ _ hlt).trans c4
 have f0 := h0.box.fz
 by_cases h5 : x.st.pl = 5
 ·
  have t5 : (x.st.pl == 5) = true := by rw [h5]; rfl
  by_cases hw5 : s.pl = 5
  ·
   have tw : (s.pl == 5) = true := by rw [hw5]; rfl
   have HX : Hid (x.value P s i = { x with pn := x.st.attr }) := by unfold Hid Rf.value; rw [if_neg (fun q => q.2 hw5), if_pos h5]
   have hb1 : Below (w.setCell ⟨g, 13, none⟩ (.string x.st.attr)).heap.size (w.setCell ⟨g, 13, none⟩ (.string x.st.attr)) ((w.setCell ⟨g, 13, none⟩ (.string x.st.attr)).alloc (.cells #[.int .i64 s.pl, .string s.name, .bool s.fin, .string s.attr, .string s.held, .int .i64 s.read] 76)) := ((Below.refl _ _).alloc (Nat.le_refl _) _)
   have hA1 := (h.set (x' := { x with pn := x.st.attr }) 13 (.string x.st.attr) (by decide) rfl rfl rfl rfl).on hb1
   have hK1 := (Sc.Kept.set w g 13 (.string x.st.attr) bv ov av).trans (Sc.Kept.of g bv ov av hb1)
   have k13 := h0.box.cell 13 _ rfl
   have HA1 := Lib.hid hA1
   have HK1 := Lib.hid hK1
   clear h h0 hk0 hA1 hK1 hbA hb1 h5 hw5
   go_enter Tryz.func90, Tryz.ntmps90
   go_wp2
   go_end0
   exact ⟨rfl, _, by rw [HX.out]; exact HA1.out, HK1.out⟩
  ·
   have tw : (s.pl == 5) = false := beq_eq_false_iff_ne.2 hw5
   have HX : Hid (x.value P s i = { x.commit with has := true, pn := x.st.attr, pv := Ts.e }) := by unfold Hid Rf.value; rw [if_pos ⟨h5, hw5⟩]
   have com := Sc.commit P x _ g bv ov av h0 hl ha
   have hcs := Rf.commit_st x
   clear h h0 hk0 hbA h5 hw5
   go_enter Tryz.func90, Tryz.ntmps90
   go_wp2_with (go_at_call 125; refine com.mono ?_; rintro e w1 ⟨rfl, av1, hA1, hK1⟩; have e4 := hA1.box.cell 4 _ rfl; rw [hcs] at e4; have e12 := hA1.box.cell 12 _ rfl; have e13 := hA1.box.cell 13 _ rfl; have e14 := hA1.box.cell 14 _ rfl; have ef := hA1.box.fz; have hA2 := ((hA1.set (x' := { x.commit with has := true }) 12 (.bool true) (by decide) rfl rfl rfl rfl).set (x' := { x.commit with has := true, pn := x.st.attr }) 13 (.string x.st.attr) (by decide) rfl rfl rfl rfl).set (x' := { x.commit with has := true, pn := x.st.attr, pv := Ts.e }) 14 (.string ⟨#[]⟩) (by decide) rfl rfl rfl rfl; have hK2 := ((HK0.out.trans hK1).trans (Sc.Kept.set _ g 12 (.bool true) bv ov av1)).trans ((Sc.Kept.set _ g 13 (.string x.st.attr) bv ov av1).trans (Sc.Kept.set _ g 14 (.string ⟨#[]⟩) bv ov av1)); have HA2 := Lib.hid hA2; have HK2 := Lib.hid hK2; clear com hA1 hK1 hA2 hK2)
   go_end0
   exact ⟨rfl, _, by rw [HX.out]; exact HA2.out, HK2.out⟩
 ·
  have t5 : (x.st.pl == 5) = false := beq_eq_false_iff_ne.2 h5
  by_cases hc : x.st.pl = 10 ∨ (x.st.pl = s.pl ∧ (x.st.pl = 8 ∨ x.st.pl = 9))
  ·
   have HX : Hid (x.value P s i = { x with pv := x.pv ++ P.extract i (i + 1) }) := by unfold Hid Rf.value; rw [if_neg (fun q => h5 q.1), if_neg h5, if_pos hc]
   have hb1 : Below (w.setCell ⟨g, 14, none⟩ (.string (x.pv ++ P.extract i (i + 1)))).heap.size (w.setCell ⟨g, 14, none⟩ (.string (x.pv ++ P.extract i (i + 1)))) ((w.setCell ⟨g, 14, none⟩ (.string (x.pv ++ P.extract i (i + 1)))).alloc (.cells #[.int .i64 s.pl, .string s.name, .bool s.fin, .string s.attr, .string s.held, .int .i64 s.read] 76)).drew := ((Below.refl _ _).alloc (Nat.le_refl _) _).drew
   have hA1 := (h.set (x' := { x with pv := x.pv ++ P.extract i (i + 1) }) 14 (.string (x.pv ++ P.extract i (i + 1))) (by decide) rfl rfl rfl rfl).on hb1
   have hK1 := (Sc.Kept.set w g 14 (.string (x.pv ++ P.extract i (i + 1))) bv ov av).trans (Sc.Kept.of g bv ov av hb1)
   have c0 := h.box.cell 0 _ rfl
   have c14 := h.box.cell 14 _ rfl
   have c0' : ∀ o, (w.alloc o).cell? ⟨g, 0, none⟩ = _ := fun o => (World.cell?_alloc_lt _ _ _ hlt).trans c0
   have c14' : ∀ o, (w.alloc o).cell? ⟨g, 14, none⟩ = _ := fun o => (World.cell?_alloc_lt _ _ _ hlt).trans c14
   have hcut := Rm.text_cut P i (i + 1) (by omega) (by omega)
   rw [show ((i + 1 : Nat) : Int) = (i : Int) + 1 by omega] at hcut
   have hwr : IntKind.i64.wrap ((i : Int) + 1) = (i : Int) + 1 := by rw [IntKind.wrap_i64]; omega
   have hes : (P.extract i (i + 1)).size = 1 := by rw [ByteArray.size_extract]; omega
   have HA1 := Lib.hid hA1
   have HK1 := Lib.hid hK1
   clear h h0 hk0 hA1 hK1 hbA hb1
   have hd : (x.st.pl == 10) = true ∨ (x.st.pl == 10) = false ∧ (x.st.pl == s.pl) = true ∧ ((x.st.pl == 8) = true ∨ (x.st.pl == 8) = false ∧ (x.st.pl == 9) = true) := by
    simp only [beq_iff_eq, beq_eq_false_iff_ne]
    omega
   rcases hd with q1 | ⟨q1, q2, q3 | ⟨q3, q4⟩⟩
   all_goals
    clear hc h5
    go_enter Tryz.func90, Tryz.ntmps90
    go_wp2_with fail
    go_region
    go_wp2
    go_end0
    exact ⟨rfl, _, by rw [HX.out]; exact HA1.out, HK1.out⟩
  ·
   have HX : Hid (x.value P s i = x) := by unfold Hid Rf.value; rw [if_neg (fun q => h5 q.1), if_neg h5, if_neg hc]
   clear h h0 hk0 hbA
   have hd : (x.st.pl == 10) = false ∧ ((x.st.pl == s.pl) = false ∨ (x.st.pl == s.pl) = true ∧ (x.st.pl == 8) = false ∧ (x.st.pl == 9) = false) := by
    simp only [beq_iff_eq, beq_eq_false_iff_ne]
    omega
   rcases hd with ⟨q1, q2 | ⟨q2, q3, q4⟩⟩
   all_goals
    clear hc h5
    go_enter Tryz.func90, Tryz.ntmps90
    go_wp2
    go_end0
    exact ⟨rfl, _, by rw [HX.out]; exact HA0.out, HK0.out⟩
theorem Sc.At.putSt {w : World} {g : Nat} {P : ByteArray} {x : Rf} {bv ov av : Value} (h : Sc.At w g P x bv ov av) (N : Ts) :
  Sc.At ((((((w.setCell ⟨g, 1, none⟩ (.int .i64 N.pl)).setCell ⟨g, 2, none⟩ (.string N.name)).setCell ⟨g, 3, none⟩ (.bool N.fin)).setCell ⟨g, 4, none⟩ (.string N.attr)).setCell ⟨g, 5, none⟩ (.string N.held)).setCell ⟨g, 6, none⟩ (.int .i64 N.read)) g P { x with st := N } bv ov av ∧
  Sc.Kept w ((((((w.setCell ⟨g, 1, none⟩ (.int .i64 N.pl)).setCell ⟨g, 2, none⟩ (.string N.name)).setCell ⟨g, 3, none⟩ (.bool N.fin)).setCell ⟨g, 4, none⟩ (.string N.attr)).setCell ⟨g, 5, none⟩ (.string N.held)).setCell ⟨g, 6, none⟩ (.int .i64 N.read)) g bv ov av bv ov av :=
 ⟨(((((h.set (x' := { x with st := { x.st with pl := N.pl } }) 1 (.int .i64 N.pl) (by decide) rfl rfl rfl rfl).set (x' := { x with st := { x.st with pl := N.pl, name := N.name } }) 2 (.string N.name) (by decide) rfl rfl rfl rfl).set (x' := { x with st := { x.st with pl := N.pl, name := N.name, fin := N.fin } }) 3 (.bool N.fin) (by decide) rfl rfl rfl rfl).set (x' := { x with st := { x.st with pl := N.pl, name := N.name, fin := N.fin, attr := N.attr } }) 4 (.string N.attr) (by decide) rfl rfl rfl rfl).set (x' := { x with st := { x.st with pl := N.pl, name := N.name, fin := N.fin, attr := N.attr, held := N.held } }) 5 (.string N.held) (by decide) rfl rfl rfl rfl).set (x' := { x with st := N }) 6 (.int .i64 N.read) (by decide) rfl rfl rfl rfl,
  ((((((Sc.Kept.set w g 1 _ bv ov av).trans (Sc.Kept.set _ g 2 _ bv ov av)).trans (Sc.Kept.set _ g 3 _ bv ov av)).trans (Sc.Kept.set _ g 4 _ bv ov av)).trans (Sc.Kept.set _ g 5 _ bv ov av)).trans (Sc.Kept.set _ g 6 _ bv ov av))⟩
theorem Rl.inText (a : Int) (b : Bool) (hb : (decide (a = 0) || decide (a = 1) || decide (a = 2) || decide (19 ≤ a)) = b) (w : World) : Calls Tryz.prog 42 #[.int .i64 a] w fun e w' => e = .returned (.bool b) ∧ w' = w := by
 subst hb
 by_cases h0 : a = 0
 ·
  subst h0
  go_enter Tryz.func42, Tryz.ntmps42
  go_wp2
  go_ret
  exact ⟨rfl, rfl⟩
 have t0 : (a == 0) = false := beq_eq_false_iff_ne.2 h0
 by_cases h1 : a = 1
 ·
  subst h1
  go_enter Tryz.func42, Tryz.ntmps42
  go_wp2
  go_ret
  exact ⟨rfl, rfl⟩
 have t1 : (a == 1) = false := beq_eq_false_iff_ne.2 h1
 by_cases h2 : a = 2
 ·
  subst h2
  go_enter Tryz.func42, Tryz.ntmps42
  go_wp2
  go_ret
  exact ⟨rfl, rfl⟩
 have t2 : (a == 2) = false := beq_eq_false_iff_ne.2 h2
 rw [decide_eq_false h0, decide_eq_false h1, decide_eq_false h2]
 by_cases h19 : 19 ≤ a
 ·
  have t3 : decide (19 ≤ a) = true := decide_eq_true h19
  rw [t3]
  clear h0 h1 h2
  go_enter Tryz.func42, Tryz.ntmps42
  go_wp2
  go_ret
  exact ⟨rfl, rfl⟩
 ·
  have t3 : decide (19 ≤ a) = false := decide_eq_false h19
  rw [t3]
  clear h0 h1 h2
  go_enter Tryz.func42, Tryz.ntmps42
  go_wp2
  go_ret
  exact ⟨rfl, rfl⟩
theorem Rl.drop (s : ByteArray) (k : Nat) (h : k < s.size) : s.data.toList.drop k = s[k] :: s.data.toList.drop (k + 1) := by
 rw [List.drop_eq_getElem_cons (by rw [Wk.len_data]; exact h)]
 rfl
theorem Rl.ones (x : Int) : ∀ u ∈ [Value.int .u8 x], u.oneCell' = true := by
 intro u hu
 rw [List.mem_singleton.1 hu]
 rfl
theorem Rl.cell1 (W : World) (x : Int) : ∀ (j : Nat) (u : Value), [Value.int .u8 x][j]? = some u → (W.alloc (.cells #[.int .u8 x] 5)).cell? ⟨W.heap.size, j, none⟩ = some u := by
 intro j u hj
 unfold World.cell?
 rw [show (W.alloc (.cells #[.int .u8 x] 5)).heap[W.heap.size]? = some _ from heap_alloc_new W _]
 simpa using hj
theorem Rl.info : (Tryz.prog.info? 5).map (fun i => (i.zero, i.size, i.bytes)) = some (some (.int .u8 0), 1, 1) := by kernel_rfl
theorem Rl.l13a (l : List UInt8) : Rd.lines (13 :: 10 :: l) = 10 :: Rd.lines l := by rw [Rd.lines]
theorem Rl.l13b (l : List UInt8) (h : l.head? ≠ some 10) : Rd.lines (13 :: l) = 10 :: Rd.lines l := by
 cases l with
 | nil => rfl
 | cons c l =>
  have hc : c ≠ 10 := fun e => h (by rw [e]; rfl)
  rw [Rd.lines, if_pos rfl]
  intro l' h1 h2
  exact hc (List.cons.inj h2).1
theorem Rl.lother (c : UInt8) (l : List UInt8) (h : c ≠ 13) : Rd.lines (c :: l) = c :: Rd.lines l := by
 rw [Rd.lines, if_neg h]
 intro l' h1 _
 exact h h1
set_option maxRecDepth 100000 in
set_option maxHeartbeats 4000000 in
theorem Rl.lines (s : ByteArray) (w : World) (hs : s.size ≤ 65536) : Calls Tryz.prog 40 #[.string s] w fun e w' => e = .returned (.string (Rd.page s)) ∧ Below w.heap.size w w' := by
 go_enter Tryz.func40, Tryz.ntmps40
 go_wp2
 go_loopw [3, 4] (fun v i wr => ∃ (k : Nat) (acc : List UInt8), k ≤ s.size ∧ i = .int .i64 (k : Int) ∧ acc.length ≤ k ∧ Hid (acc ++ Rd.lines (s.data.toList.drop k) = Rd.lines s.data.toList) ∧ Hid (wr.ownsRow w.heap.size 5 1 v acc.length (Lib.byteCells acc)) ∧ Hid (Below w.heap.size w wr)) (fun _ i _ => s.size - (intOf i).toNat)
 case atStart => exact ⟨0, [], Nat.zero_le _, rfl, Nat.le_refl _, rfl, World.ownsRow_nil _ _ _ _, Below.refl _ _⟩
 case round =>
  obtain ⟨k, acc, hk, rfl, hl, HL, HO, HB⟩ := hrel
  have HN : Hid (acc.length + 1 ≤ maxLen ∧ (acc.length + 1) * 1 ≤ 140737488355328) := ⟨by unfold maxLen; omega, by omega⟩
  by_cases hlt : k < s.size
  ·
   have d1 : decide ((k : Int) < (s.size : Int)) = true := decide_eq_true (by omega)
   have hd := Rl.drop s k hlt
   by_cases h13 : s[k] = 13
   ·
    have t13 : ((s[k].toNat : Int) == 13) = true := Tp.eq_true h13
    by_cases h2 : k + 1 < s.size
    ·
     have d2 : decide ((k : Int) + 1 < (s.size : Int)) = true := decide_eq_true (by omega)
     have hd2 := Rl.drop s (k + 1) h2
     by_cases h10 : s[k + 1] = 10
     ·
      have t10 : ((s[k + 1].toNat : Int) == 10) = true := Tp.eq_true h10
      have HL2 : Hid ((acc ++ [10]) ++ Rd.lines (s.data.toList.drop (k + 1 + 1)) = Rd.lines s.data.toList) := by
       unfold Hid
       rw [← HL.out, hd, hd2, h13, h10, Rl.l13a]
       simp
      clear HL hd hd2 h13 h10
      go_wp2_with (at_builtin; refine Ro.push rfl _ _ 43 5 1 1 _ rfl Tryz.underlying43 Rl.info rfl (by decide) _ rfl (HO.out.alloc _) wr.heap.size [.int .u8 10] rfl (Rl.cell1 wr 10) rfl (Rl.ones _) HN.out.1 HN.out.2 (by have := HB.out.size; simp; omega) ?_)
      intro v4 w4 R4 hg4 _
      have HO4 : Hid (w4.ownsRow w.heap.size 5 1 v4 (acc ++ [10]).length (Lib.byteCells (acc ++ [10]))) := by
       unfold Hid
       rw [List.length_append, show Lib.byteCells (acc ++ [10]) = Lib.byteCells acc ++ [.int .u8 10] by simp [Lib.byteCells]]
       exact R4
      have HB4 : Hid (Below w.heap.size w w4) := Lib.hid ((HB.out.alloc HB.out.size _).grown hg4 (by have := HB.out.size; simp; omega) (fun k hk => (HO.out.lt k hk).1))
      clear R4 hg4 HO HB
      go_wp2
      go_roundw
      case rel => exact ⟨k + 1 + 1, acc ++ [10], by omega, by go_num, by simp; omega, HL2, HO4, HB4⟩
      case measure => simp [intOf]; omega
     ·
      have t10 : ((s[k + 1].toNat : Int) == 10) = false := Tp.eq_false h10
      have HL2 : Hid ((acc ++ [10]) ++ Rd.lines (s.data.toList.drop (k + 1)) = Rd.lines s.data.toList) := by
       unfold Hid
       rw [← HL.out, hd, h13, Rl.l13b _ (by rw [hd2]; simp; exact h10)]
       simp
      clear HL hd hd2 h13 h10
      go_wp2_with (at_builtin; refine Ro.push rfl _ _ 43 5 1 1 _ rfl Tryz.underlying43 Rl.info rfl (by decide) _ rfl (HO.out.alloc _) wr.heap.size [.int .u8 10] rfl (Rl.cell1 wr 10) rfl (Rl.ones _) HN.out.1 HN.out.2 (by have := HB.out.size; simp; omega) ?_)
      intro v4 w4 R4 hg4 _
      have HO4 : Hid (w4.ownsRow w.heap.size 5 1 v4 (acc ++ [10]).length (Lib.byteCells (acc ++ [10]))) := by
       unfold Hid
       rw [List.length_append, show Lib.byteCells (acc ++ [10]) = Lib.byteCells acc ++ [.int .u8 10] by simp [Lib.byteCells]]
       exact R4
      have HB4 : Hid (Below w.heap.size w w4) := Lib.hid ((HB.out.alloc HB.out.size _).grown hg4 (by have := HB.out.size; simp; omega) (fun k hk => (HO.out.lt k hk).1))
      clear R4 hg4 HO HB
      go_wp2
      go_roundw
      case rel => exact ⟨k + 1, acc ++ [10], by omega, by go_num, by simp; omega, HL2, HO4, HB4⟩
      case measure => simp [intOf]; omega
    ·
     have d2 : decide ((k : Int) + 1 < (s.size : Int)) = false := decide_eq_false (by omega)
     have HL2 : Hid ((acc ++ [10]) ++ Rd.lines (s.data.toList.drop (k + 1)) = Rd.lines s.data.toList) := by
      unfold Hid
      rw [← HL.out, hd, h13, Rl.l13b _ (by rw [List.drop_of_length_le (by rw [Wk.len_data]; omega)]; simp)]
      simp
     clear HL hd h13
     go_wp2_with (at_builtin; refine Ro.push rfl _ _ 43 5 1 1 _ rfl Tryz.underlying43 Rl.info rfl (by decide) _ rfl (HO.out.alloc _) wr.heap.size [.int .u8 10] rfl (Rl.cell1 wr 10) rfl (Rl.ones _) HN.out.1 HN.out.2 (by have := HB.out.size; simp; omega) ?_)
     intro v4 w4 R4 hg4 _
     have HO4 : Hid (w4.ownsRow w.heap.size 5 1 v4 (acc ++ [10]).length (Lib.byteCells (acc ++ [10]))) := by
      unfold Hid
      rw [List.length_append, show Lib.byteCells (acc ++ [10]) = Lib.byteCells acc ++ [.int .u8 10] by simp [Lib.byteCells]]
      exact R4
     have HB4 : Hid (Below w.heap.size w w4) := Lib.hid ((HB.out.alloc HB.out.size _).grown hg4 (by have := HB.out.size; simp; omega) (fun k hk => (HO.out.lt k hk).1))
     clear R4 hg4 HO HB
     go_wp2
     go_roundw
     case rel => exact ⟨k + 1, acc ++ [10], by omega, by go_num, by simp; omega, HL2, HO4, HB4⟩
     case measure => simp [intOf]; omega
   ·
    have t13 : ((s[k].toNat : Int) == 13) = false := Tp.eq_false h13
    have HL2 : Hid ((acc ++ [s[k]]) ++ Rd.lines (s.data.toList.drop (k + 1)) = Rd.lines s.data.toList) := by
     unfold Hid
     rw [← HL.out, hd, Rl.lother _ _ h13]
     simp
    clear HL hd h13
    go_wp2_with (at_builtin; refine Ro.push rfl _ _ 43 5 1 1 _ rfl Tryz.underlying43 Rl.info rfl (by decide) _ rfl (HO.out.alloc _) wr.heap.size [.int .u8 (s[k].toNat : Int)] rfl (Rl.cell1 wr (s[k].toNat : Int)) rfl (Rl.ones _) HN.out.1 HN.out.2 (by have := HB.out.size; simp; omega) ?_)
    intro v4 w4 R4 hg4 _
    have HO4 : Hid (w4.ownsRow w.heap.size 5 1 v4 (acc ++ [s[k]]).length (Lib.byteCells (acc ++ [s[k]]))) := by
     unfold Hid
     rw [List.length_append, show Lib.byteCells (acc ++ [s[k]]) = Lib.byteCells acc ++ [.int .u8 (s[k].toNat : Int)] by simp [Lib.byteCells]]
     exact R4
    have HB4 : Hid (Below w.heap.size w w4) := Lib.hid ((HB.out.alloc HB.out.size _).grown hg4 (by have := HB.out.size; simp; omega) (fun k hk => (HO.out.lt k hk).1))
    clear R4 hg4 HO HB
    go_wp2
    go_roundw
    case rel => exact ⟨k + 1, acc ++ [s[k]], by omega, by go_num, by simp; omega, HL2, HO4, HB4⟩
    case measure => simp [intOf]; omega
  ·
   have d1 : decide ((k : Int) < (s.size : Int)) = false := decide_eq_false (by omega)
   have HA : Hid (acc = Rd.lines s.data.toList) := by
    unfold Hid
    rw [← HL.out, List.drop_of_length_le (by rw [Wk.len_data]; omega)]
    simp [Rd.lines]
   have hconv := Dm.conv HO.out
   clear HL
   go_wp2
   go_ret
   refine ⟨?_, HB.out⟩
   rw [HA.out]
   rfl
set_option maxRecDepth 100000 in
set_option maxHeartbeats 8000000 in
theorem Sc.byteEmit (P : ByteArray) (x : Rf) (i : Nat) (w : World) (g : Nat) (bv ov av : Value) (h : Sc.At w g P x bv ov av) (hf : Ts.Fit x.st) (hi : i < P.size) (_hp : P.size ≤ 65536) (c : UInt8) (hc : P[i] = c) (N : Ts) (hN : x.st.step c = N) (_hE : (x.st.pl = 22 ∧ N.pl = 0) ∨ (Rf.inTag x.st.pl ∧ ¬ Rf.inTag N.pl)) (hl : x.pv.size ≤ 65536) (ha : x.attrs.length ≤ 32) (hbl : x.buf.length ≤ 65536) (ho : x.out.length ≤ 1000000) (Z : Rf) (HZ : Hid (({ ({ x with st := N } : Rf).emit x.st with hold := -1 }) = Z)) :
  Calls Tryz.prog 41 #[.pointer (some ⟨g, 0, none⟩), .int .i64 (i : Int)] w fun e w' => e = .returned (.tuple #[]) ∧ ∃ bv' ov' av', Sc.At w' g P Z bv' ov' av' ∧ Sc.Kept w w' g bv ov av bv' ov' av' := by
 have HD3 : Hid (((x.st.pl == 22) = true ∧ (N.pl == 0) = true) ∨ ((x.st.pl == 22) = false ∧ Ts.inTag x.st.pl = true ∧ Ts.inTag N.pl = false)) := by
  unfold Hid
  (try unfold Rf.inTag at *)
  (try unfold Rf.inText at *)
  simp only [beq_iff_eq, beq_eq_false_iff_ne, Ts.inTag, decide_eq_true_eq, decide_eq_false_iff_not, Bool.and_eq_true, Bool.and_eq_false_iff]
  omega
 clear _hE
 have c0 := h.box.cell 0 _ rfl
 have c1 := h.box.cell 1 _ rfl
 have c2 := h.box.cell 2 _ rfl
 have c3 := h.box.cell 3 _ rfl
 have c4 := h.box.cell 4 _ rfl
 have c5 := h.box.cell 5 _ rfl
 have c6 := h.box.cell 6 _ rfl
 have hst := fun u => Rs.step x.st hf c u
 simp only [hN] at hst
 have hcn : P[i].toNat = c.toNat := by rw [hc]
 clear hN
 have hlt := h.lt
 have n1 : w.heap.size ≠ g := by omega
 have n2 : g ≠ w.heap.size := by omega
 go_enter Tryz.func41, Tryz.ntmps41
 go_wp2_with fail
 obtain ⟨W, hW⟩ : ∃ W, w.alloc (.cells #[.int .i64 x.st.pl, .string x.st.name, .bool x.st.fin, .string x.st.attr, .string x.st.held, .int .i64 x.st.read] 76) = W := ⟨_, rfl⟩
 have hbW : Below w.heap.size w W := by rw [← hW]; exact (Below.refl _ _).alloc (Nat.le_refl _) _
 have hS : Sc.St W w.heap.size x.st := by rw [← hW]; exact Sc.six_cells _ _ _ _ _ _ _ _
 have k0 := hS 0 _ rfl
 have k1 := hS 1 _ rfl
 have k2 := hS 2 _ rfl
 have k3 := hS 3 _ rfl
 have k4 := hS 4 _ rfl
 have k5 := hS 5 _ rfl
 have y0 := Tp.keep hbW c0
 have hAW := h.on hbW
 rw [hW]
 clear hW c0 c1 c2 c3 c4 c5 c6
 have HAW := Lib.hid hAW
 have HKW := Lib.hid (Sc.Kept.of g bv ov av hbW)
 have HF := Lib.hid h.free
 have HS := Lib.hid hS
 clear h hS hbW hAW
 go_cut [] from 12 to 22 (fun wc => Hid (Sc.At wc g P { x with st := N } bv ov av ∧ Sc.Kept W wc g bv ov av bv ov av))
 case first =>
  go_region_with (go_at_call 87; refine (hst _).mono ?_; rintro e w1 ⟨rfl, hb1⟩; have hb1 := Sc.undrew hb1; have hA1 := HAW.out.on hb1; have e1 := hA1.box.cell 1 _ rfl; have e2 := hA1.box.cell 2 _ rfl; have e3 := hA1.box.cell 3 _ rfl; have e4 := hA1.box.cell 4 _ rfl; have e5 := hA1.box.cell 5 _ rfl; have e6 := hA1.box.cell 6 _ rfl; have ef := hA1.box.fz; have HA1 := Lib.hid hA1; have HB1 := Lib.hid hb1; clear hA1 hb1)
  all_goals (try go_wp2_with fail)
  all_goals go_meet
  all_goals exact Lib.hid ⟨(HA1.out.putSt N).1, (Sc.Kept.of g bv ov av HB1.out).trans (HA1.out.putSt N).2⟩
 case rest =>
  have hA := hcut.out.1
  have hK := HKW.out.trans hcut.out.2
  have hS2 := HS.out.kept hcut.out.2 HF.out
  clear k0 k1 k2 k3 k4 k5 y0 hst hf HAW HKW HS
  have k0 := hS2 0 _ rfl
  have k1 := hS2 1 _ rfl
  have k2 := hS2 2 _ rfl
  have k3 := hS2 3 _ rfl
  have k4 := hS2 4 _ rfl
  have k5 := hS2 5 _ rfl
  have x0 : wc.cell? ⟨g, 0, none⟩ = some (.string P) := hA.box.cell 0 _ rfl
  have x1 : wc.cell? ⟨g, 1, none⟩ = some (.int .i64 N.pl) := hA.box.cell 1 _ rfl
  have x7 : wc.cell? ⟨g, 7, none⟩ = some (.int .i64 x.hold) := hA.box.cell 7 _ rfl
  have ef := hA.box.fz
  have HA := Lib.hid hA
  have HK := Lib.hid hK
  clear hcut hA hK hS2
  generalize w.heap.size = gs at *
  have emi := Sc.emit P ({ x with st := N } : Rf) x.st wc g bv ov av HA.out hl ha hbl ho
  go_upto_region 3 with fail
  go_cut [28] from 28 to 45 (fun s wx => s = .bool true ∧ wx = wc)
  case first =>
   rcases HD3.out with ⟨q0, q1⟩ | ⟨q0, q1, q2⟩
   ·
    go_wp2_with (go_at_call 88; (first | refine (itag _).mono ?_ | refine (ntag _).mono ?_); rintro e w' ⟨rfl, hw⟩; have hw := hw.symm; subst hw)
    go_meet
    exact ⟨rfl, rfl⟩
   ·
    have itag := fun u => Rs.inTag x.st.pl true q1 u
    have ntag := fun u => Rs.inTag N.pl false q2 u
    go_wp2_with (go_at_call 88; (first | refine (itag _).mono ?_ | refine (ntag _).mono ?_); rintro e w' ⟨rfl, hw⟩; have hw := hw.symm; subst hw)
    go_meet
    exact ⟨rfl, rfl⟩
  case rest =>
  clear HD3
  obtain ⟨rfl, rfl⟩ := hcut
  clear x7
  go_wp2_with (go_at_call 89; refine emi.mono ?_; rintro e w2 ⟨rfl, bv2, ov2, av2, hA2, hK2⟩; have e7 := hA2.box.cell 7 _ rfl; have ef2 := hA2.box.fz; have hA3 := hA2.set (x' := { ({ x with st := N } : Rf).emit x.st with hold := -1 }) 7 (.int .i64 (-1)) (by decide) rfl rfl rfl rfl; have HA3 := Lib.hid hA3; have HK3 := Lib.hid ((HK.out.trans hK2).trans (Sc.Kept.set _ g 7 (.int .i64 (-1)) bv2 ov2 av2)); clear emi hA2 hK2 hA3)
  go_end0
  exact ⟨rfl, _, _, _, by rw [← HZ.out]; exact HA3.out, HK3.out⟩
set_option maxRecDepth 100000 in
set_option maxHeartbeats 8000000 in
theorem Sc.byteValue (P : ByteArray) (x : Rf) (i : Nat) (w : World) (g : Nat) (bv ov av : Value) (h : Sc.At w g P x bv ov av) (hf : Ts.Fit x.st) (hi : i < P.size) (hp : P.size ≤ 65536) (c : UInt8) (hc : P[i] = c) (N : Ts) (hN : x.st.step c = N) (_hE : ¬ ((x.st.pl = 22 ∧ N.pl = 0) ∨ (Rf.inTag x.st.pl ∧ ¬ Rf.inTag N.pl))) (_hV : Rf.inTag N.pl) (hl : x.pv.size ≤ 65536) (ha : x.attrs.length ≤ 32) (Z : Rf) (HZ : Hid ((({ x with st := N } : Rf).value P x.st i) = Z)) :
  Calls Tryz.prog 41 #[.pointer (some ⟨g, 0, none⟩), .int .i64 (i : Int)] w fun e w' => e = .returned (.tuple #[]) ∧ ∃ bv' ov' av', Sc.At w' g P Z bv' ov' av' ∧ Sc.Kept w w' g bv ov av bv' ov' av' := by
 have HD3 : Hid (((x.st.pl == 22) = true ∧ (N.pl == 0) = false ∧ Ts.inTag x.st.pl = false) ∨ ((x.st.pl == 22) = false ∧ Ts.inTag x.st.pl = false) ∨ ((x.st.pl == 22) = false ∧ Ts.inTag x.st.pl = true ∧ Ts.inTag N.pl = true)) := by
  unfold Hid
  (try unfold Rf.inTag at *)
  (try unfold Rf.inText at *)
  simp only [beq_iff_eq, beq_eq_false_iff_ne, Ts.inTag, decide_eq_true_eq, decide_eq_false_iff_not, Bool.and_eq_true, Bool.and_eq_false_iff]
  omega
 have HD6 : Hid (Ts.inTag N.pl = true) := by
  unfold Hid
  (try unfold Rf.inTag at *)
  (try unfold Rf.inText at *)
  simp only [Ts.inTag, decide_eq_true_eq, Bool.and_eq_true]
  omega
 clear _hE _hV
 have c0 := h.box.cell 0 _ rfl
 have c1 := h.box.cell 1 _ rfl
 have c2 := h.box.cell 2 _ rfl
 have c3 := h.box.cell 3 _ rfl
 have c4 := h.box.cell 4 _ rfl
 have c5 := h.box.cell 5 _ rfl
 have c6 := h.box.cell 6 _ rfl
 have hst := fun u => Rs.step x.st hf c u
 simp only [hN] at hst
 have hcn : P[i].toNat = c.toNat := by rw [hc]
 clear hN
 have hlt := h.lt
 have n1 : w.heap.size ≠ g := by omega
 have n2 : g ≠ w.heap.size := by omega
 go_enter Tryz.func41, Tryz.ntmps41
 go_wp2_with fail
 obtain ⟨W, hW⟩ : ∃ W, w.alloc (.cells #[.int .i64 x.st.pl, .string x.st.name, .bool x.st.fin, .string x.st.attr, .string x.st.held, .int .i64 x.st.read] 76) = W := ⟨_, rfl⟩
 have hbW : Below w.heap.size w W := by rw [← hW]; exact (Below.refl _ _).alloc (Nat.le_refl _) _
 have hS : Sc.St W w.heap.size x.st := by rw [← hW]; exact Sc.six_cells _ _ _ _ _ _ _ _
 have k0 := hS 0 _ rfl
 have k1 := hS 1 _ rfl
 have k2 := hS 2 _ rfl
 have k3 := hS 3 _ rfl
 have k4 := hS 4 _ rfl
 have k5 := hS 5 _ rfl
 have y0 := Tp.keep hbW c0
 have hAW := h.on hbW
 rw [hW]
 clear hW c0 c1 c2 c3 c4 c5 c6
 have HAW := Lib.hid hAW
 have HKW := Lib.hid (Sc.Kept.of g bv ov av hbW)
 have HF := Lib.hid h.free
 have HS := Lib.hid hS
 clear h hS hbW hAW
 go_cut [] from 12 to 22 (fun wc => Hid (Sc.At wc g P { x with st := N } bv ov av ∧ Sc.Kept W wc g bv ov av bv ov av))
 case first =>
  go_region_with (go_at_call 87; refine (hst _).mono ?_; rintro e w1 ⟨rfl, hb1⟩; have hb1 := Sc.undrew hb1; have hA1 := HAW.out.on hb1; have e1 := hA1.box.cell 1 _ rfl; have e2 := hA1.box.cell 2 _ rfl; have e3 := hA1.box.cell 3 _ rfl; have e4 := hA1.box.cell 4 _ rfl; have e5 := hA1.box.cell 5 _ rfl; have e6 := hA1.box.cell 6 _ rfl; have ef := hA1.box.fz; have HA1 := Lib.hid hA1; have HB1 := Lib.hid hb1; clear hA1 hb1)
  all_goals (try go_wp2_with fail)
  all_goals go_meet
  all_goals exact Lib.hid ⟨(HA1.out.putSt N).1, (Sc.Kept.of g bv ov av HB1.out).trans (HA1.out.putSt N).2⟩
 case rest =>
  have hA := hcut.out.1
  have hK := HKW.out.trans hcut.out.2
  have hS2 := HS.out.kept hcut.out.2 HF.out
  clear k0 k1 k2 k3 k4 k5 y0 hst hf HAW HKW HS
  have k0 := hS2 0 _ rfl
  have k1 := hS2 1 _ rfl
  have k2 := hS2 2 _ rfl
  have k3 := hS2 3 _ rfl
  have k4 := hS2 4 _ rfl
  have k5 := hS2 5 _ rfl
  have x0 : wc.cell? ⟨g, 0, none⟩ = some (.string P) := hA.box.cell 0 _ rfl
  have x1 : wc.cell? ⟨g, 1, none⟩ = some (.int .i64 N.pl) := hA.box.cell 1 _ rfl
  have x7 : wc.cell? ⟨g, 7, none⟩ = some (.int .i64 x.hold) := hA.box.cell 7 _ rfl
  have ef := hA.box.fz
  have HA := Lib.hid hA
  have HK := Lib.hid hK
  clear hcut hA hK hS2
  generalize w.heap.size = gs at *
  have val := Sc.value P ({ x with st := N } : Rf) x.st i wc g bv ov av HA.out hl ha hi hp
  go_upto_region 3 with fail
  go_cut [28] from 28 to 45 (fun s wx => s = .bool false ∧ wx = wc)
  case first =>
   rcases HD3.out with ⟨q0, q1, q2⟩ | ⟨q0, q1⟩ | ⟨q0, q1, q2⟩
   ·
    have itag := fun u => Rs.inTag x.st.pl false q2 u
    go_wp2_with (go_at_call 88; (first | refine (itag _).mono ?_ | refine (ntag _).mono ?_); rintro e w' ⟨rfl, hw⟩; have hw := hw.symm; subst hw)
    go_meet
    exact ⟨rfl, rfl⟩
   ·
    have itag := fun u => Rs.inTag x.st.pl false q1 u
    go_wp2_with (go_at_call 88; (first | refine (itag _).mono ?_ | refine (ntag _).mono ?_); rintro e w' ⟨rfl, hw⟩; have hw := hw.symm; subst hw)
    go_meet
    exact ⟨rfl, rfl⟩
   ·
    have itag := fun u => Rs.inTag x.st.pl true q1 u
    have ntag := fun u => Rs.inTag N.pl true q2 u
    go_wp2_with (go_at_call 88; (first | refine (itag _).mono ?_ | refine (ntag _).mono ?_); rintro e w' ⟨rfl, hw⟩; have hw := hw.symm; subst hw)
    go_meet
    exact ⟨rfl, rfl⟩
  case rest =>
  clear HD3
  obtain ⟨rfl, rfl⟩ := hcut
  have ntag := fun u => Rs.inTag N.pl true HD6.out u
  clear x7
  go_wp2_with (first | (go_at_call 88; refine (ntag _).mono ?_; rintro e w' ⟨rfl, hw⟩; have hw := hw.symm; subst hw) | (go_at_call 90; refine val.mono ?_; rintro e w2 ⟨rfl, av2, hA2, hK2⟩; have HA2 := Lib.hid hA2; have HK2 := Lib.hid (HK.out.trans hK2); clear val hA2 hK2))
  go_end0
  exact ⟨rfl, _, _, _, by rw [← HZ.out]; exact HA2.out, HK2.out⟩
set_option maxRecDepth 100000 in
set_option maxHeartbeats 8000000 in
theorem Sc.byteCom (P : ByteArray) (x : Rf) (i : Nat) (w : World) (g : Nat) (bv ov av : Value) (h : Sc.At w g P x bv ov av) (hf : Ts.Fit x.st) (hi : i < P.size) (hp : P.size ≤ 65536) (c : UInt8) (hc : P[i] = c) (N : Ts) (hN : x.st.step c = N) (_hE : ¬ ((x.st.pl = 22 ∧ N.pl = 0) ∨ (Rf.inTag x.st.pl ∧ ¬ Rf.inTag N.pl))) (_hV : ¬ Rf.inTag N.pl) (_hC : 13 ≤ x.st.pl ∧ x.st.pl ≤ 18 ∧ N.pl = 0) (h17 : ¬ x.st.pl = 17) (_h6 : x.hold + 2 ≤ i) (h0 : 0 ≤ x.hold) (hbl : x.buf.length ≤ 65536) (ho : x.out.length ≤ 1000000) (Z : Rf) (HZ : Hid (({ ({ x with st := N } : Rf).flush with out := ({ x with st := N } : Rf).flush.out ++ [⟨3, Ts.e, P.extract (x.hold.toNat + 2) i, [], false⟩], hold := -1 }) = Z)) :
  Calls Tryz.prog 41 #[.pointer (some ⟨g, 0, none⟩), .int .i64 (i : Int)] w fun e w' => e = .returned (.tuple #[]) ∧ ∃ bv' ov' av', Sc.At w' g P Z bv' ov' av' ∧ Sc.Kept w w' g bv ov av bv' ov' av' := by
 have HD3 : Hid (((x.st.pl == 22) = true ∧ (N.pl == 0) = false ∧ Ts.inTag x.st.pl = false) ∨ ((x.st.pl == 22) = false ∧ Ts.inTag x.st.pl = false) ∨ ((x.st.pl == 22) = false ∧ Ts.inTag x.st.pl = true ∧ Ts.inTag N.pl = true)) := by
  unfold Hid
  (try unfold Rf.inTag at *)
  (try unfold Rf.inText at *)
  simp only [beq_iff_eq, beq_eq_false_iff_ne, Ts.inTag, decide_eq_true_eq, decide_eq_false_iff_not, Bool.and_eq_true, Bool.and_eq_false_iff]
  omega
 have HD6 : Hid (Ts.inTag N.pl = false) := by
  unfold Hid
  (try unfold Rf.inTag at *)
  (try unfold Rf.inText at *)
  simp only [Ts.inTag, decide_eq_false_iff_not, Bool.and_eq_false_iff]
  omega
 have HD8 : Hid (decide ((13 : Int) ≤ x.st.pl) = true ∧ decide (x.st.pl ≤ 18) = true ∧ (N.pl == 0) = true) := by
  unfold Hid
  (try unfold Rf.inTag at *)
  (try unfold Rf.inText at *)
  simp only [beq_iff_eq, decide_eq_true_eq]
  omega
 have t17 : (x.st.pl == 17) = false := by exact beq_eq_false_iff_ne.2 h17
 obtain ⟨a, ha⟩ : ∃ a : Nat, x.hold = (a : Int) := ⟨x.hold.toNat, by omega⟩
 have HFL : Hid (({ x with st := N } : Rf).flush.out.length ≤ 1000001) := Nat.le_trans (Sc.flush_len ({ x with st := N } : Rf)) (by show x.out.length + 1 ≤ _; omega)
 have hfh : ({ x with st := N } : Rf).flush.hold = (a : Int) := by
  rw [← ha]
  unfold Rf.flush
  split <;> rfl
 have HFH := Lib.hid hfh
 have _h6' : a + 2 ≤ i := by omega
 have HT : Hid (P.extract (x.hold.toNat + 2) i = P.extract (a + 2) (i)) := by unfold Hid; rw [ha, Int.toNat_natCast]
 rw [HT.out] at HZ
 clear _hE _hV _hC h17 _h6 h0 ha HT hfh
 have c0 := h.box.cell 0 _ rfl
 have c1 := h.box.cell 1 _ rfl
 have c2 := h.box.cell 2 _ rfl
 have c3 := h.box.cell 3 _ rfl
 have c4 := h.box.cell 4 _ rfl
 have c5 := h.box.cell 5 _ rfl
 have c6 := h.box.cell 6 _ rfl
 have hst := fun u => Rs.step x.st hf c u
 simp only [hN] at hst
 have hcn : P[i].toNat = c.toNat := by rw [hc]
 clear hN
 have hlt := h.lt
 have n1 : w.heap.size ≠ g := by omega
 have n2 : g ≠ w.heap.size := by omega
 go_enter Tryz.func41, Tryz.ntmps41
 go_wp2_with fail
 obtain ⟨W, hW⟩ : ∃ W, w.alloc (.cells #[.int .i64 x.st.pl, .string x.st.name, .bool x.st.fin, .string x.st.attr, .string x.st.held, .int .i64 x.st.read] 76) = W := ⟨_, rfl⟩
 have hbW : Below w.heap.size w W := by rw [← hW]; exact (Below.refl _ _).alloc (Nat.le_refl _) _
 have hS : Sc.St W w.heap.size x.st := by rw [← hW]; exact Sc.six_cells _ _ _ _ _ _ _ _
 have k0 := hS 0 _ rfl
 have k1 := hS 1 _ rfl
 have k2 := hS 2 _ rfl
 have k3 := hS 3 _ rfl
 have k4 := hS 4 _ rfl
 have k5 := hS 5 _ rfl
 have y0 := Tp.keep hbW c0
 have hAW := h.on hbW
 rw [hW]
 clear hW c0 c1 c2 c3 c4 c5 c6
 have HAW := Lib.hid hAW
 have HKW := Lib.hid (Sc.Kept.of g bv ov av hbW)
 have HF := Lib.hid h.free
 have HS := Lib.hid hS
 clear h hS hbW hAW
 go_cut [] from 12 to 22 (fun wc => Hid (Sc.At wc g P { x with st := N } bv ov av ∧ Sc.Kept W wc g bv ov av bv ov av))
 case first =>
  go_region_with (go_at_call 87; refine (hst _).mono ?_; rintro e w1 ⟨rfl, hb1⟩; have hb1 := Sc.undrew hb1; have hA1 := HAW.out.on hb1; have e1 := hA1.box.cell 1 _ rfl; have e2 := hA1.box.cell 2 _ rfl; have e3 := hA1.box.cell 3 _ rfl; have e4 := hA1.box.cell 4 _ rfl; have e5 := hA1.box.cell 5 _ rfl; have e6 := hA1.box.cell 6 _ rfl; have ef := hA1.box.fz; have HA1 := Lib.hid hA1; have HB1 := Lib.hid hb1; clear hA1 hb1)
  all_goals (try go_wp2_with fail)
  all_goals go_meet
  all_goals exact Lib.hid ⟨(HA1.out.putSt N).1, (Sc.Kept.of g bv ov av HB1.out).trans (HA1.out.putSt N).2⟩
 case rest =>
  have hA := hcut.out.1
  have hK := HKW.out.trans hcut.out.2
  have hS2 := HS.out.kept hcut.out.2 HF.out
  clear k0 k1 k2 k3 k4 k5 y0 hst hf HAW HKW HS
  have k0 := hS2 0 _ rfl
  have k1 := hS2 1 _ rfl
  have k2 := hS2 2 _ rfl
  have k3 := hS2 3 _ rfl
  have k4 := hS2 4 _ rfl
  have k5 := hS2 5 _ rfl
  have x0 : wc.cell? ⟨g, 0, none⟩ = some (.string P) := hA.box.cell 0 _ rfl
  have x1 : wc.cell? ⟨g, 1, none⟩ = some (.int .i64 N.pl) := hA.box.cell 1 _ rfl
  have x7 : wc.cell? ⟨g, 7, none⟩ = some (.int .i64 x.hold) := hA.box.cell 7 _ rfl
  have ef := hA.box.fz
  have HA := Lib.hid hA
  have HK := Lib.hid hK
  clear hcut hA hK hS2
  generalize w.heap.size = gs at *
  go_upto_region 3 with fail
  go_cut [28] from 28 to 45 (fun s wx => s = .bool false ∧ wx = wc)
  case first =>
   rcases HD3.out with ⟨q0, q1, q2⟩ | ⟨q0, q1⟩ | ⟨q0, q1, q2⟩
   ·
    have itag := fun u => Rs.inTag x.st.pl false q2 u
    go_wp2_with (go_at_call 88; (first | refine (itag _).mono ?_ | refine (ntag _).mono ?_); rintro e w' ⟨rfl, hw⟩; have hw := hw.symm; subst hw)
    go_meet
    exact ⟨rfl, rfl⟩
   ·
    have itag := fun u => Rs.inTag x.st.pl false q1 u
    go_wp2_with (go_at_call 88; (first | refine (itag _).mono ?_ | refine (ntag _).mono ?_); rintro e w' ⟨rfl, hw⟩; have hw := hw.symm; subst hw)
    go_meet
    exact ⟨rfl, rfl⟩
   ·
    have itag := fun u => Rs.inTag x.st.pl true q1 u
    have ntag := fun u => Rs.inTag N.pl true q2 u
    go_wp2_with (go_at_call 88; (first | refine (itag _).mono ?_ | refine (ntag _).mono ?_); rintro e w' ⟨rfl, hw⟩; have hw := hw.symm; subst hw)
    go_meet
    exact ⟨rfl, rfl⟩
  case rest =>
  clear HD3
  obtain ⟨rfl, rfl⟩ := hcut
  have ntag := fun u => Rs.inTag N.pl false HD6.out u
  go_upto_region 8 with ((go_at_call 88; refine (ntag _).mono ?_; rintro e w' ⟨rfl, hw⟩; have hw := hw.symm; subst hw))
  clear ntag
  go_cut [59] from 59 to 71 (fun s wx => s = .bool true ∧ wx = wc)
  case first =>
   rcases HD8.out with ⟨q0, q1, q2⟩
   ·
    go_wp2_with fail
    go_meet
    exact ⟨rfl, rfl⟩
  case rest =>
  clear HD8
  obtain ⟨rfl, rfl⟩ := hcut
  have flu := Sc.flush P ({ x with st := N } : Rf) wc g bv ov av HA.out hbl ho
  have hw2 : IntKind.i64.wrap ((a : Int) + 2) = (a : Int) + 2 := by rw [IntKind.wrap_i64]; omega
  have hcut2 := Rm.text_cut P (a + 2) i (by omega) (by omega)
  rw [show ((a + 2 : Nat) : Int) = (a : Int) + 2 by omega] at hcut2
  clear x7
  generalize P.extract (a + 2) (i) = T at *
  generalize ({ x with st := N } : Rf).flush = Y at *
  go_upto_region 10 with (go_at_call 44; refine flu.mono ?_; rintro e w2 ⟨rfl, bv2, ov2, hA2, hK2⟩; have e0 := hA2.box.cell 0 _ rfl; have e7 := hA2.box.cell 7 _ rfl; rw [HFH.out] at e7; have kk := hK2.cell HF.out k0; have HF2 := Lib.hid (hK2.block gs (World.block_lt_of_cell? _ _ k0) HF.out).2; have ef2 := hA2.box.fz; have HA2 := Lib.hid hA2; have HK2 := Lib.hid hK2; clear flu hA2 hK2)
  go_quiet (fail)
  obtain ⟨V, _hV⟩ : ∃ V, w2.drewN nq = V := ⟨_, rfl⟩
  have HBV : Hid (Below w2.heap.size w2 V) := by unfold Hid; rw [← _hV]; exact Sc.drewN w2 nq
  rw [_hV]
  clear _hV
  have hA3 := HA2.out.on HBV.out
  have y0 := hA3.box.cell 0 _ rfl
  have y7 := hA3.box.cell 7 _ rfl
  rw [HFH.out] at y7
  have y10 := hA3.box.cell 10 _ rfl
  have yk := (Sc.Kept.of g bv2 ov2 av HBV.out).cell HF2.out kk
  have yf := hA3.box.fz
  have hlt := hA3.lt
  obtain ⟨xs, hx⟩ := id hA3.out
  obtain ⟨oa, od, rfl⟩ := Rm.form hx.1
  have HXS := Lib.hid hx
  have HA3 := Lib.hid hA3
  have HK3 := Lib.hid ((HK.out.trans HK2.out).trans (Sc.Kept.of g bv2 _ av HBV.out))
  have HN : Hid (Y.out.length + 1 ≤ maxLen ∧ (Y.out.length + 1) * 72 ≤ 140737488355328) := ⟨by have := HFL.out; unfold maxLen; omega, by have := HFL.out; omega⟩
  clear e0 e7 kk ef2 hx hA3 HA2 HK2 HBV
  go_wp2_with (at_builtin; refine Ro.push rfl _ _ 55 84 5 72 _ rfl Tryz.underlying55 Rm.infoT rfl (by decide) _ rfl (HXS.out.1.alloc _) V.heap.size (Rm.five ⟨3, Ts.e, T, [], false⟩ (.slice none 0 0)) rfl (Sc.five_cells V 3 ⟨#[]⟩ T false ⟨3, Ts.e, T, [], false⟩ ⟨rfl, rfl, rfl, rfl⟩) rfl (Sc.five_one _) HN.out.1 HN.out.2 (by simp; omega) ?_)
  intro v4 w4 R4 hg4 hf4
  obtain ⟨a4, d4, rfl⟩ := Rm.form R4
  have hq : Below V.heap.size V (V.alloc (.cells #[.int .i64 3, .string ⟨#[]⟩, .string T, .slice none 0 0, .bool false] 84)) := (Below.refl _ _).alloc (Nat.le_refl _) _
  obtain ⟨z1, z2⟩ := Sc.At.outPut (t := ⟨3, Ts.e, T, [], false⟩) HA3.out hq xs HXS.out rfl R4 hg4 (by simpa using hf4)
  have z3 := z1.set (x' := { Y with out := Y.out ++ [⟨3, Ts.e, T, [], false⟩], hold := -1 }) 7 (.int .i64 (-1)) (by decide) rfl rfl rfl rfl
  have B4 := HA3.out.box.on (w' := w4) ((hg4.block g (Nat.lt_of_lt_of_le hlt hq.size) (fun e => by have := (HXS.out.1.lt g e.symm).1; omega)).trans (hq.block g hlt))
  have d7 := B4.cell 7 _ rfl
  have d10 := B4.cell 10 _ rfl
  have df := B4.fz
  have HZ3 := Lib.hid z3
  have HKZ := Lib.hid ((HK3.out.trans z2).trans (Sc.Kept.set _ g 7 (.int .i64 (-1)) bv2 _ av))
  clear R4 hg4 hf4 hq z1 z2 z3 B4 y0 y7 y10 yk yf
  go_wp2
  go_end0
  exact ⟨rfl, _, _, _, by rw [← HZ.out]; exact HZ3.out, HKZ.out⟩
end Go.Proofs.YtblpkjlodncpeaaGreatDoor

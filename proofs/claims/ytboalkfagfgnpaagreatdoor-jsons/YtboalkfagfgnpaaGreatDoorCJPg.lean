/-
  THE WALK of the reference's reader: number.
-/
import Derived.Test.YtboalkfagfgnpaaGreatDoorCJPetoJPg0
import Derived.Test.YtboalkfagfgnpaaGreatDoorCJRo
namespace Go.Proofs.YtboalkfagfgnpaaGreatDoor
open Go.RowKit
/-- somewhere it has more than 64 items -/
def Js.wide : Vt → Prop
  | .nil => False
  | .mk _ _ _ _ n it _ _ => 64 < n ∨ ∃ i, i < n ∧ Js.wide (it i)
/-- what a reading function that gives a value does -/
def Jp.VOut (o : Option (Vt × List UInt8)) (w : World) (g : Nat) (T : ByteArray) (e : Ending) (w' : World) : Prop :=
  w.grownBy w' (some g) ∧ ∃ (k x : Int) (y : Nat) (s : ByteArray) (ai : Option Addr) (n c : Nat) (ak : Option Addr) (m d : Nat), e = .returned (.agg #[.int .i64 k, .int .i64 x, .int .u64 (y : Int), .string s, .slice ai n c, .slice ak m d]) ∧
    ((∃ t r, o = some (t, r) ∧ Jp.Rd w' g T r false ∧ t.Lies w' (fun q => w.heap.size ≤ q ∧ q < w'.heap.size) (.agg #[.int .i64 k, .int .i64 x, .int .u64 (y : Int), .string s, .slice ai n c, .slice ak m d])) ∨ ((∀ t r, o = some (t, r) → Js.wide t) ∧ ∃ r, Jp.Rd w' g T r true))
theorem Jp.Rd.other {w : World} {g G j : Nat} {v : Value} {T : ByteArray} {l : List UInt8} {bad : Bool} (h : Jp.Rd w g T l bad) (hg : g ≠ G) : Jp.Rd (w.setCell ⟨G, j, none⟩ v) g T l bad := by
  obtain ⟨i, h1, h2, h3, hB⟩ := h
  exact ⟨i, h1, h2, h3, (Below.heap_setCell _ _ _ _ hg).trans hB⟩
/-- a leaf is stored into the result's box -/
theorem Jp.fin {w u W : World} {g : Nat} {T : ByteArray} {o : Option (Vt × List UInt8)} (k x : Int) (y : Nat) (s : ByteArray) (hy : y < 18446744073709551616) {r : List UInt8} (hg : w.grownBy u (some g)) (hb : Below w.heap.size u W) (hgw : g < w.heap.size) (hR : Jp.Rd u g T r false) (ho : o = some (Js.leaf k x y s, r)) :
    Jp.VOut o w g T (.returned (.agg #[.int .i64 k, .int .i64 x, .int .u64 (y : Int), .string s, .slice none 0 0, .slice none 0 0])) W :=
  ⟨Jr.grown_more hg hb (Nat.le_refl _), k, x, y, s, none, 0, 0, none, 0, 0, rfl, .inl ⟨_, r, ho, hR.below hb hgw, Jr.leaf_lies _ _ k x y s hy⟩⟩
theorem Jp.finbad {w u W : World} {g : Nat} {T : ByteArray} {o : Option (Vt × List UInt8)} {r : List UInt8} (hg : w.grownBy u (some g)) (hb : Below w.heap.size u W) (hgw : g < w.heap.size) (hR : Jp.Rd u g T r true) (ho : ∀ t r, o = some (t, r) → Js.wide t) :
    Jp.VOut o w g T (.returned (.agg #[.int .i64 0, .int .i64 0, .int .u64 0, .string ⟨#[]⟩, .slice none 0 0, .slice none 0 0])) W :=
  ⟨Jr.grown_more hg hb (Nat.le_refl _), 0, 0, 0, ⟨#[]⟩, none, 0, 0, none, 0, 0, rfl, .inr ⟨ho, r, hR.below hb hgw⟩⟩
theorem Jp.take_snoc {l : List UInt8} {k : Nat} {c : UInt8} {r : List UInt8} (h : l.drop k = c :: r) : l.take (k + 1) = l.take k ++ [c] := by
  have hl : k < l.length := by
    have := congrArg List.length h
    rw [List.length_drop, List.length_cons] at this
    omega
  rw [List.take_succ_eq_append_getElem hl]
  congr 1
  have e : l.drop k = l[k] :: l.drop (k + 1) := List.drop_eq_getElem_cons hl
  rw [e] at h
  injection h with h _
  rw [h]
/-- where the digits end -/
theorem Jp.digs {l : List UInt8} {k : Nat} (h1 : ∀ c ∈ l.take k, Pl.digit c = true) (h2 : Pl.digit ((l.drop k).headD 0) = false) : l.takeWhile Pl.digit = l.take k ∧ l.dropWhile Pl.digit = l.drop k := by
  have e : l = l.take k ++ l.drop k := (List.take_append_drop k l).symm
  have hd : (l.drop k).takeWhile Pl.digit = [] := by
    cases q : l.drop k with
    | nil => rfl
    | cons c r =>
      rw [q] at h2
      rw [List.takeWhile_cons, if_neg (by rw [show Pl.digit c = false from h2]; exact Bool.false_ne_true)]
  have h3 : l.takeWhile Pl.digit = l.take k := by
    conv => lhs; rw [e]
    rw [List.takeWhile_append_of_pos h1, hd, List.append_nil]
  refine ⟨h3, ?_⟩
  have h4 : l.takeWhile Pl.digit ++ l.dropWhile Pl.digit = l := List.takeWhile_append_dropWhile
  rw [h3] at h4
  conv at h4 => rhs; rw [e]
  exact List.append_cancel_left h4
/-- the loop's state: the box, the reader, what has been read -/
structure Jp.Nm (w : World) (g i k : Nat) (T : ByteArray) (u : World) : Prop where
  grown : w.grownBy u (some g)
  box : Vm.Box u w.heap.size (.int .i64 0) (.int .i64 0) (.int .u64 0) (.string ⟨#[]⟩) (.slice none 0 0) (.slice none 0 0)
  rd : Bs.Box u g #[.string T, .int .i64 ((i + k : Nat) : Int), .bool false] 54
  le : i + k ≤ T.size
theorem Jp.Nm.draw {w : World} {g i k : Nat} {T : ByteArray} {u u' : World} (h : Jp.Nm w g i k T u) (hb : u.grownBy u' none) : Jp.Nm w g i k T u' :=
  ⟨Jr.grown_trans h.grown (Jr.grown_some hb _), ⟨(hb.block _ h.box.lt (by simp)).trans h.box.all⟩, Jp.box_on h.rd hb, h.le⟩
theorem Jp.Nm.next {w : World} {g i k : Nat} {T : ByteArray} {u : World} (h : Jp.Nm w g i k T u) (hg : g < w.heap.size) (hk : i + k < T.size) {j : Int} (hj : j = ((i + (k + 1) : Nat) : Int)) : Jp.Nm w g i (k + 1) T (u.setCell ⟨g, 1, none⟩ (.int .i64 j)) := by
  subst hj
  exact ⟨Jr.grown_trans h.grown (Jr.grown_set _ _ _ _), h.box.other (by omega) 1 _, h.rd.set 1 _, by omega⟩
theorem Jp.Nm.here {w : World} {g i k : Nat} {T : ByteArray} {u : World} (h : Jp.Nm w g i k T u) (h3 : T.size ≤ 65536) : Jp.Rd u g T (T.data.toList.drop (i + k)) false := ⟨i + k, h.le, rfl, h3, h.rd⟩
set_option maxRecDepth 100000 in
set_option maxHeartbeats 4000000 in
theorem Jp.number (l : List UInt8) (g : Nat) (T : ByteArray) (w : World) (h : Jp.Rd w g T l false) :
    Calls Tryz.prog 54 #[.pointer (some ⟨g, 0, none⟩)] w (Jp.VOut (Js.number l) w g T) := by
  have hgw := h.lt
  have HG : Hid (g ≠ w.heap.size) := by unfold Hid; omega
  have wd := Jp.word ⟨#[45]⟩ (by decide) l false g T (w.alloc (.cells #[.int .i64 0, .int .i64 0, .int .u64 0, .string ⟨#[]⟩, .slice none 0 0, .slice none 0 0] 26)) (h.on (Jp.grown_alloc _ _ _))
  have HBX : Hid (Vm.Box (w.alloc (.cells #[.int .i64 0, .int .i64 0, .int .u64 0, .string ⟨#[]⟩, .slice none 0 0, .slice none 0 0] 26)) w.heap.size (.int .i64 0) (.int .i64 0) (.int .u64 0) (.string ⟨#[]⟩) (.slice none 0 0) (.slice none 0 0)) := ⟨Vm.Has.new w _ _ rfl⟩
  have HGA : Hid (w.grownBy (w.alloc (.cells #[.int .i64 0, .int .i64 0, .int .u64 0, .string ⟨#[]⟩, .slice none 0 0, .slice none 0 0] 26)) (some g)) := Jp.grown_alloc _ _ _
  obtain ⟨neg, hneg⟩ : ∃ neg, Pl.pre (⟨#[45]⟩ : ByteArray).data.toList l = neg := ⟨_, rfl⟩
  rw [hneg] at wd
  obtain ⟨l1, hl1⟩ : ∃ l1, (if neg = true then l.drop (⟨#[45]⟩ : ByteArray).size else l) = l1 := ⟨_, rfl⟩
  rw [hl1] at wd
  have HNU : Hid (Js.number l = Js.numOf neg (l1.takeWhile Pl.digit) (l1.dropWhile Pl.digit)) := by
    have hh : (l.head? = some 45) = (neg = true) := by
      rw [← hneg]
      cases l with
      | nil => simp [Pl.pre]
      | cons c r =>
        rw [show (⟨#[45]⟩ : ByteArray).data.toList = [45] from rfl, Pl.pre_cons, Pl.pre_nil]
        rw [Bool.and_true, eq_iff_iff, beq_iff_eq, List.head?_cons, Option.some.injEq]
        exact ⟨Eq.symm, Eq.symm⟩
    unfold Hid Js.number
    rw [← hl1]
    by_cases q : neg = true
    · rw [if_pos (hh ▸ q), if_pos q, q]
      rfl
    · rw [if_neg (hh ▸ q), if_neg q, Bool.eq_false_iff.2 q]
  clear hneg hl1 h
  obtain ⟨O, hO⟩ : ∃ O, Js.number l = O := ⟨_, rfl⟩
  rw [hO]
  rw [hO] at HNU
  clear hO
  have dg := fun c u => Rt.digit c u
  have lw := fun c u => Sz.low c u
  go_enter Tryz.func54, Tryz.ntmps54
  go_wp2_with (go_at_call 51; refine wd.mono ?_; rintro e w1 ⟨rfl, b1, q1⟩; obtain ⟨i, h1, h2, h3, hB⟩ := q1; have HM1 : Hid (Jp.Nm w g i 0 T w1) := ⟨Jr.grown_trans HGA.out b1, ⟨(b1.block _ HBX.out.lt (fun q => HG.out (by injection q with q; exact q.symm))).trans HBX.out.all⟩, hB, h1⟩; have c1 : w1.cell? ⟨g, 1, none⟩ = some (.int .i64 (i : Int)) := hB.cell 1 rfl; clear hB b1 wd)
  have HL1 := Lib.hid h2
  clear c1 h2 HBX HGA
  go_loopw [5] (fun xv wr => ∃ (k : Nat), xv = .int .i64 ((Pl.val 10 (l1.take k) : Nat) : Int) ∧ k ≤ 17 ∧ Hid (∀ c ∈ l1.take k, Pl.digit c = true) ∧ Hid (Jp.Nm w g i k T wr)) (fun _ wr => Jr.rem g T wr)
  case atStart => exact ⟨0, rfl, by omega, by intro c hc; simp at hc, HM1⟩
  case round =>
    clear HM1
    obtain ⟨k, rfl, hk, HD, HM⟩ := hrel
    obtain ⟨j, hj⟩ : ∃ j, i + k = j := ⟨_, rfl⟩
    have hrd := HM.out.rd
    rw [hj] at hrd
    have c0 : wr.cell? ⟨g, 0, none⟩ = some (.string T) := hrd.cell 0 rfl
    have c1 : wr.cell? ⟨g, 1, none⟩ = some (.int .i64 (j : Int)) := hrd.cell 1 rfl
    have c2 : wr.cell? ⟨g, 2, none⟩ = some (.bool false) := hrd.cell 2 rfl
    have f1 := hrd.frozen 1
    have f2 := hrd.frozen 2
    obtain ⟨b0, b1, b2, b3, b4, b5⟩ := HM.out.box.cells
    have z0 := HM.out.box.has.frozen 0
    have z1 := HM.out.box.has.frozen 1
    have z2 := HM.out.box.has.frozen 2
    have z3 := HM.out.box.has.frozen 3
    have z4 := HM.out.box.has.frozen 4
    have z5 := HM.out.box.has.frozen 5
    have hjT : j ≤ T.size := hj ▸ HM.out.le
    have hvl := Jp.val_lt _ HD.out
    have hv17 : Pl.val 10 (l1.take k) < 100000000000000000 := Nat.lt_of_lt_of_le hvl (by rw [List.length_take]; exact Nat.le_trans (Nat.pow_le_pow_right (by omega) (Nat.le_trans (Nat.min_le_left _ _) hk)) (by omega))
    obtain ⟨X, hXX⟩ : ∃ X, Pl.val 10 (l1.take k) = X := ⟨_, rfl⟩
    rw [hXX] at hv17 ⊢
    have HXX := Lib.hid hXX
    have HJ := Lib.hid hj
    have HDR : Hid (l1.drop k = T.data.toList.drop j) := by unfold Hid; rw [← HL1.out, List.drop_drop, hj]
    have hij : i ≤ j := by omega
    have n1 : ¬ g = w.heap.size := by omega
    have n2 : ¬ w.heap.size = g := by omega
    clear hrd hvl hXX
    by_cases hlt : j < T.size
    · have d1 : decide ((j : Int) < (T.size : Int)) = true := decide_eq_true (by omega)
      have d1n : decide (j < T.size) = true := decide_eq_true hlt
      have hdr : T.data.toList.drop j = T[j] :: T.data.toList.drop (j + 1) := List.drop_eq_getElem_cons (by rw [Wk.len_data]; exact hlt)
      have HDC := Lib.hid (HDR.out.trans hdr)
      clear hdr
      by_cases hd : Pl.digit T[j] = true
      · have dgj := dg T[j]
        rw [hd] at dgj
        have hdd := Jp.digit_dig T[j] hd
        have HDD := Lib.hid hd
        by_cases h17 : k = 17
        · have d16 : decide ((16 : Int) < (j : Int) - (i : Int)) = true := decide_eq_true (by omega)
          have HN : Hid (O = none) := by
            unfold Hid
            rw [HNU.out]
            have hpre : l1.take 18 = l1.take 17 ++ [T[j]] := Jp.take_snoc (by rw [← h17]; exact HDC.out)
            have hall : ∀ c ∈ l1.take 18, Pl.digit c = true := fun c hc => by
              rw [hpre] at hc
              rcases List.mem_append.1 hc with q | q
              · exact HD.out c (by rw [h17]; exact q)
              · rw [List.mem_singleton.1 q]; exact hd
            have hlen : 18 ≤ l1.length := by
              have := congrArg List.length HDC.out
              rw [List.length_drop, List.length_cons] at this
              omega
            have htw : 17 < (l1.takeWhile Pl.digit).length := by
              have e : l1 = l1.take 18 ++ l1.drop 18 := (List.take_append_drop 18 l1).symm
              have e2 : l1.takeWhile Pl.digit = l1.take 18 ++ (l1.drop 18).takeWhile Pl.digit := by
                conv => lhs; rw [e]
                rw [List.takeWhile_append_of_pos hall]
              rw [e2, List.length_append, List.length_take]
              omega
            unfold Js.numOf
            rw [if_pos]
            rcases Jp.many (fun c hc => Jp.mem_tw hc) htw with q | q
            · exact .inr (.inl q)
            · exact .inr (.inr (.inl q))
          have e := HN.out
          subst e
          clear HN hd hdd h17
          go_wp2_with fail
          go_quiet ((go_at_call 78; exact Calls.quiet_of_same (dgj _)))
          go_wp2
          obtain ⟨W, hW, hX, hb6⟩ := Jr.six ((HM.out.draw (Jr.grown_drewN _ _)).box.other n2 2 (.bool true)) (.int .i64 0) (.int .i64 0) (.int .u64 0) (.string ⟨#[]⟩) (.slice none 0 0) (.slice none 0 0)
          rw [hW]
          obtain ⟨x0, x1, x2, x3, x4, x5⟩ := hX.cells
          refine bodyPost_ret (v := .agg #[.int .i64 0, .int .i64 0, .int .u64 0, .string ⟨#[]⟩, .slice none 0 0, .slice none 0 0]) (by simp [results, Tryz.results54, go_sem, x0, x1, x2, x3, x4, x5]) rfl ?_
          exact Jp.finbad (Jr.grown_trans (HM.out.draw (Jr.grown_drewN _ _)).grown (Jr.grown_set _ _ _ _)) hb6 hgw ((HM.out.draw (Jr.grown_drewN _ _)).here h3).spoil (fun _ _ q => by cases q)
        · have d16 : decide ((16 : Int) < (j : Int) - (i : Int)) = false := decide_eq_false (by omega)
          have ew : IntKind.u8.wrap ((T[j].toNat : Int) - 48) = (Pl.dig T[j] : Int) := by rw [IntKind.wrap_u8]; omega
          have HV : Hid (Pl.val 10 (l1.take (k + 1)) = X * 10 + Pl.dig T[j]) := by unfold Hid; rw [Jp.take_snoc HDC.out, Jp.val_snoc, HXX.out]
          have HD2 : Hid (∀ c ∈ l1.take (k + 1), Pl.digit c = true) := fun c hc => by
            rw [Jp.take_snoc HDC.out] at hc
            rcases List.mem_append.1 hc with q | q
            · exact HD.out c q
            · rw [List.mem_singleton.1 q]; exact hd
          have hd9 := hdd.1
          clear hd hdd
          generalize Pl.dig T[j] = D at *
          have EN : Hid (10 * (X : Int) + (D : Int) = ((X * 10 + D : Nat) : Int)) := by unfold Hid; omega
          have HRM : Hid (Jr.rem g T wr = T.size - j) := by
            have := Jp.rem_eq (HM.out.here h3)
            rw [List.length_drop, Wk.len_data] at this
            have e := HJ.out
            unfold Hid
            omega
          go_wp2_with fail
          go_quiet ((go_at_call 78; exact Calls.quiet_of_same (dgj _)))
          go_wp2
          go_quiet (fail)
          go_wp2
          go_roundw
          case rel => exact ⟨k + 1, by rw [HV.out, ← EN.out], by omega, HD2, (HM.out.draw (Jr.grown_drewN _ _)).next hgw (by have := HJ.out; omega) (by have := HJ.out; omega)⟩
          case measure =>
            have hq : ∀ n, Jr.rem g T ((wr.drewN n).setCell ⟨g, 1, none⟩ (.int .i64 ((j : Int) + 1))) = T.size - (j + 1) := fun n => by
              have q := (HM.out.draw (Jr.grown_drewN wr n)).next hgw (by have := HJ.out; omega) (show (j : Int) + 1 = _ by have := HJ.out; omega)
              have := Jp.rem_eq (q.here h3)
              rw [List.length_drop, Wk.len_data] at this
              have e := HJ.out
              omega
            rw [hq, HRM.out]
            omega
      · have dgj := dg T[j]
        rw [Bool.eq_false_iff.2 hd] at dgj
        have lwj := lw T[j]
        have hdig := Jp.digs HD.out (by rw [HDC.out]; exact Bool.eq_false_iff.2 hd)
        have HH : Hid ((l1.drop k).head? = some T[j]) := by unfold Hid; rw [HDC.out]; rfl
        clear hd
        rw [hdig.1, hdig.2] at HNU
        clear hdig
        have hlen : (l1.take k).length = k := by
          rw [List.length_take, ← HL1.out, List.length_drop, Wk.len_data]
          omega
        by_cases hA : k = 0
        · have HN : Hid (O = none) := by unfold Hid; rw [HNU.out]; unfold Js.numOf; rw [if_pos (.inl (List.length_eq_zero_iff.1 (by omega)))]
          have e := HN.out
          subst e
          have L0 : (((j : Int) - (i : Int)) == 0) = true := beq_iff_eq.2 (by omega)
          clear HN HNU hA hlen
          go_wp2_with fail
          go_quiet ((go_at_call 78; exact Calls.quiet_of_same (dgj _)))
          go_wp2
          go_quiet ((go_at_call 79; refine (lwj _).mono ?_; rintro e w' ⟨rfl, rfl⟩; exact ⟨rfl, _, rfl⟩))
          go_wp2
          obtain ⟨W, hW, hX, hb6⟩ := Jr.six ((HM.out.draw (Jr.grown_drewN _ _)).box.other n2 2 (.bool true)) (.int .i64 0) (.int .i64 0) (.int .u64 0) (.string ⟨#[]⟩) (.slice none 0 0) (.slice none 0 0)
          rw [hW]
          obtain ⟨x0, x1, x2, x3, x4, x5⟩ := hX.cells
          refine bodyPost_ret (v := .agg #[.int .i64 0, .int .i64 0, .int .u64 0, .string ⟨#[]⟩, .slice none 0 0, .slice none 0 0]) (by simp [results, Tryz.results54, go_sem, x0, x1, x2, x3, x4, x5]) rfl ?_
          exact Jp.finbad (Jr.grown_trans (HM.out.draw (Jr.grown_drewN _ _)).grown (Jr.grown_set _ _ _ _)) hb6 hgw ((HM.out.draw (Jr.grown_drewN _ _)).here h3).spoil (fun _ _ q => by cases q)
        have hi : i < T.size := by omega
        have L0 : (((j : Int) - (i : Int)) == 0) = false := beq_eq_false_iff_ne.2 (by omega)
        have hhd : (l1.take k).head? = some T[i] := by
          have e : l1 = T[i] :: T.data.toList.drop (i + 1) := by rw [← HL1.out]; exact List.drop_eq_getElem_cons (by rw [Wk.len_data]; exact hi)
          rw [e]
          cases k with
          | zero => exact absurd rfl hA
          | succ k => rfl
        by_cases hB : 1 < k ∧ T[i] = 48
        · have HN : Hid (O = none) := by unfold Hid; rw [HNU.out]; unfold Js.numOf; rw [if_pos (.inr (.inl ⟨by omega, by rw [hhd, hB.2]⟩))]
          have e := HN.out
          subst e
          have L1 : decide ((1 : Int) < (j : Int) - (i : Int)) = true := decide_eq_true (by have := hB.1; omega)
          have e48 : ((T[i].toNat : Int) == 48) = true := beq_iff_eq.2 (by rw [hB.2]; rfl)
          clear HN HNU hA hlen hhd hB
          go_wp2_with fail
          go_quiet ((go_at_call 78; exact Calls.quiet_of_same (dgj _)))
          go_wp2
          go_quiet ((go_at_call 79; refine (lwj _).mono ?_; rintro e w' ⟨rfl, rfl⟩; exact ⟨rfl, _, rfl⟩))
          go_wp2
          obtain ⟨W, hW, hX, hb6⟩ := Jr.six ((HM.out.draw (Jr.grown_drewN _ _)).box.other n2 2 (.bool true)) (.int .i64 0) (.int .i64 0) (.int .u64 0) (.string ⟨#[]⟩) (.slice none 0 0) (.slice none 0 0)
          rw [hW]
          obtain ⟨x0, x1, x2, x3, x4, x5⟩ := hX.cells
          refine bodyPost_ret (v := .agg #[.int .i64 0, .int .i64 0, .int .u64 0, .string ⟨#[]⟩, .slice none 0 0, .slice none 0 0]) (by simp [results, Tryz.results54, go_sem, x0, x1, x2, x3, x4, x5]) rfl ?_
          exact Jp.finbad (Jr.grown_trans (HM.out.draw (Jr.grown_drewN _ _)).grown (Jr.grown_set _ _ _ _)) hb6 hgw ((HM.out.draw (Jr.grown_drewN _ _)).here h3).spoil (fun _ _ q => by cases q)
        have hb2 : decide ((1 : Int) < (j : Int) - (i : Int)) = false ∨ (decide ((1 : Int) < (j : Int) - (i : Int)) = true ∧ ((T[i].toNat : Int) == 48) = false) := by
          by_cases q : 1 < k
          · exact .inr ⟨decide_eq_true (by omega), (Jr.eq_dec T[i] 48).trans (decide_eq_false fun q2 => hB ⟨q, q2⟩)⟩
          · exact .inl (decide_eq_false (by omega))
        have hnB : ¬ (1 < (l1.take k).length ∧ (l1.take k).head? = some 48) := fun ⟨q1, q2⟩ => hB ⟨by omega, by rw [hhd] at q2; injection q2⟩
        have hnA : ¬ l1.take k = [] := fun q => hA (by rw [q] at hlen; simpa using hlen.symm)
        clear hA hB hhd hlen
        by_cases hC : 9007199254740991 < X
        · have HN : Hid (O = none) := by unfold Hid; rw [HNU.out]; unfold Js.numOf; rw [if_pos (.inr (.inr (.inl (by rw [HXX.out]; exact hC))))]
          have e := HN.out
          subst e
          have dM : decide ((9007199254740991 : Int) < (X : Int)) = true := decide_eq_true (by omega)
          clear HN HNU hnA hnB hC
          rcases hb2 with L1 | ⟨L1, e48⟩
          all_goals
            go_wp2_with fail
            go_quiet ((go_at_call 78; exact Calls.quiet_of_same (dgj _)))
            go_wp2
            go_quiet ((go_at_call 79; refine (lwj _).mono ?_; rintro e w' ⟨rfl, rfl⟩; exact ⟨rfl, _, rfl⟩))
            go_wp2
            obtain ⟨W, hW, hX, hb6⟩ := Jr.six ((HM.out.draw (Jr.grown_drewN _ _)).box.other n2 2 (.bool true)) (.int .i64 0) (.int .i64 0) (.int .u64 0) (.string ⟨#[]⟩) (.slice none 0 0) (.slice none 0 0)
            rw [hW]
            obtain ⟨x0, x1, x2, x3, x4, x5⟩ := hX.cells
            refine bodyPost_ret (v := .agg #[.int .i64 0, .int .i64 0, .int .u64 0, .string ⟨#[]⟩, .slice none 0 0, .slice none 0 0]) (by simp [results, Tryz.results54, go_sem, x0, x1, x2, x3, x4, x5]) rfl ?_
            exact Jp.finbad (Jr.grown_trans (HM.out.draw (Jr.grown_drewN _ _)).grown (Jr.grown_set _ _ _ _)) hb6 hgw ((HM.out.draw (Jr.grown_drewN _ _)).here h3).spoil (fun _ _ q => by cases q)
        have dM : decide ((9007199254740991 : Int) < (X : Int)) = false := decide_eq_false (by omega)
        by_cases hD1 : T[j] = 46
        · have HN : Hid (O = none) := by unfold Hid; rw [HNU.out]; unfold Js.numOf; rw [if_pos (.inr (.inr (.inr (.inl (by rw [HH.out, hD1])))))]
          have e := HN.out
          subst e
          have e46 : ((T[j].toNat : Int) == 46) = true := beq_iff_eq.2 (by rw [hD1]; rfl)
          clear HN HNU hnA hnB hC hD1 HH
          rcases hb2 with L1 | ⟨L1, e48⟩
          all_goals
            go_wp2_with fail
            go_quiet ((go_at_call 78; exact Calls.quiet_of_same (dgj _)))
            go_wp2
            go_quiet ((go_at_call 79; refine (lwj _).mono ?_; rintro e w' ⟨rfl, rfl⟩; exact ⟨rfl, _, rfl⟩))
            go_wp2
            obtain ⟨W, hW, hX, hb6⟩ := Jr.six ((HM.out.draw (Jr.grown_drewN _ _)).box.other n2 2 (.bool true)) (.int .i64 0) (.int .i64 0) (.int .u64 0) (.string ⟨#[]⟩) (.slice none 0 0) (.slice none 0 0)
            rw [hW]
            obtain ⟨x0, x1, x2, x3, x4, x5⟩ := hX.cells
            refine bodyPost_ret (v := .agg #[.int .i64 0, .int .i64 0, .int .u64 0, .string ⟨#[]⟩, .slice none 0 0, .slice none 0 0]) (by simp [results, Tryz.results54, go_sem, x0, x1, x2, x3, x4, x5]) rfl ?_
            exact Jp.finbad (Jr.grown_trans (HM.out.draw (Jr.grown_drewN _ _)).grown (Jr.grown_set _ _ _ _)) hb6 hgw ((HM.out.draw (Jr.grown_drewN _ _)).here h3).spoil (fun _ _ q => by cases q)
        have e46 : ((T[j].toNat : Int) == 46) = false := (Jr.eq_dec T[j] 46).trans (decide_eq_false hD1)
        have hlow : ((Pl.lowB T[j]).toNat = 101) ↔ (T[j] = 101 ∨ T[j] = 69) := by
          have := Ug.all (p := fun c => decide ((Pl.lowB c).toNat = 101) == (decide (c = 101) || decide (c = 69))) (by decide +kernel) T[j]
          have h := eq_of_beq this
          constructor
          · intro q
            rw [decide_eq_true q] at h
            simpa using h.symm
          · intro q
            have q2 : (decide (T[j] = 101) || decide (T[j] = 69)) = true := by simpa using q
            rw [q2] at h
            exact of_decide_eq_true h
        by_cases hD2 : T[j] = 101 ∨ T[j] = 69
        · have HN : Hid (O = none) := by
            unfold Hid
            rw [HNU.out]
            unfold Js.numOf
            rw [if_pos]
            rcases hD2 with q | q
            · exact .inr (.inr (.inr (.inr (.inl (by rw [HH.out, q])))))
            · exact .inr (.inr (.inr (.inr (.inr (by rw [HH.out, q])))))
          have e := HN.out
          subst e
          have e101 : (((Pl.lowB T[j]).toNat : Int) == 101) = true := beq_iff_eq.2 (by have := hlow.2 hD2; omega)
          clear HN HNU hnA hnB hC hD1 hD2 hlow HH
          generalize ((Pl.lowB T[j]).toNat : Int) = LB at *
          rcases hb2 with L1 | ⟨L1, e48⟩
          all_goals
            go_wp2_with fail
            go_quiet ((go_at_call 78; exact Calls.quiet_of_same (dgj _)))
            go_wp2
            go_quiet ((go_at_call 79; refine (lwj _).mono ?_; rintro e w' ⟨rfl, rfl⟩; exact ⟨rfl, _, rfl⟩))
            go_wp2
            obtain ⟨W, hW, hX, hb6⟩ := Jr.six ((HM.out.draw (Jr.grown_drewN _ _)).box.other n2 2 (.bool true)) (.int .i64 0) (.int .i64 0) (.int .u64 0) (.string ⟨#[]⟩) (.slice none 0 0) (.slice none 0 0)
            rw [hW]
            obtain ⟨x0, x1, x2, x3, x4, x5⟩ := hX.cells
            refine bodyPost_ret (v := .agg #[.int .i64 0, .int .i64 0, .int .u64 0, .string ⟨#[]⟩, .slice none 0 0, .slice none 0 0]) (by simp [results, Tryz.results54, go_sem, x0, x1, x2, x3, x4, x5]) rfl ?_
            exact Jp.finbad (Jr.grown_trans (HM.out.draw (Jr.grown_drewN _ _)).grown (Jr.grown_set _ _ _ _)) hb6 hgw ((HM.out.draw (Jr.grown_drewN _ _)).here h3).spoil (fun _ _ q => by cases q)
        have e101 : (((Pl.lowB T[j]).toNat : Int) == 101) = false := beq_eq_false_iff_ne.2 (by have := mt hlow.1 hD2; omega)
        have HOO : Hid (O = if neg = true ∧ X = 0 then some (Js.leaf 3 0 9223372036854775808 ⟨#[]⟩, l1.drop k) else some (Js.leaf 2 (if neg then -(X : Int) else (X : Int)) 0 ⟨#[]⟩, l1.drop k)) := by
          unfold Hid
          rw [HNU.out]
          unfold Js.numOf
          rw [HXX.out, HH.out, if_neg]
          rintro (q | q | q | q | q | q)
          · exact hnA q
          · exact hnB q
          · exact hC q
          · injection q with q; exact hD1 q
          · injection q with q; exact hD2 (.inl q)
          · injection q with q; exact hD2 (.inr q)
        clear HNU hnA hnB hC hD1 hD2 hlow HH
        generalize ((Pl.lowB T[j]).toNat : Int) = LB at *
        cases neg with
        | false =>
          rw [if_neg (fun q => Bool.false_ne_true q.1), if_neg Bool.false_ne_true] at HOO
          rcases hb2 with L1 | ⟨L1, e48⟩
          all_goals
            go_wp2_with fail
            go_quiet ((go_at_call 78; exact Calls.quiet_of_same (dgj _)))
            go_wp2
            go_quiet ((go_at_call 79; refine (lwj _).mono ?_; rintro e w' ⟨rfl, rfl⟩; exact ⟨rfl, _, rfl⟩))
            go_wp2
            obtain ⟨W, hW, hX, hb6⟩ := Jr.six (HM.out.draw (Jr.grown_drewN _ _)).box (.int .i64 2) (.int .i64 (X : Int)) (.int .u64 0) (.string ⟨#[]⟩) (.slice none 0 0) (.slice none 0 0)
            rw [hW]
            obtain ⟨x0, x1, x2, x3, x4, x5⟩ := hX.cells
            refine bodyPost_ret (v := .agg #[.int .i64 2, .int .i64 (X : Int), .int .u64 0, .string ⟨#[]⟩, .slice none 0 0, .slice none 0 0]) (by simp [results, Tryz.results54, go_sem, x0, x1, x2, x3, x4, x5]) rfl ?_
            exact Jp.fin (2) ((X : Int)) 0 ⟨#[]⟩ (by decide) (HM.out.draw (Jr.grown_drewN _ _)).grown hb6 hgw ((HM.out.draw (Jr.grown_drewN _ _)).here h3) (by rw [HOO.out, HDR.out, HJ.out])
        | true =>
          by_cases hX0 : X = 0
          · rw [if_pos ⟨rfl, hX0⟩] at HOO
            have x0' : ((X : Int) == 0) = true := beq_iff_eq.2 (by omega)
            clear hX0
            rcases hb2 with L1 | ⟨L1, e48⟩
            all_goals
              go_wp2_with fail
              go_quiet ((go_at_call 78; exact Calls.quiet_of_same (dgj _)))
              go_wp2
              go_quiet ((go_at_call 79; refine (lwj _).mono ?_; rintro e w' ⟨rfl, rfl⟩; exact ⟨rfl, _, rfl⟩))
              go_wp2
              obtain ⟨W, hW, hX, hb6⟩ := Jr.six (HM.out.draw (Jr.grown_drewN _ _)).box (.int .i64 3) (.int .i64 0) (.int .u64 9223372036854775808) (.string ⟨#[]⟩) (.slice none 0 0) (.slice none 0 0)
              rw [hW]
              obtain ⟨x0, x1, x2, x3, x4, x5⟩ := hX.cells
              refine bodyPost_ret (v := .agg #[.int .i64 3, .int .i64 0, .int .u64 9223372036854775808, .string ⟨#[]⟩, .slice none 0 0, .slice none 0 0]) (by simp [results, Tryz.results54, go_sem, x0, x1, x2, x3, x4, x5]) rfl ?_
              exact Jp.fin (3) (0) 9223372036854775808 ⟨#[]⟩ (by decide) (HM.out.draw (Jr.grown_drewN _ _)).grown hb6 hgw ((HM.out.draw (Jr.grown_drewN _ _)).here h3) (by rw [HOO.out, HDR.out, HJ.out])
          · rw [if_neg (fun q => hX0 q.2), if_pos rfl] at HOO
            have x0' : ((X : Int) == 0) = false := beq_eq_false_iff_ne.2 (by omega)
            rcases hb2 with L1 | ⟨L1, e48⟩
            all_goals
              go_wp2_with fail
              go_quiet ((go_at_call 78; exact Calls.quiet_of_same (dgj _)))
              go_wp2
              go_quiet ((go_at_call 79; refine (lwj _).mono ?_; rintro e w' ⟨rfl, rfl⟩; exact ⟨rfl, _, rfl⟩))
              go_wp2
              obtain ⟨W, hW, hX, hb6⟩ := Jr.six (HM.out.draw (Jr.grown_drewN _ _)).box (.int .i64 2) (.int .i64 (-(X : Int))) (.int .u64 0) (.string ⟨#[]⟩) (.slice none 0 0) (.slice none 0 0)
              rw [hW]
              obtain ⟨x0, x1, x2, x3, x4, x5⟩ := hX.cells
              refine bodyPost_ret (v := .agg #[.int .i64 2, .int .i64 (-(X : Int)), .int .u64 0, .string ⟨#[]⟩, .slice none 0 0, .slice none 0 0]) (by simp [results, Tryz.results54, go_sem, x0, x1, x2, x3, x4, x5]) rfl ?_
              exact Jp.fin (2) (-(X : Int)) 0 ⟨#[]⟩ (by decide) (HM.out.draw (Jr.grown_drewN _ _)).grown hb6 hgw ((HM.out.draw (Jr.grown_drewN _ _)).here h3) (by rw [HOO.out, HDR.out, HJ.out])
    · have d1 : decide ((j : Int) < (T.size : Int)) = false := decide_eq_false (by omega)
      have d1n : decide (j < T.size) = false := decide_eq_false hlt
      have hnil : l1.drop k = [] := by rw [HDR.out]; exact List.drop_eq_nil_of_le (by rw [Wk.len_data]; omega)
      have hdig := Jp.digs HD.out (by rw [hnil]; decide)
      have HH : Hid ((l1.drop k).head? = none) := by unfold Hid; rw [hnil]; rfl
      clear hnil
      rw [hdig.1, hdig.2] at HNU
      clear hdig
      have hlen : (l1.take k).length = k := by
        rw [List.length_take, ← HL1.out, List.length_drop, Wk.len_data]
        omega
      by_cases hA : k = 0
      · have HN : Hid (O = none) := by unfold Hid; rw [HNU.out]; unfold Js.numOf; rw [if_pos (.inl (List.length_eq_zero_iff.1 (by omega)))]
        have e := HN.out
        subst e
        have L0 : (((j : Int) - (i : Int)) == 0) = true := beq_iff_eq.2 (by omega)
        clear HN HNU hA hlen
        go_wp2_with fail
        go_quiet (fail)
        go_wp2
        go_quiet (fail)
        go_wp2
        obtain ⟨W, hW, hX, hb6⟩ := Jr.six ((HM.out.draw (Jr.grown_drewN _ _)).box.other n2 2 (.bool true)) (.int .i64 0) (.int .i64 0) (.int .u64 0) (.string ⟨#[]⟩) (.slice none 0 0) (.slice none 0 0)
        rw [hW]
        obtain ⟨x0, x1, x2, x3, x4, x5⟩ := hX.cells
        refine bodyPost_ret (v := .agg #[.int .i64 0, .int .i64 0, .int .u64 0, .string ⟨#[]⟩, .slice none 0 0, .slice none 0 0]) (by simp [results, Tryz.results54, go_sem, x0, x1, x2, x3, x4, x5]) rfl ?_
        exact Jp.finbad (Jr.grown_trans (HM.out.draw (Jr.grown_drewN _ _)).grown (Jr.grown_set _ _ _ _)) hb6 hgw ((HM.out.draw (Jr.grown_drewN _ _)).here h3).spoil (fun _ _ q => by cases q)
      have hi : i < T.size := by omega
      have L0 : (((j : Int) - (i : Int)) == 0) = false := beq_eq_false_iff_ne.2 (by omega)
      have hhd : (l1.take k).head? = some T[i] := by
        have e : l1 = T[i] :: T.data.toList.drop (i + 1) := by rw [← HL1.out]; exact List.drop_eq_getElem_cons (by rw [Wk.len_data]; exact hi)
        rw [e]
        cases k with
        | zero => exact absurd rfl hA
        | succ k => rfl
      by_cases hB : 1 < k ∧ T[i] = 48
      · have HN : Hid (O = none) := by unfold Hid; rw [HNU.out]; unfold Js.numOf; rw [if_pos (.inr (.inl ⟨by omega, by rw [hhd, hB.2]⟩))]
        have e := HN.out
        subst e
        have L1 : decide ((1 : Int) < (j : Int) - (i : Int)) = true := decide_eq_true (by have := hB.1; omega)
        have e48 : ((T[i].toNat : Int) == 48) = true := beq_iff_eq.2 (by rw [hB.2]; rfl)
        clear HN HNU hA hlen hhd hB
        go_wp2_with fail
        go_quiet (fail)
        go_wp2
        go_quiet (fail)
        go_wp2
        obtain ⟨W, hW, hX, hb6⟩ := Jr.six ((HM.out.draw (Jr.grown_drewN _ _)).box.other n2 2 (.bool true)) (.int .i64 0) (.int .i64 0) (.int .u64 0) (.string ⟨#[]⟩) (.slice none 0 0) (.slice none 0 0)
        rw [hW]
        obtain ⟨x0, x1, x2, x3, x4, x5⟩ := hX.cells
        refine bodyPost_ret (v := .agg #[.int .i64 0, .int .i64 0, .int .u64 0, .string ⟨#[]⟩, .slice none 0 0, .slice none 0 0]) (by simp [results, Tryz.results54, go_sem, x0, x1, x2, x3, x4, x5]) rfl ?_
        exact Jp.finbad (Jr.grown_trans (HM.out.draw (Jr.grown_drewN _ _)).grown (Jr.grown_set _ _ _ _)) hb6 hgw ((HM.out.draw (Jr.grown_drewN _ _)).here h3).spoil (fun _ _ q => by cases q)
      have hb2 : decide ((1 : Int) < (j : Int) - (i : Int)) = false ∨ (decide ((1 : Int) < (j : Int) - (i : Int)) = true ∧ ((T[i].toNat : Int) == 48) = false) := by
        by_cases q : 1 < k
        · exact .inr ⟨decide_eq_true (by omega), (Jr.eq_dec T[i] 48).trans (decide_eq_false fun q2 => hB ⟨q, q2⟩)⟩
        · exact .inl (decide_eq_false (by omega))
      have hnB : ¬ (1 < (l1.take k).length ∧ (l1.take k).head? = some 48) := fun ⟨q1, q2⟩ => hB ⟨by omega, by rw [hhd] at q2; injection q2⟩
      have hnA : ¬ l1.take k = [] := fun q => hA (by rw [q] at hlen; simpa using hlen.symm)
      clear hA hB hhd hlen
      by_cases hC : 9007199254740991 < X
      · have HN : Hid (O = none) := by unfold Hid; rw [HNU.out]; unfold Js.numOf; rw [if_pos (.inr (.inr (.inl (by rw [HXX.out]; exact hC))))]
        have e := HN.out
        subst e
        have dM : decide ((9007199254740991 : Int) < (X : Int)) = true := decide_eq_true (by omega)
        clear HN HNU hnA hnB hC
        rcases hb2 with L1 | ⟨L1, e48⟩
        all_goals
          go_wp2_with fail
          go_quiet (fail)
          go_wp2
          go_quiet (fail)
          go_wp2
          obtain ⟨W, hW, hX, hb6⟩ := Jr.six ((HM.out.draw (Jr.grown_drewN _ _)).box.other n2 2 (.bool true)) (.int .i64 0) (.int .i64 0) (.int .u64 0) (.string ⟨#[]⟩) (.slice none 0 0) (.slice none 0 0)
          rw [hW]
          obtain ⟨x0, x1, x2, x3, x4, x5⟩ := hX.cells
          refine bodyPost_ret (v := .agg #[.int .i64 0, .int .i64 0, .int .u64 0, .string ⟨#[]⟩, .slice none 0 0, .slice none 0 0]) (by simp [results, Tryz.results54, go_sem, x0, x1, x2, x3, x4, x5]) rfl ?_
          exact Jp.finbad (Jr.grown_trans (HM.out.draw (Jr.grown_drewN _ _)).grown (Jr.grown_set _ _ _ _)) hb6 hgw ((HM.out.draw (Jr.grown_drewN _ _)).here h3).spoil (fun _ _ q => by cases q)
      have dM : decide ((9007199254740991 : Int) < (X : Int)) = false := decide_eq_false (by omega)
      have HOO : Hid (O = if neg = true ∧ X = 0 then some (Js.leaf 3 0 9223372036854775808 ⟨#[]⟩, l1.drop k) else some (Js.leaf 2 (if neg then -(X : Int) else (X : Int)) 0 ⟨#[]⟩, l1.drop k)) := by
        unfold Hid
        rw [HNU.out]
        unfold Js.numOf
        rw [HXX.out, HH.out, if_neg]
        rintro (q | q | q | q | q | q)
        · exact hnA q
        · exact hnB q
        · exact hC q
        · cases q
        · cases q
        · cases q
      clear HNU hnA hnB hC HH
      cases neg with
      | false =>
        rw [if_neg (fun q => Bool.false_ne_true q.1), if_neg Bool.false_ne_true] at HOO
        rcases hb2 with L1 | ⟨L1, e48⟩
        all_goals
          go_wp2_with fail
          go_quiet (fail)
          go_wp2
          go_quiet (fail)
          go_wp2
          obtain ⟨W, hW, hX, hb6⟩ := Jr.six (HM.out.draw (Jr.grown_drewN _ _)).box (.int .i64 2) (.int .i64 (X : Int)) (.int .u64 0) (.string ⟨#[]⟩) (.slice none 0 0) (.slice none 0 0)
          rw [hW]
          obtain ⟨x0, x1, x2, x3, x4, x5⟩ := hX.cells
          refine bodyPost_ret (v := .agg #[.int .i64 2, .int .i64 (X : Int), .int .u64 0, .string ⟨#[]⟩, .slice none 0 0, .slice none 0 0]) (by simp [results, Tryz.results54, go_sem, x0, x1, x2, x3, x4, x5]) rfl ?_
          exact Jp.fin (2) ((X : Int)) 0 ⟨#[]⟩ (by decide) (HM.out.draw (Jr.grown_drewN _ _)).grown hb6 hgw ((HM.out.draw (Jr.grown_drewN _ _)).here h3) (by rw [HOO.out, HDR.out, HJ.out])
      | true =>
        by_cases hX0 : X = 0
        · rw [if_pos ⟨rfl, hX0⟩] at HOO
          have x0' : ((X : Int) == 0) = true := beq_iff_eq.2 (by omega)
          clear hX0
          rcases hb2 with L1 | ⟨L1, e48⟩
          all_goals
            go_wp2_with fail
            go_quiet (fail)
            go_wp2
            go_quiet (fail)
            go_wp2
            obtain ⟨W, hW, hX, hb6⟩ := Jr.six (HM.out.draw (Jr.grown_drewN _ _)).box (.int .i64 3) (.int .i64 0) (.int .u64 9223372036854775808) (.string ⟨#[]⟩) (.slice none 0 0) (.slice none 0 0)
            rw [hW]
            obtain ⟨x0, x1, x2, x3, x4, x5⟩ := hX.cells
            refine bodyPost_ret (v := .agg #[.int .i64 3, .int .i64 0, .int .u64 9223372036854775808, .string ⟨#[]⟩, .slice none 0 0, .slice none 0 0]) (by simp [results, Tryz.results54, go_sem, x0, x1, x2, x3, x4, x5]) rfl ?_
            exact Jp.fin (3) (0) 9223372036854775808 ⟨#[]⟩ (by decide) (HM.out.draw (Jr.grown_drewN _ _)).grown hb6 hgw ((HM.out.draw (Jr.grown_drewN _ _)).here h3) (by rw [HOO.out, HDR.out, HJ.out])
        · rw [if_neg (fun q => hX0 q.2), if_pos rfl] at HOO
          have x0' : ((X : Int) == 0) = false := beq_eq_false_iff_ne.2 (by omega)
          rcases hb2 with L1 | ⟨L1, e48⟩
          all_goals
            go_wp2_with fail
            go_quiet (fail)
            go_wp2
            go_quiet (fail)
            go_wp2
            obtain ⟨W, hW, hX, hb6⟩ := Jr.six (HM.out.draw (Jr.grown_drewN _ _)).box (.int .i64 2) (.int .i64 (-(X : Int))) (.int .u64 0) (.string ⟨#[]⟩) (.slice none 0 0) (.slice none 0 0)
            rw [hW]
            obtain ⟨x0, x1, x2, x3, x4, x5⟩ := hX.cells
            refine bodyPost_ret (v := .agg #[.int .i64 2, .int .i64 (-(X : Int)), .int .u64 0, .string ⟨#[]⟩, .slice none 0 0, .slice none 0 0]) (by simp [results, Tryz.results54, go_sem, x0, x1, x2, x3, x4, x5]) rfl ?_
            exact Jp.fin (2) (-(X : Int)) 0 ⟨#[]⟩ (by decide) (HM.out.draw (Jr.grown_drewN _ _)).grown hb6 hgw ((HM.out.draw (Jr.grown_drewN _ _)).here h3) (by rw [HOO.out, HDR.out, HJ.out])
end Go.Proofs.YtboalkfagfgnpaaGreatDoor

/-
  THE WALK of the reference's reader: text.
-/
import Derived.Test.YtboalkfagfgnpaaGreatDoorCJPd
import Derived.Test.YtboalkfagfgnpaaGreatDoorCJBacktoJEscR
import Derived.Test.YtboalkfagfgnpaaGreatDoorCSize
import Derived.Deep.RegionHeldLaw
import Derived.Test.YtboalkfagfgnpaaGreatDoorCRToktoQPlain
namespace Go.Proofs.YtboalkfagfgnpaaGreatDoor
open Go.RowKit
/-- how far it is to the end -/
def Jp.mea (g : Nat) (T : ByteArray) (u : World) : Nat := match u.cell? ⟨g, 2, none⟩ with | some (.bool true) => 0 | _ => Jr.rem g T u + 1
theorem Jp.mea_bad {u : World} {g : Nat} {T : ByteArray} {l : List UInt8} (h : Jp.Rd u g T l true) : Jp.mea g T u = 0 := by
  obtain ⟨i, _, _, _, hB⟩ := h
  unfold Jp.mea
  rw [show u.cell? ⟨g, 2, none⟩ = some (.bool true) from hB.cell 2 rfl]
theorem Jp.mea_good {u : World} {g : Nat} {T : ByteArray} {l : List UInt8} (h : Jp.Rd u g T l false) : Jp.mea g T u = l.length + 1 := by
  have e := Jp.rem_eq h
  obtain ⟨i, _, _, _, hB⟩ := h
  unfold Jp.mea
  rw [show u.cell? ⟨g, 2, none⟩ = some (.bool false) from hB.cell 2 rfl, e]
theorem Jp.run0 (w : World) (t ty e : TypeId) (i : TypeInfo) (ht : Tryz.prog.underlying t = some (.slice e)) (hi : Tryz.prog.info? e = some i) (v : Option Addr) (n c : Nat) (hc : n ≤ c) (ak : Option Addr) (d : Nat) :
    (Builtin.append_ #[t, t] ty #[.slice v n c, .slice ak 0 d]).run Tryz.prog w = .ok (.slice v n c) w := by
  cases v with
  | none => cases ak with
    | none => simp [Builtin.append_, run_underlying ht, sizeOf, typeInfo, hi, Builtin.lenOf, Builtin.firstCells, hc]
    | some a => simp [Builtin.append_, run_underlying ht, sizeOf, typeInfo, hi, Builtin.lenOf, Builtin.firstCells, loadCells, loadCellsFrom, hc]
  | some a => cases ak with
    | none => simp [Builtin.append_, run_underlying ht, sizeOf, typeInfo, hi, Builtin.lenOf, Builtin.firstCells, storeCells, hc]
    | some a => simp [Builtin.append_, run_underlying ht, sizeOf, typeInfo, hi, Builtin.lenOf, Builtin.firstCells, loadCells, loadCellsFrom, storeCells, hc]
/-- 'append(row, v...)', v a row of its own -/
theorem Jp.pushR {w : World} {ops : Array Oper} {rest : List Oper} {o : Oper} {a : Act} {Z : Exit → Act → World → Prop} (hgd : o.guard = none) (s x : Operand)
    (ho : o.op = .call { callee := .builtin .append, args := #[s, x], argTypes := #[44, 44] })
    {base base2 : Nat} {acc b : List UInt8} (v vb : Value) (hs : a.eval s = v) (hown : w.ownsRow base 5 1 v acc.length (Lib.byteCells acc)) (hx : a.eval x = vb) (hb : w.ownsRow base2 5 1 vb b.length (Lib.byteCells b))
    (hn : acc.length + b.length ≤ 140737488355328) (hbase : base ≤ w.heap.size)
    (h : ∀ v' w', w'.ownsRow base 5 1 v' (acc ++ b).length (Lib.byteCells (acc ++ b)) → w.grownBy w' v.ownBlock → wpList Tryz.prog ops Z rest (a.put o.dst v') w') : wpList Tryz.prog ops Z (o :: rest) a w := by
  refine wpList_plain hgd fun K hK => ?_
  obtain ⟨iV, hiV, hzV, hsV, hbV⟩ := info_parts Rb.info
  obtain ⟨ab, db, rfl, hb1, hb2, _, hrow⟩ := Vc.row_form hb
  by_cases h0 : b = []
  · subst h0
    obtain ⟨av, dv, rfl, hv1, _⟩ := Vc.row_form hown
    have hr := Jp.run0 w 44 o.type 5 iV Tryz.underlying44 hiV av acc.length dv hv1 ab db
    unfold Oper.wp execOp
    simp only [ho, resolve, invoke, builtin, Sem.run_bind, Sem.run_pure, Result.andThen_ok, List.map_toArray, List.map_cons, List.map_nil, hs, hx, List.length_nil, hr]
    exact hK _ _ (h _ w (by rw [List.append_nil]; exact hown) ⟨rfl, rfl, rfl, Nat.le_refl _, fun _ _ _ => rfl⟩)
  · have hpos : 0 < b.length := List.length_pos_iff.2 h0
    obtain ⟨g1, cur, rfl, _, _, hg, _, hj⟩ := hrow hpos
    have hone : ∀ u ∈ Lib.byteCells b, u.oneCell' = true := by
      intro u hu
      simp only [Lib.byteCells, List.mem_map] at hu
      obtain ⟨c, _, rfl⟩ := hu
      rfl
    have hl : (Lib.byteCells b).length = b.length * 1 := by rw [Lib.byteCells_length, Nat.mul_one]
    have hcell : ∀ j u, (Lib.byteCells b)[j]? = some u → w.cell? ((⟨g1, 0, none⟩ : Addr).add j) = some u := fun j u hu => by
      have e : (⟨g1, 0, none⟩ : Addr).add j = ⟨g1, j, none⟩ := by cases j <;> simp [Addr.add]
      rw [e]
      exact Vm.boxCell hg j (hj j u hu)
    obtain ⟨v', w', hr, h2, h3, h4⟩ := run_append_own (P := Tryz.prog) w base 44 o.type 5 iV _ 1 1 Tryz.underlying44 hiV hzV hsV hbV rfl (by decide) v acc.length (Lib.byteCells acc) hown ⟨g1, 0, none⟩ b.length db (Lib.byteCells b) hl hcell hone (by unfold maxLen; omega) (by omega) hbase
    unfold Oper.wp execOp
    simp only [ho, resolve, invoke, builtin, Sem.run_bind, Sem.run_pure, Result.andThen_ok, List.map_toArray, List.map_cons, List.map_nil, hs, hx, hr]
    refine hK _ _ (h v' w' ?_ h3)
    rw [List.length_append, Lib.byteCells_append]
    exact h2
/-- 'append(row, text...)' at a step of a region that draws -/
theorem Jp.stepS {w : World} {ops : Array Oper} {o : Oper} {a : Act} {K : Act → World → Prop} {E : Prop} {Z : Exit → Act → World → Prop} (hgd : o.guard = none) (s x : Operand)
    (ho : o.op = .call { callee := .builtin .append, args := #[s, x], argTypes := #[44, 9] })
    {base : Nat} {acc : List UInt8} (v : Value) (hs : a.eval s = v) (hown : w.ownsRow base 5 1 v acc.length (Lib.byteCells acc)) (t : ByteArray) (hx : a.eval x = .string t)
    (hn : acc.length + t.size ≤ 140737488355328) (hbase : base ≤ w.heap.size)
    (h : ∀ v' w', w'.ownsRow base 5 1 v' (acc ++ t.data.toList).length (Lib.byteCells (acc ++ t.data.toList)) → w.grownBy w' v.ownBlock → K (a.put o.dst v') w') : if Region.wanted o (yielded ops a.tmps) = true then Oper.wp Tryz.prog o a w K Z else E := by
  rw [if_pos (by simp [Region.wanted, hgd])]
  obtain ⟨iV, hiV, hzV, hsV, hbV⟩ := info_parts Rb.info
  obtain ⟨v', w', hr, h2, h3, h4⟩ := Lib.run_append_own_string (P := Tryz.prog) w base 44 9 o.type 5 iV Tryz.underlying44 Tryz.underlying9 hiV hzV hsV hbV v acc.length (Lib.byteCells acc) hown t (by unfold maxLen; omega) hn hbase
  unfold Oper.wp execOp
  simp only [ho, resolve, invoke, builtin, Sem.run_bind, Sem.run_pure, Result.andThen_ok, List.map_toArray, List.map_cons, List.map_nil, hs, hx, hr]
  refine h v' w' ?_ h3
  have e : Lib.byteCells (acc ++ t.data.toList) = Lib.byteCells acc ++ Lib.strCells t := by
    rw [Lib.byteCells_append]
    congr 1
  rw [e, List.length_append, Array.length_toList]
  exact h2
end Go.Proofs.YtboalkfagfgnpaaGreatDoor
/-
  THE WALK of the reference's reader: text.
-/
namespace Go.Proofs.YtboalkfagfgnpaaGreatDoor
open Go.RowKit
theorem Jp.row_grown {w w' : World} {B : Nat} {ty : TypeId} {sz : Nat} {v : Value} {n : Nat} {xs : List Value} {g : Nat} (h : w.ownsRow B ty sz v n xs) (hb : w.grownBy w' (some g)) (hg : g < B) : w'.ownsRow B ty sz v n xs :=
  Jr.own_kept h fun k hk => hb.block k (h.lt k hk).2 (fun q => by injection q with q; have := (h.lt k hk).1; omega)
/-- a row that grows, seen from the reader's entry -/
theorem Jp.grown_row {a b c : World} {g B : Nat} {v : Value} {n : Nat} {xs : List Value} {ty : TypeId} {sz : Nat} (h : a.grownBy b (some g)) (hr : b.ownsRow B ty sz v n xs) (k : b.grownBy c v.ownBlock) (hB : a.heap.size ≤ B) : a.grownBy c (some g) :=
  ⟨k.os.trans h.os, k.tape.trans h.tape, k.output.trans h.output, Nat.le_trans h.size k.size, fun i hi hne => (k.block i (Nat.lt_of_lt_of_le hi h.size) (fun q => by have := (hr.lt i q.symm).1; omega)).trans (h.block i hi hne)⟩
theorem Jp.Rd.row {b c : World} {g B : Nat} {v : Value} {n : Nat} {xs : List Value} {ty : TypeId} {sz : Nat} {T : ByteArray} {l : List UInt8} {bad : Bool} (h : Jp.Rd b g T l bad) (hr : b.ownsRow B ty sz v n xs) (k : b.grownBy c v.ownBlock) (hg : g < B) : Jp.Rd c g T l bad := by
  obtain ⟨i, h1, h2, h3, hB⟩ := h
  exact ⟨i, h1, h2, h3, (k.block g hB.lt (fun q => by have := (hr.lt g q.symm).1; omega)).trans hB⟩
set_option maxRecDepth 100000 in
set_option maxHeartbeats 4000000 in
theorem Jp.text (l : List UInt8) (g : Nat) (T : ByteArray) (w : World) (h : Jp.Rd w g T l false) :
    Calls Tryz.prog 52 #[.pointer (some ⟨g, 0, none⟩)] w (Jp.Out (Js.text l) (fun b => .string ⟨b.toArray⟩) (.string ⟨#[]⟩) false w g T) := by
  obtain ⟨O, hO⟩ : ∃ O, Js.text l = O := ⟨_, rfl⟩
  rw [hO]
  have HO := Lib.hid hO
  have HR := Lib.hid h
  have hgw := h.lt
  have HLN := Lib.hid h.len
  clear hO h
  have esc := fun l u q => Jp.escaped l g T u q
  go_enter Tryz.func52, Tryz.ntmps52
  go_wp2_with fail
  go_loopw [3] (fun ov wr => ∃ (acc l' : List UInt8) (bad : Bool), Hid (if bad = true then O = none else (Js.text l').map (fun p => (acc ++ p.1, p.2)) = O) ∧ Hid (bad = true ∨ acc.length + 4 * l'.length ≤ 1048576) ∧ Hid (wr.ownsRow w.heap.size 5 1 ov acc.length (Lib.byteCells acc)) ∧ Hid (Jp.Rd wr g T l' bad) ∧ Hid (w.grownBy wr (some g))) (fun _ wr => Jp.mea g T wr)
  case atStart => exact ⟨[], l, false, by unfold Hid; rw [if_neg Bool.false_ne_true, HO.out]; cases O <;> rfl, by have := HLN.out; unfold Hid; right; simp; omega, World.ownsRow_nil _ _ _ _, HR, World.grownBy.refl _ _⟩
  case round =>
    clear HO HR HLN
    obtain ⟨acc, l', bad, HO, HN, HOW, HR, HG⟩ := hrel
    obtain ⟨oa, od, rfl⟩ := Rb.form HOW.out
    obtain ⟨i, h1, h2, h3, hB⟩ := HR.out
    have c0 : wr.cell? ⟨g, 0, none⟩ = some (.string T) := hB.cell 0 rfl
    have c1 : wr.cell? ⟨g, 1, none⟩ = some (.int .i64 (i : Int)) := hB.cell 1 rfl
    have c2 : wr.cell? ⟨g, 2, none⟩ = some (.bool bad) := hB.cell 2 rfl
    have f1 := hB.frozen 1
    have f2 := hB.frozen 2
    have HB := Lib.hid hB
    clear hB
    cases bad with
    | true =>
      have e : O = none := by have := HO.out; rw [if_pos rfl] at this; exact this
      subst e
      clear HO h2
      go_wp2_with fail
      go_quiet (fail)
      go_wp2
      go_ret
      exact ⟨Jr.grown_trans HG.out (Jr.grown_trans (Jr.grown_some (Jr.grown_drewN _ _) _) (Jr.grown_set _ _ _ _)), rfl, _, (HR.out.on (Jr.grown_drewN _ _)).spoil⟩
    | false =>
      replace HO : Hid ((Js.text l').map (fun p => (acc ++ p.1, p.2)) = O) := by have := HO.out; rw [if_neg Bool.false_ne_true] at this; exact this
      have HMG := Lib.hid (Jp.mea_good HR.out)
      replace HN : Hid (acc.length + 4 * l'.length ≤ 1048576) := HN.out.resolve_left Bool.false_ne_true
      cases l' with
      | nil =>
        have e : none = O := HO.out
        subst e
        have e := Jr.at_end h1 h2
        have d1 : decide ((i : Int) < (T.size : Int)) = false := decide_eq_false (by omega)
        have d1n : decide (i < T.size) = false := decide_eq_false (by omega)
        clear HO h2 e
        go_wp2_with fail
        go_quiet (fail)
        go_wp2
        go_ret
        exact ⟨Jr.grown_trans HG.out (Jr.grown_trans (Jr.grown_some (Jr.grown_drewN _ _) _) (Jr.grown_set _ _ _ _)), rfl, _, (HR.out.on (Jr.grown_drewN _ _)).spoil⟩
      | cons c r =>
        obtain ⟨hlt, he, hr⟩ := Jr.at_byte h2
        have d1 : decide ((i : Int) < (T.size : Int)) = true := decide_eq_true (by omega)
        have d1n : decide (i < T.size) = true := decide_eq_true (by omega)
        have e34 : ((T[i].toNat : Int) == 34) = decide (c = 34) := by rw [he]; exact Jr.eq_dec c 34
        have e92 : ((T[i].toNat : Int) == 92) = decide (c = 92) := by rw [he]; exact Jr.eq_dec c 92
        have HRR := Lib.hid hr
        have sz := Sz.size T i hlt (by omega)
        rw [h2] at sz
        have HE := Lib.hid he
        clear hr he h2
        by_cases h34 : c = 34
        · rw [decide_eq_true h34] at e34
          have e : some (acc, r) = O := by
            have := HO.out
            rw [h34, Js.text_quote, Option.map_some, List.append_nil] at this
            exact this
          subst e
          have hcv := fun n : Nat => Rn.conv (Jp.row_grown (g := g) HOW.out (Jr.grown_trans (Jr.grown_some (Jr.grown_drewN wr n) _) (Jr.grown_set _ g 1 (.int .i64 ((i : Int) + 1)))) hgw)
          clear HO h34 e92 sz
          go_wp2_with fail
          go_quiet (fail)
          go_wp2
          go_quiet (fail)
          go_wp2
          go_ret
          exact ⟨Jr.grown_trans HG.out (Jr.grown_trans (Jr.grown_some (Jr.grown_drewN _ _) _) (Jr.grown_set _ _ _ _)), rfl, Jp.Rd.step1 h3 HB.out (Jr.grown_drewN _ _) hlt HRR.out.symm⟩
        · rw [decide_eq_false h34] at e34
          by_cases h92 : c = 92
          · rw [decide_eq_true h92] at e92
            have es := esc r
            have HW1 : Hid (∀ n, Jp.Rd ((wr.drewN n).setCell ⟨g, 1, none⟩ (.int .i64 ((i : Int) + 1))) g T r false) := fun n => Jp.Rd.step1 h3 HB.out (Jr.grown_drewN _ _) hlt HRR.out.symm
            have HG1 : Hid (∀ n, wr.grownBy ((wr.drewN n).setCell ⟨g, 1, none⟩ (.int .i64 ((i : Int) + 1))) (some g)) := fun n => Jr.grown_trans (Jr.grown_some (Jr.grown_drewN _ _) _) (Jr.grown_set _ _ _ _)
            rw [h92] at HO
            have HNN := Lib.hid HN.out
            clear h34 h92
            cases hes : Js.escaped r with
            | none =>
              rw [hes] at es
              have e : none = O := by have := HO.out; rw [Js.text_noesc hes] at this; exact this
              subst e
              clear HO hes
              go_wp2_with fail
              go_quiet (fail)
              go_wp2
              go_quiet (fail)
              go_wp2
              go_quiet ((go_at_call 55; refine (sz _).mono ?_; rintro e w' ⟨rfl, rfl⟩; exact ⟨rfl, _, rfl⟩))
              go_wp2_with (first | (go_at_call 76; refine (es _ (HW1.out _)).mono ?_; rintro e w4 ⟨v4, b4, rfl, R4, hb4, G4, r4, M4⟩; obtain ⟨a4, d4, rfl⟩ := Rb.form R4; have HG4 := Lib.hid (Jr.grown_trans HG.out (Jr.grown_trans (HG1.out _) G4)); have HO4 := Lib.hid (Jp.row_grown HOW.out (Jr.grown_trans (HG1.out _) G4) hgw); have HR4 := Lib.hid M4; have HV4 := Lib.hid R4; have HL4 := Lib.hid hb4; clear R4 hb4 G4 M4 es) | (at_builtin; refine Jp.pushR rfl _ _ rfl (.slice oa acc.length od) (.slice a4 b4.length d4) rfl HO4.out rfl HV4.out (by have := HNN.out; have := HL4.out; omega) HG4.out.size ?_; intro v5 w5 R5 G5; have HG5 := Lib.hid (Jp.grown_row HG4.out HO4.out G5 (Nat.le_refl _)); have HR5 := Lib.hid (HR4.out.row HO4.out G5 hgw); have HO5 := Lib.hid R5; clear R5 G5))
              go_roundw
              case rel => exact ⟨acc ++ b4, r4, true, by unfold Hid; simp, .inl rfl, HO5, HR5, HG5⟩
              case measure => rw [Jp.mea_bad HR5.out, HMG.out]; exact Nat.succ_pos _
            | some q =>
              obtain ⟨b1, r1⟩ := q
              rw [hes] at es
              have hel := Js.escaped_len hes
              have HO2 : Hid ((Js.text r1).map (fun p => ((acc ++ b1) ++ p.1, p.2)) = O) := by
                have := HO.out
                rw [Js.text_esc hes] at this
                unfold Hid
                rw [← this]
                cases Js.text r1 <;> simp
              have HEL := Lib.hid hel
              clear HO hes hel
              go_wp2_with fail
              go_quiet (fail)
              go_wp2
              go_quiet (fail)
              go_wp2
              go_quiet ((go_at_call 55; refine (sz _).mono ?_; rintro e w' ⟨rfl, rfl⟩; exact ⟨rfl, _, rfl⟩))
              go_wp2_with (first | (go_at_call 76; refine (es _ (HW1.out _)).mono ?_; rintro e w4 ⟨v4, b4, rfl, R4, hb4, G4, rfl, M4⟩; obtain ⟨a4, d4, rfl⟩ := Rb.form R4; have HG4 := Lib.hid (Jr.grown_trans HG.out (Jr.grown_trans (HG1.out _) G4)); have HO4 := Lib.hid (Jp.row_grown HOW.out (Jr.grown_trans (HG1.out _) G4) hgw); have HR4 := Lib.hid M4; have HV4 := Lib.hid R4; have HL4 := Lib.hid hb4; clear R4 hb4 G4 M4 es) | (at_builtin; refine Jp.pushR rfl _ _ rfl (.slice oa acc.length od) (.slice a4 b4.length d4) rfl HO4.out rfl HV4.out (by have := HNN.out; have := HL4.out; omega) HG4.out.size ?_; intro v5 w5 R5 G5; have HG5 := Lib.hid (Jp.grown_row HG4.out HO4.out G5 (Nat.le_refl _)); have HR5 := Lib.hid (HR4.out.row HO4.out G5 hgw); have HO5 := Lib.hid R5; clear R5 G5))
              go_roundw
              case rel => exact ⟨acc ++ b4, r1, false, by unfold Hid; rw [if_neg Bool.false_ne_true]; exact HO2.out, by have h6 := HNN.out; have h7 := HL4.out; have h8 := HEL.out; unfold Hid; right; rw [List.length_append]; simp only [List.length_cons] at *; omega, HO5, HR5, HG5⟩
              case measure => rw [Jp.mea_good HR5.out, HMG.out]; have h8 := HEL.out; simp only [List.length_cons] at *; omega
          · rw [decide_eq_false h92] at e92
            have hsl := Pl.sgn_le (c :: r)
            have hdr : T.data.toList.drop i = c :: r := by
              rw [List.drop_eq_getElem_cons (by rw [Wk.len_data]; exact hlt)]
              rw [HRR.out]
              congr 1
            have hln : (c :: r).length = T.size - i := by rw [← hdr, List.length_drop, Wk.len_data]
            by_cases hbad : c.toNat < 32 ∨ Pl.sgn (c :: r) = 0
            · have e : none = O := by have := HO.out; rw [Js.text_bad h34 h92 hbad] at this; exact this
              subst e
              by_cases h32 : c.toNat < 32
              · have d32 : decide ((T[i].toNat : Int) < 32) = true := by rw [HE.out]; exact decide_eq_true (by omega)
                clear HO h34 h92 hbad h32 hsl hdr hln
                generalize Pl.siz (c :: r) = K at *
                go_wp2_with fail
                go_quiet (fail)
                go_wp2
                go_quiet (fail)
                go_wp2
                go_quiet ((go_at_call 55; refine (sz _).mono ?_; rintro e w' ⟨rfl, rfl⟩; exact ⟨rfl, _, rfl⟩))
                go_wp2
                go_roundw
                case rel => exact ⟨acc, c :: r, true, by unfold Hid; simp, .inl rfl, Jp.row_grown HOW.out (Jr.grown_trans (Jr.grown_some (Jr.grown_drewN _ _) _) (Jr.grown_set _ _ _ _)) hgw, (HR.out.on (Jr.grown_drewN _ _)).spoil, Jr.grown_trans HG.out (Jr.grown_trans (Jr.grown_some (Jr.grown_drewN _ _) _) (Jr.grown_set _ _ _ _))⟩
                case measure => rw [Jp.mea_bad ((HR.out.on (Jr.grown_drewN _ _)).spoil), HMG.out]; exact Nat.succ_pos _
              · have d32 : decide ((T[i].toNat : Int) < 32) = false := by rw [HE.out]; exact decide_eq_false (by omega)
                have hk0 : Pl.siz (c :: r) = 0 := by
                  have h7 := (Sz.both (c :: r)).2 (hbad.resolve_left h32)
                  rcases h7 with q | q
                  · exact q
                  · exact absurd (show c.toNat = 0 from q) (by omega)
                rw [hk0] at sz
                clear HO h34 h92 hbad h32 hsl hdr hln hk0
                go_wp2_with fail
                go_quiet (fail)
                go_wp2
                go_quiet (fail)
                go_wp2
                go_quiet ((go_at_call 55; refine (sz _).mono ?_; rintro e w' ⟨rfl, rfl⟩; exact ⟨rfl, _, rfl⟩))
                go_wp2
                go_roundw
                case rel => exact ⟨acc, c :: r, true, by unfold Hid; simp, .inl rfl, Jp.row_grown HOW.out (Jr.grown_trans (Jr.grown_some (Jr.grown_drewN _ _) _) (Jr.grown_set _ _ _ _)) hgw, (HR.out.on (Jr.grown_drewN _ _)).spoil, Jr.grown_trans HG.out (Jr.grown_trans (Jr.grown_some (Jr.grown_drewN _ _) _) (Jr.grown_set _ _ _ _))⟩
                case measure => rw [Jp.mea_bad ((HR.out.on (Jr.grown_drewN _ _)).spoil), HMG.out]; exact Nat.succ_pos _
            · have h32 : ¬ c.toNat < 32 := fun q => hbad (.inl q)
              have hs0 : Pl.sgn (c :: r) ≠ 0 := fun q => hbad (.inr q)
              have d32 : decide ((T[i].toNat : Int) < 32) = false := by rw [HE.out]; exact decide_eq_false (by omega)
              have hO2 := HO.out
              rw [Js.text_sign h34 h92 h32 hs0] at hO2
              rw [Sz.same _ hs0] at sz
              generalize Pl.sgn (c :: r) = k at *
              have hk0 : ((k : Int) == 0) = false := beq_eq_false_iff_ne.2 (by omega)
              have hik : i + k ≤ T.size := by omega
              have hcut := fun u => Wk.run_cut u T (i : Int) ((i : Int) + (k : Int)) (by omega) (by omega) (by omega)
              have ei : ((i : Int)).toNat = i := by omega
              have ej : ((i : Int) + (k : Int)).toNat = i + k := by omega
              rw [ei, ej] at hcut
              have hpd := Wk.part_data T i k
              have hps := Wk.part_size T i k hik
              rw [hdr] at hpd
              generalize T.extract i (i + k) = X at *
              have hcut2 : ∀ u, (Instr.slice 9 (.string T) (some (.int .i64 (i : Int))) (some (.int .i64 (IntKind.i64.wrap ((i : Int) + (k : Int))))) none).run Tryz.prog u = .ok (.string X) u := fun u => by rw [show IntKind.i64.wrap ((i : Int) + (k : Int)) = (i : Int) + (k : Int) by rw [IntKind.wrap_i64]; omega]; exact hcut u
              have HO2 : Hid ((Js.text ((c :: r).drop k)).map (fun p => ((acc ++ X.data.toList) ++ p.1, p.2)) = O) := by
                unfold Hid
                rw [← hO2, hpd]
                cases Js.text ((c :: r).drop k) <;> simp
              have HST : Hid ((c :: r).drop k = T.data.toList.drop (i + k)) := by unfold Hid; rw [← hdr, List.drop_drop]
              have HNN := Lib.hid HN.out
              have HK0 : Hid (k ≠ 0 ∧ k ≤ (c :: r).length) := ⟨hs0, hsl⟩
              have HXL : Hid (X.data.toList.length = k) := by unfold Hid; rw [Wk.len_data]; exact hps
              clear HO h34 h92 hbad h32 hsl hdr hln hO2 hpd hs0 ei ej
              go_wp2_with fail
              go_quiet (fail)
              go_wp2
              go_quiet (fail)
              go_wp2
              go_quiet ((go_at_call 55; refine (sz _).mono ?_; rintro e w' ⟨rfl, rfl⟩; exact ⟨rfl, _, rfl⟩))
              go_wp2_with fail
              have c0' : ∀ n, (wr.drewN n).cell? ⟨g, 0, none⟩ = some (.string T) := fun n => c0
              have c1' : ∀ n, (wr.drewN n).cell? ⟨g, 1, none⟩ = some (.int .i64 (i : Int)) := fun n => c1
              go_region_held_law (fun u => u.cell? ⟨g, 0, none⟩ = some (.string T) ∧ u.cell? ⟨g, 1, none⟩ = some (.int .i64 (i : Int))) (go_keep) (first | (refine Jp.stepS rfl (.tmp 52) (.tmp 67) rfl (.slice oa acc.length od) (by rfl) (Jr.own_kept HOW.out (fun _ _ => rfl)) X (by rfl) (by have := HNN.out; have := HK0.out; simp only [List.length_cons] at *; omega) HG.out.size ?_; intro v5 w5 R5 G5; have hG5 : wr.grownBy w5 (Value.slice oa acc.length od).ownBlock := ⟨G5.os, G5.tape, G5.output, G5.size, G5.block⟩; have hR5 : Jp.Rd w5 g T (c :: r) false := HR.out.row HOW.out hG5 hgw; have HG5 := Lib.hid (Jp.grown_row HG.out HOW.out hG5 (Nat.le_refl _)); have HO5 := Lib.hid R5; have hB5 : Bs.Box w5 g #[.string T, .int .i64 (i : Int), .bool false] 54 := (hG5.block g HB.out.lt (fun q => by have := (HOW.out.lt g q.symm).1; omega)).trans HB.out; have c0 : w5.cell? ⟨g, 0, none⟩ = some (.string T) := hB5.cell 0 rfl; have c1 : w5.cell? ⟨g, 1, none⟩ = some (.int .i64 (i : Int)) := hB5.cell 1 rfl; have f1 := hB5.frozen 1; have HB5 := Lib.hid hB5; clear R5 G5 hG5 hR5 hB5))
              go_wp2
              go_roundw
              case rel => exact ⟨acc ++ X.data.toList, (c :: r).drop k, false, by unfold Hid; rw [if_neg Bool.false_ne_true]; exact HO2.out, by have h6 := HNN.out; have h7 := HK0.out; have h8 := HXL.out; unfold Hid; right; rw [List.length_append, List.length_drop, h8]; simp only [List.length_cons] at *; omega, Jp.row_grown HO5.out (Jr.grown_set _ _ _ _) hgw, Jp.Rd.step h3 HB5.out (World.grownBy.refl _ _) k hik HST.out, Jr.grown_trans HG5.out (Jr.grown_set _ _ _ _)⟩
              case measure => rw [Jp.mea_good (Jp.Rd.step h3 HB5.out (World.grownBy.refl _ _) k hik HST.out), HMG.out]; have h7 := HK0.out; simp only [List.length_cons, List.length_drop] at *; omega
end Go.Proofs.YtboalkfagfgnpaaGreatDoor
/-
  PLAIN: a number of many digits is too great, or begins with 0.
-/
namespace Go.Proofs.YtboalkfagfgnpaaGreatDoor
theorem Jp.val_step (l : List UInt8) (n : Nat) : l.foldl (fun n c => n * 10 + Pl.dig c) n = n * 10 ^ l.length + Pl.val 10 l := by
  induction l generalizing n with
  | nil => simp [Pl.val]
  | cons c t ih =>
    unfold Pl.val
    rw [List.foldl_cons, List.foldl_cons, ih, ih (0 * 10 + Pl.dig c), List.length_cons, Nat.pow_succ, Nat.add_mul, Nat.zero_mul, Nat.zero_add]
    have e : n * 10 * 10 ^ t.length = n * (10 ^ t.length * 10) := by rw [Nat.mul_assoc, Nat.mul_comm 10]
    omega
theorem Jp.val_snoc (l : List UInt8) (c : UInt8) : Pl.val 10 (l ++ [c]) = Pl.val 10 l * 10 + Pl.dig c := by
  unfold Pl.val
  rw [List.foldl_append]
  rfl
theorem Jp.digit_dig (c : UInt8) (h : Pl.digit c = true) : Pl.dig c ≤ 9 ∧ (c : UInt8).toNat = Pl.dig c + 48 := by
  have := Ug.all (p := fun c => !Pl.digit c || decide (Pl.dig c ≤ 9 ∧ c.toNat = Pl.dig c + 48)) (by decide +kernel) c
  rw [h] at this
  simpa using this
theorem Jp.val_cons (c : UInt8) (t : List UInt8) : Pl.val 10 (c :: t) = Pl.dig c * 10 ^ t.length + Pl.val 10 t := by
  have := Jp.val_step t (Pl.dig c)
  unfold Pl.val at this ⊢
  rw [List.foldl_cons, Nat.zero_mul, Nat.zero_add]
  exact this
theorem Jp.val_lt (l : List UInt8) (h : ∀ c ∈ l, Pl.digit c = true) : Pl.val 10 l < 10 ^ l.length := by
  induction l with
  | nil => simp [Pl.val]
  | cons c t ih =>
    rw [Jp.val_cons, List.length_cons, Nat.pow_succ]
    have h1 := ih fun d hd => h d (List.mem_cons_of_mem _ hd)
    have h2 := (Jp.digit_dig c (h c List.mem_cons_self)).1
    have h3 : Pl.dig c * 10 ^ t.length ≤ 9 * 10 ^ t.length := Nat.mul_le_mul_right _ h2
    omega
theorem Jp.many {ds : List UInt8} (hd : ∀ c ∈ ds, Pl.digit c = true) (hl : 17 < ds.length) : (1 < ds.length ∧ ds.head? = some 48) ∨ 9007199254740991 < Pl.val 10 ds := by
  cases ds with
  | nil => simp at hl
  | cons c t =>
    by_cases h0 : c = 48
    · exact .inl ⟨by omega, by rw [h0]; rfl⟩
    · right
      have hc := Jp.digit_dig c (hd c List.mem_cons_self)
      have hp : 1 ≤ Pl.dig c := by
        by_cases q : Pl.dig c = 0
        · exact absurd (UInt8.toNat_inj.1 (show c.toNat = (48 : UInt8).toNat by rw [hc.2, q]; rfl)) h0
        · omega
      have e := Jp.val_cons c t
      rw [e]
      have h1 : 10 ^ 17 ≤ 10 ^ t.length := Nat.pow_le_pow_right (by omega) (by simpa using Nat.lt_succ_iff.1 hl)
      have h2 : 10 ^ t.length ≤ Pl.dig c * 10 ^ t.length := Nat.le_mul_of_pos_left _ hp
      omega
theorem Jp.mem_tw {p : UInt8 → Bool} {l : List UInt8} {c : UInt8} (h : c ∈ l.takeWhile p) : p c = true := by
  induction l with
  | nil => simp at h
  | cons d t ih =>
    rw [List.takeWhile_cons] at h
    split at h
    · rename_i hd
      rcases List.mem_cons.1 h with rfl | q
      · exact hd
      · exact ih q
    · simp at h
end Go.Proofs.YtboalkfagfgnpaaGreatDoor

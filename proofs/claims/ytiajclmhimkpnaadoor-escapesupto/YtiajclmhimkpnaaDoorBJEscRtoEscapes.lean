/-
  THE WALK of stoleref1.Escape.
-/
import Derived.Test.YtiajclmhimkpnaaDoorBJSafetoQRow
import Derived.Lib.AppendStr
import Derived.Deep.CutRange
import Derived.Test.YtiajclmhimkpnaaDoorBVGettoJBack
namespace Go.Proofs.YtiajclmhimkpnaaDoor
open Go.RowKit
/-- 'append(row, text...)' -/
theorem Jx.pushS {w : World} {ops : Array Oper} {rest : List Oper} {o : Oper} {a : Act} {Z : Exit → Act → World → Prop} (hgd : o.guard = none) (s x : Operand)
    (ho : o.op = .call { callee := .builtin .append, args := #[s, x], argTypes := #[35, 9] })
    {base : Nat} {acc : List UInt8} (v : Value) (hs : a.eval s = v) (hown : w.ownsRow base 5 1 v acc.length (Lib.byteCells acc)) (t : ByteArray) (hx : a.eval x = .string t)
    (hn : acc.length + t.size ≤ 140737488355328) (hbase : base ≤ w.heap.size)
    (h : ∀ v' w', w'.ownsRow base 5 1 v' (acc ++ t.data.toList).length (Lib.byteCells (acc ++ t.data.toList)) → w.grownBy w' v.ownBlock → wpList Tryd.prog ops Z rest (a.put o.dst v') w') : wpList Tryd.prog ops Z (o :: rest) a w := by
  refine wpList_plain hgd fun K hK => ?_
  obtain ⟨iV, hiV, hzV, hsV, hbV⟩ := info_parts Rb.info
  obtain ⟨v', w', hr, h2, h3, h4⟩ := Lib.run_append_own_string (P := Tryd.prog) w base 35 9 o.type 5 iV Tryd.underlying35 Tryd.underlying9 hiV hzV hsV hbV v acc.length (Lib.byteCells acc) hown t (by unfold maxLen; omega) hn hbase
  unfold Oper.wp execOp
  simp only [ho, resolve, invoke, builtin, Sem.run_bind, Sem.run_pure, Result.andThen_ok, List.map_toArray, List.map_cons, List.map_nil, hs, hx, hr]
  refine hK _ _ (h v' w' ?_ h3)
  have e : Lib.byteCells (acc ++ t.data.toList) = Lib.byteCells acc ++ Lib.strCells t := by
    rw [Lib.byteCells_append]
    congr 1
  rw [e, List.length_append, Array.length_toList]
  exact h2
theorem Jx.at {T : ByteArray} {i : Nat} (h : i < T.size) : T.data.toList[i]? = some T[i] := by
  rw [List.getElem?_eq_getElem (by rw [Array.length_toList]; exact h)]
  simp [ByteArray.getElem_eq_getElem_data]
theorem Jx.drop {T : ByteArray} {i : Nat} (h : i < T.size) : T.data.toList.drop i = T[i] :: T.data.toList.drop (i + 1) := by
  have hl : i < T.data.toList.length := by rw [Array.length_toList]; exact h
  have e := (List.getElem?_eq_some_iff.1 (Jx.at h)).2
  rw [List.drop_eq_getElem_cons hl, e]
theorem Jx.line {T : ByteArray} {i : Nat} (h : i < T.size) : Js.line T[i] (T.data.toList.drop (i + 1)) = true ↔ T[i] = 226 ∧ ∃ (h1 : i + 1 < T.size) (h2 : i + 2 < T.size), T[i + 1] = 128 ∧ (T[i + 2] = 168 ∨ T[i + 2] = 169) := by
  unfold Js.line
  simp only [Bool.and_eq_true, Bool.or_eq_true, decide_eq_true_eq, List.getElem?_drop, Nat.add_zero]
  constructor
  · rintro ⟨⟨q1, q2⟩, q3⟩
    have hl2 : i + 2 < T.size := by
      rcases q3 with q | q
      all_goals
        have := (List.getElem?_eq_some_iff.1 q).1
        rw [Array.length_toList] at this
        exact this
    have hl1 : i + 1 < T.size := by omega
    rw [Jx.at hl1] at q2
    rw [show i + 1 + 1 = i + 2 from rfl, Jx.at hl2] at q3
    exact ⟨q1, hl1, hl2, by simpa using q2, by simpa using q3⟩
  · rintro ⟨q1, h1, h2, q2, q3⟩
    rw [Jx.at h1, show i + 1 + 1 = i + 2 from rfl, Jx.at h2]
    exact ⟨⟨q1, by rw [q2]⟩, by rcases q3 with q | q <;> rw [q] <;> simp⟩
def Jx.up (n : Nat) : UInt8 := if n < 10 then UInt8.ofNat (48 + n) else UInt8.ofNat (55 + n)
theorem Jx.dig (k : Nat) (hk : k < 16) (h : k < (⟨#[48, 49, 50, 51, 52, 53, 54, 55, 56, 57, 65, 66, 67, 68, 69, 70]⟩ : ByteArray).size) : (⟨#[48, 49, 50, 51, 52, 53, 54, 55, 56, 57, 65, 66, 67, 68, 69, 70]⟩ : ByteArray)[k]'h = Jx.up k := by
  have : ∀ k : Fin 16, (⟨#[48, 49, 50, 51, 52, 53, 54, 55, 56, 57, 65, 66, 67, 68, 69, 70]⟩ : ByteArray)[k.val]'(by have := k.isLt; show k.val < 16; exact this) = Jx.up k.val := by decide
  exact this ⟨k, hk⟩
theorem Jx.small : ∀ n, n < 16 → Pl.lowB (Jx.up n) = Js.hex n := by decide
theorem Jx.or32 : ∀ n, n < 16 → bits .or .u8 ((Jx.up n).toNat : Int) 32 = ((Js.hex n).toNat : Int) := by decide +kernel
theorem Jx.and15 (c : UInt8) : bits .and .u8 (c.toNat : Int) 15 = (c.toNat : Int) % 16 :=
  of_decide_eq_true (Js.all (p := fun c => decide (bits .and .u8 (c.toNat : Int) 15 = (c.toNat : Int) % 16)) (by decide +kernel) c)
theorem Jx.eq_dec (c d : UInt8) : ((c.toNat : Int) == (d.toNat : Int)) = decide (c = d) := by
  by_cases h : c = d
  · rw [h]; simp
  · rw [decide_eq_false h, beq_eq_false_iff_ne]
    exact fun q => h (UInt8.toNat_inj.1 (by omega))
end Go.Proofs.YtiajclmhimkpnaaDoor
/-
  THE WALK of stoleref1.Escape.
-/
namespace Go.Proofs.YtiajclmhimkpnaaDoor
open Go.RowKit
theorem Jx.three {a b c : Bool} (h : false = (a || b || c)) : a = false ∧ b = false ∧ c = false := by
  cases a <;> cases b <;> cases c <;> simp at h ⊢
theorem Rb.call {ops : Array Oper} {o : Oper} {a : Act} {w : World} {K : Act → World → Prop} {E : Prop} {Z : Exit → Act → World → Prop} (hgd : o.guard = none) (f : FuncId) (args : Array Value) (hrun : (execOp a.eval o).run Tryd.prog w = .ok (.enter f args) w) (v : Value) (hc : Calls Tryd.prog f args w fun e w' => e = .returned v ∧ w' = w) (h : K (a.put o.dst v) w) : if Region.wanted o (yielded ops a.tmps) = true then Oper.wp Tryd.prog o a w K Z else E := by
  rw [if_pos (by simp [Region.wanted, hgd])]
  unfold Oper.wp
  rw [hrun, Oper.upon_enter]
  refine hc.mono fun e w' hh => ?_
  obtain ⟨rfl, rfl⟩ := hh
  exact h
set_option maxRecDepth 100000 in
set_option maxHeartbeats 4000000 in
theorem Jx.escape (s : ByteArray) (w : World) (hs : s.size ≤ 1099511627776) :
    Calls Tryd.prog 7 #[.string s] w fun e w' => e = .returned (.string ⟨(Js.esc s.data.toList).toArray⟩) ∧ Below w.heap.size w w' := by
  have nm := Sz.norm s w (by omega)
  have HNL : Hid ((Pl.normL s.data.toList).length ≤ 3298534883328) := by
    have := Pl.norm_short s.data.toList
    rw [Wk.len_data] at this
    unfold Hid
    omega
  unfold Js.esc
  generalize Pl.normL s.data.toList = L at *
  obtain ⟨T, hT⟩ : ∃ T : ByteArray, T = ⟨L.toArray⟩ := ⟨_, rfl⟩
  have hTL : T.data.toList = L := by rw [hT]
  rw [← hT] at nm
  rw [← hTL] at HNL ⊢
  rw [Wk.len_data] at HNL
  have hT63 : T.size ≤ 9223372036854775000 := by have := HNL.out; omega
  clear hT hTL hs
  obtain ⟨RR, hRR⟩ : ∃ RR, Js.escS T.data.toList = RR := ⟨_, rfl⟩
  rw [hRR]
  have HRR := Lib.hid hRR
  have HRL : Hid (RR.length ≤ 19791209299968) := by
    have h1 := Js.escK_len 0 T.data.toList
    rw [Wk.len_data] at h1
    have h2 := HNL.out
    unfold Hid
    rw [← hRR]
    show (Js.escK 0 T.data.toList).length ≤ _
    omega
  clear hRR
  have let1 := fun c u => Rt.letter c u
  have dig1 := fun c u => Rt.digit c u
  have in1 := fun c u => Qr.in c ⟨#[32, 33, 35, 36, 37, 40, 41, 42, 43, 44, 45, 46, 47, 58, 59, 61, 63, 64, 91, 93, 94, 95, 123, 124, 125, 126]⟩ u (by decide)
  go_enter Tryd.func7, Tryd.ntmps7
  go_wp2_with (go_at_call 9; refine nm.mono ?_; rintro e w1 ⟨rfl, b1⟩; have HB1 := Lib.hid b1; clear b1 nm)
  go_loopw [4, 5] (fun ov ix wr => ∃ (i : Nat) (acc : List UInt8), i ≤ T.size ∧ ix = .int .i64 (i : Int) ∧ Hid (acc ++ Js.escS (T.data.toList.drop i) = RR) ∧ Hid (wr.ownsRow w.heap.size 5 1 ov acc.length (Lib.byteCells acc)) ∧ Hid (Below w.heap.size w wr)) (fun _ ix _ => T.size - (intOf ix).toNat)
  case atStart => exact ⟨0, [], Nat.zero_le _, rfl, HRR, World.ownsRow_nil _ _ _ _, HB1⟩
  case round =>
    clear HB1
    obtain ⟨i, acc, hi, rfl, HA, HO, HB⟩ := hrel
    obtain ⟨oa, od, rfl⟩ := Rb.form HO.out
    have HAL : Hid (acc.length ≤ 19791209299968) := by
      have h1 := HRL.out
      rw [← HA.out, List.length_append] at h1
      unfold Hid
      omega
    have HN1 : Hid (acc.length + 1 ≤ 140737488355328) := by have := HAL.out; unfold Hid; omega
    have hws := HB.out.size
    by_cases hlt : i < T.size
    · have d1 : decide ((i : Int) < (T.size : Int)) = true := decide_eq_true (by omega)
      have HD := Lib.hid (Jx.drop hlt)
      have let1 := let1 T[i]
      have dig1 := dig1 T[i]
      have in1 : ∀ u, Calls Tryd.prog 15 #[.int .u8 (T[i].toNat : Int), .string ⟨#[32, 33, 35, 36, 37, 40, 41, 42, 43, 44, 45, 46, 47, 58, 59, 61, 63, 64, 91, 93, 94, 95, 123, 124, 125, 126]⟩] u fun e w' => e = .returned (.bool (Js.signs.contains T[i])) ∧ w' = u := in1 T[i]
      have HST : Hid (Js.stays T[i] = (Pl.letter T[i] || Pl.digit T[i] || Js.signs.contains T[i])) := rfl
      have hlow := Js.stays_low T[i]
      generalize Pl.letter T[i] = bl at *
      generalize Pl.digit T[i] = bd at *
      generalize Js.signs.contains T[i] = bi at *
      by_cases hst : Js.stays T[i] = true
      · have HA2 : Hid ((acc ++ [T[i]]) ++ Js.escS (T.data.toList.drop (i + 1)) = RR) := by
          unfold Hid
          rw [← HA.out, HD.out, Js.escS_byte (Js.line_not (fun q => by have := (hlow hst).2.2.2.2; rw [q] at this; exact absurd this (by decide)) _), show Js.byte T[i] = [T[i]] from if_pos (.inl hst), List.append_assoc]
        rw [HST.out] at hst
        clear HST HD hlow HA
        have hc : bl = true ∨ (bl = false ∧ bd = true) ∨ (bl = false ∧ bd = false ∧ bi = true) := by cases bl <;> cases bd <;> cases bi <;> simp_all
        clear hst
        rcases hc with rfl | ⟨rfl, rfl⟩ | ⟨rfl, rfl, rfl⟩
        all_goals
          go_wp2_with (first | (go_at_call 13; refine (let1 _).mono ?_; rintro e w' ⟨rfl, hw⟩; have hw := hw.symm; subst hw) | (go_at_call 14; refine (dig1 _).mono ?_; rintro e w' ⟨rfl, hw⟩; have hw := hw.symm; subst hw) | (go_at_call 15; refine (in1 _).mono ?_; rintro e w' ⟨rfl, hw⟩; have hw := hw.symm; subst hw) | (at_builtin; refine Rb.push rfl _ _ rfl _ rfl (HO.out.alloc _) wr.heap.size [T[i]] 1 rfl rfl (Rb.new wr #[.int .u8 (T[i].toNat : Int)] 5 _ rfl) HN1.out (by have := HB.out.size; simp; omega) ?_; intro v5 w5 R5 hg5; have HB5 : Hid (Below w.heap.size w w5) := (HB.out.alloc HB.out.size _).grown hg5 (by have := HB.out.size; simp; omega) (fun k hk => (HO.out.lt k hk).1); have HR5 := Lib.hid R5; clear R5 hg5))
          go_roundw
          case rel => exact ⟨i + 1, _, by omega, by go_num, HA2, HR5, HB5⟩
          case measure => simp [intOf]; omega
      · have hst := Bool.eq_false_iff.2 hst
        obtain ⟨rfl, rfl, rfl⟩ := Jx.three (hst.symm.trans HST.out)
        clear HST hlow
        by_cases h128 : T[i].toNat < 128
        · have d2 : decide ((T[i].toNat : Int) < 128) = true := decide_eq_true (by omega)
          obtain ⟨A, hA⟩ : ∃ A : Nat, A = T[i].toNat / 16 := ⟨_, rfl⟩
          obtain ⟨B, hB⟩ : ∃ B : Nat, B = T[i].toNat % 16 := ⟨_, rfl⟩
          obtain ⟨acc4, hacc4⟩ : ∃ l, l = acc ++ [92, 117, 48, 48] := ⟨_, rfl⟩
          have HC4 := Lib.hid hacc4
          have HA2 : Hid ((acc4 ++ [Js.hex A, Js.hex B]) ++ Js.escS (T.data.toList.drop (i + 1)) = RR) := by
            unfold Hid
            rw [hacc4, ← HA.out, HD.out, Js.escS_byte (Js.line_not (fun q => by rw [q] at h128; exact absurd h128 (by decide)) _), show Js.byte T[i] = [92, 117, 48, 48, Js.hex (T[i].toNat / 16), Js.hex (T[i].toNat % 16)] from if_neg (fun o => o.elim (fun q => by rw [hst] at q; cases q) (fun q => by omega)), ← hA, ← hB]
            simp
          have hA16 : A < 16 := by omega
          have hB16 : B < 16 := by omega
          have e15 := Jx.and15 T[i]
          have eA : (T[i].toNat : Int) / 16 = (A : Int) := by omega
          have eB : (T[i].toNat : Int) % 16 = (B : Int) := by omega
          rw [eB] at e15
          have xA : ∀ h : A < 16, (⟨#[48, 49, 50, 51, 52, 53, 54, 55, 56, 57, 65, 66, 67, 68, 69, 70]⟩ : ByteArray)[A]'h = Jx.up A := fun h => Jx.dig A hA16 h
          have xB : ∀ h : B < 16, (⟨#[48, 49, 50, 51, 52, 53, 54, 55, 56, 57, 65, 66, 67, 68, 69, 70]⟩ : ByteArray)[B]'h = Jx.up B := fun h => Jx.dig B hB16 h
          have oA := Jx.or32 A hA16
          have lw := fun u => Sz.low (Jx.up B) u
          rw [Jx.small B hB16] at lw
          have HN4 : Hid (acc.length + 4 ≤ 140737488355328) := by have := HAL.out; unfold Hid; omega
          have HN6 : Hid (acc4.length + 2 ≤ 140737488355328) := by have := HAL.out; unfold Hid; rw [hacc4]; simp; omega
          have hAi : (A : Int) < 16 := by omega
          have hBi : (B : Int) < 16 := by omega
          clear HA HD hA hB eB hst hacc4
          go_upto_region 12 with (first | (go_at_call 13; refine (let1 _).mono ?_; rintro e w' ⟨rfl, hw⟩; have hw := hw.symm; subst hw) | (go_at_call 14; refine (dig1 _).mono ?_; rintro e w' ⟨rfl, hw⟩; have hw := hw.symm; subst hw) | (go_at_call 15; refine (in1 _).mono ?_; rintro e w' ⟨rfl, hw⟩; have hw := hw.symm; subst hw) | (at_builtin; refine Jx.pushS rfl _ _ rfl _ rfl HO.out ⟨#[92, 117, 48, 48]⟩ rfl HN4.out hws ?_; intro v4 w4 R4 hg4; replace R4 : w4.ownsRow w.heap.size 5 1 v4 acc4.length (Lib.byteCells acc4) := (by rw [HC4.out]; exact R4); obtain ⟨oa4, od4, rfl⟩ := Rb.form R4; have HB4 : Hid (Below w.heap.size w w4) := HB.out.grown hg4 hws (fun k hk => (HO.out.lt k hk).1); have HR4 := Lib.hid R4; clear R4 hg4))
          have hw4 := HB4.out.size
          go_region_law (first | (refine Rb.call rfl 16 #[.int .u8 ((Jx.up B).toNat : Int)] ?hr _ (lw _) ?_; case hr => go_simp) | (refine Rb.step rfl (.tmp 42) (.tmp 51) rfl (.slice oa4 acc4.length od4) (by rfl) (HR4.out.alloc _) w4.heap.size [Js.hex A, Js.hex B] 2 rfl (by rfl) (Rb.new w4.drew #[.int .u8 ((Js.hex A).toNat : Int), .int .u8 ((Js.hex B).toNat : Int)] 5 _ rfl) HN6.out (by first | omega | (simp; omega)) ?_; intro v5 w5 R5 hg5; have HB5 : Hid (Below w.heap.size w w5) := (HB4.out.drew.alloc hw4 _).grown hg5 (by simp; omega) (fun k hk => (HR4.out.lt k hk).1); have HR5 := Lib.hid R5; clear R5 hg5) | fail)
          all_goals
            go_wp2
            go_roundw
            case rel => exact ⟨i + 1, _, by omega, by go_num, HA2, HR5, HB5⟩
            case measure => simp [intOf]; omega
        · have d2 : decide ((T[i].toNat : Int) < 128) = false := decide_eq_false (by omega)
          have f226 : ((T[i].toNat : Int) == 226) = decide (T[i] = 226) := Jx.eq_dec _ 226
          by_cases hl : Js.line T[i] (T.data.toList.drop (i + 1)) = true
          · obtain ⟨h226, g1, g2, h1, h2⟩ := (Jx.line hlt).1 hl
            have HL := Lib.hid hl
            rw [decide_eq_true h226] at f226
            have f128 : ((T[i + 1].toNat : Int) == 128) = true := (Jx.eq_dec _ 128).trans (decide_eq_true h1)
            have d3 : decide ((i : Int) + 2 < (T.size : Int)) = true := decide_eq_true (by omega)
            obtain ⟨acc4, hacc4⟩ : ∃ l, l = acc ++ [92, 117, 50, 48, 50] := ⟨_, rfl⟩
            have HC4 := Lib.hid hacc4
            have HC5 := HC4
            have HN5 : Hid (acc.length + 5 ≤ 140737488355328) := by have := HAL.out; unfold Hid; omega
            have HN6 : Hid (acc4.length + 1 ≤ 140737488355328) := by have := HAL.out; unfold Hid; rw [hacc4]; simp; omega
            clear h226 hl h1 hacc4 hst h128
            rcases h2 with hx | hx
            · have e2 : (T[i + 2].toNat : Int) = 168 := by rw [hx]; rfl
              have HA2 : Hid ((acc4 ++ [56]) ++ Js.escS (T.data.toList.drop (i + 3)) = RR) := by
                unfold Hid
                rw [HC4.out, ← HA.out, HD.out, Js.escS_line HL.out, List.drop_drop]
                rw [show (T.data.toList.drop (i + 1)).getD 1 0 = 168 from by rw [List.getD_eq_getElem?_getD, List.getElem?_drop, Jx.at g2, hx]; rfl]
                simp
              clear HA HD HL hx HC5
              go_wp2_with (first | (go_at_call 13; refine (let1 _).mono ?_; rintro e w' ⟨rfl, hw⟩; have hw := hw.symm; subst hw) | (go_at_call 14; refine (dig1 _).mono ?_; rintro e w' ⟨rfl, hw⟩; have hw := hw.symm; subst hw) | (go_at_call 15; refine (in1 _).mono ?_; rintro e w' ⟨rfl, hw⟩; have hw := hw.symm; subst hw) | (at_builtin; refine Jx.pushS rfl _ _ rfl _ rfl HO.out ⟨#[92, 117, 50, 48, 50]⟩ rfl HN5.out hws ?_; intro v4 w4 R4 hg4; replace R4 : w4.ownsRow w.heap.size 5 1 v4 acc4.length (Lib.byteCells acc4) := (by rw [HC4.out]; exact R4); obtain ⟨oa4, od4, rfl⟩ := Rb.form R4; have HB4 : Hid (Below w.heap.size w w4) := HB.out.grown hg4 hws (fun k hk => (HO.out.lt k hk).1); have HR4 := Lib.hid R4; clear R4 hg4) | (at_builtin; refine Rb.push rfl _ _ rfl _ rfl (HR4.out.alloc _) w4.heap.size [56] 1 rfl rfl (Rb.new w4 #[.int .u8 56] 5 _ rfl) HN6.out (by have := HB4.out.size; simp; omega) ?_; intro v5 w5 R5 hg5; have HB5 : Hid (Below w.heap.size w w5) := (HB4.out.alloc HB4.out.size _).grown hg5 (by have := HB4.out.size; simp; omega) (fun k hk => (HR4.out.lt k hk).1); have HR5 := Lib.hid R5; clear R5 hg5))
              go_roundw
              case rel => exact ⟨i + 3, _, by omega, by go_num, HA2, HR5, HB5⟩
              case measure => simp [intOf]; omega
            · have e2 : (T[i + 2].toNat : Int) = 169 := by rw [hx]; rfl
              have HA2 : Hid ((acc4 ++ [57]) ++ Js.escS (T.data.toList.drop (i + 3)) = RR) := by
                unfold Hid
                rw [HC4.out, ← HA.out, HD.out, Js.escS_line HL.out, List.drop_drop]
                rw [show (T.data.toList.drop (i + 1)).getD 1 0 = 169 from by rw [List.getD_eq_getElem?_getD, List.getElem?_drop, Jx.at g2, hx]; rfl]
                simp
              clear HA HD HL hx HC5
              go_wp2_with (first | (go_at_call 13; refine (let1 _).mono ?_; rintro e w' ⟨rfl, hw⟩; have hw := hw.symm; subst hw) | (go_at_call 14; refine (dig1 _).mono ?_; rintro e w' ⟨rfl, hw⟩; have hw := hw.symm; subst hw) | (go_at_call 15; refine (in1 _).mono ?_; rintro e w' ⟨rfl, hw⟩; have hw := hw.symm; subst hw) | (at_builtin; refine Jx.pushS rfl _ _ rfl _ rfl HO.out ⟨#[92, 117, 50, 48, 50]⟩ rfl HN5.out hws ?_; intro v4 w4 R4 hg4; replace R4 : w4.ownsRow w.heap.size 5 1 v4 acc4.length (Lib.byteCells acc4) := (by rw [HC4.out]; exact R4); obtain ⟨oa4, od4, rfl⟩ := Rb.form R4; have HB4 : Hid (Below w.heap.size w w4) := HB.out.grown hg4 hws (fun k hk => (HO.out.lt k hk).1); have HR4 := Lib.hid R4; clear R4 hg4) | (at_builtin; refine Rb.push rfl _ _ rfl _ rfl (HR4.out.alloc _) w4.heap.size [57] 1 rfl rfl (Rb.new w4 #[.int .u8 57] 5 _ rfl) HN6.out (by have := HB4.out.size; simp; omega) ?_; intro v5 w5 R5 hg5; have HB5 : Hid (Below w.heap.size w w5) := (HB4.out.alloc HB4.out.size _).grown hg5 (by have := HB4.out.size; simp; omega) (fun k hk => (HR4.out.lt k hk).1); have HR5 := Lib.hid R5; clear R5 hg5))
              go_roundw
              case rel => exact ⟨i + 3, _, by omega, by go_num, HA2, HR5, HB5⟩
              case measure => simp [intOf]; omega
          · have hl := Bool.eq_false_iff.2 hl
            have HA2 : Hid ((acc ++ [T[i]]) ++ Js.escS (T.data.toList.drop (i + 1)) = RR) := by
              unfold Hid
              rw [← HA.out, HD.out, Js.escS_byte hl, Js.byte_high (by omega), List.append_assoc]
            have hno : T[i] ≠ 226 ∨ (T[i] = 226 ∧ ¬ i + 2 < T.size) ∨ (T[i] = 226 ∧ ∃ (g1 : i + 1 < T.size) (g2 : i + 2 < T.size), T[i + 1] ≠ 128 ∨ (T[i + 1] = 128 ∧ T[i + 2] ≠ 168 ∧ T[i + 2] ≠ 169)) := by
              by_cases h226 : T[i] = 226
              · by_cases g2 : i + 2 < T.size
                · refine .inr (.inr ⟨h226, by omega, g2, ?_⟩)
                  by_cases h1 : T[i + 1] = 128
                  · refine .inr ⟨h1, fun q => ?_, fun q => ?_⟩
                    · rw [(Jx.line hlt).2 ⟨h226, by omega, g2, h1, .inl q⟩] at hl
                      cases hl
                    · rw [(Jx.line hlt).2 ⟨h226, by omega, g2, h1, .inr q⟩] at hl
                      cases hl
                  · exact .inl h1
                · exact .inr (.inl ⟨h226, g2⟩)
              · exact .inl h226
            clear HA HD hl hst h128
            rcases hno with h | ⟨h, g2⟩ | ⟨h, g1, g2, h1 | ⟨h1, h2, h3⟩⟩
            · rw [decide_eq_false h] at f226
              clear h
              go_wp2_with (first | (go_at_call 13; refine (let1 _).mono ?_; rintro e w' ⟨rfl, hw⟩; have hw := hw.symm; subst hw) | (go_at_call 14; refine (dig1 _).mono ?_; rintro e w' ⟨rfl, hw⟩; have hw := hw.symm; subst hw) | (go_at_call 15; refine (in1 _).mono ?_; rintro e w' ⟨rfl, hw⟩; have hw := hw.symm; subst hw) | (at_builtin; refine Rb.push rfl _ _ rfl _ rfl (HO.out.alloc _) wr.heap.size [T[i]] 1 rfl rfl (Rb.new wr #[.int .u8 (T[i].toNat : Int)] 5 _ rfl) HN1.out (by have := HB.out.size; simp; omega) ?_; intro v5 w5 R5 hg5; have HB5 : Hid (Below w.heap.size w w5) := (HB.out.alloc HB.out.size _).grown hg5 (by have := HB.out.size; simp; omega) (fun k hk => (HO.out.lt k hk).1); have HR5 := Lib.hid R5; clear R5 hg5))
              go_roundw
              case rel => exact ⟨i + 1, _, by omega, by go_num, HA2, HR5, HB5⟩
              case measure => simp [intOf]; omega
            · rw [decide_eq_true h] at f226
              have d3 : decide ((i : Int) + 2 < (T.size : Int)) = false := decide_eq_false (by omega)
              clear h
              go_wp2_with (first | (go_at_call 13; refine (let1 _).mono ?_; rintro e w' ⟨rfl, hw⟩; have hw := hw.symm; subst hw) | (go_at_call 14; refine (dig1 _).mono ?_; rintro e w' ⟨rfl, hw⟩; have hw := hw.symm; subst hw) | (go_at_call 15; refine (in1 _).mono ?_; rintro e w' ⟨rfl, hw⟩; have hw := hw.symm; subst hw) | (at_builtin; refine Rb.push rfl _ _ rfl _ rfl (HO.out.alloc _) wr.heap.size [T[i]] 1 rfl rfl (Rb.new wr #[.int .u8 (T[i].toNat : Int)] 5 _ rfl) HN1.out (by have := HB.out.size; simp; omega) ?_; intro v5 w5 R5 hg5; have HB5 : Hid (Below w.heap.size w w5) := (HB.out.alloc HB.out.size _).grown hg5 (by have := HB.out.size; simp; omega) (fun k hk => (HO.out.lt k hk).1); have HR5 := Lib.hid R5; clear R5 hg5))
              go_roundw
              case rel => exact ⟨i + 1, _, by omega, by go_num, HA2, HR5, HB5⟩
              case measure => simp [intOf]; omega
            · rw [decide_eq_true h] at f226
              have d3 : decide ((i : Int) + 2 < (T.size : Int)) = true := decide_eq_true (by omega)
              have f128 : ((T[i + 1].toNat : Int) == 128) = false := (Jx.eq_dec _ 128).trans (decide_eq_false h1)
              clear h h1
              go_wp2_with (first | (go_at_call 13; refine (let1 _).mono ?_; rintro e w' ⟨rfl, hw⟩; have hw := hw.symm; subst hw) | (go_at_call 14; refine (dig1 _).mono ?_; rintro e w' ⟨rfl, hw⟩; have hw := hw.symm; subst hw) | (go_at_call 15; refine (in1 _).mono ?_; rintro e w' ⟨rfl, hw⟩; have hw := hw.symm; subst hw) | (at_builtin; refine Rb.push rfl _ _ rfl _ rfl (HO.out.alloc _) wr.heap.size [T[i]] 1 rfl rfl (Rb.new wr #[.int .u8 (T[i].toNat : Int)] 5 _ rfl) HN1.out (by have := HB.out.size; simp; omega) ?_; intro v5 w5 R5 hg5; have HB5 : Hid (Below w.heap.size w w5) := (HB.out.alloc HB.out.size _).grown hg5 (by have := HB.out.size; simp; omega) (fun k hk => (HO.out.lt k hk).1); have HR5 := Lib.hid R5; clear R5 hg5))
              go_roundw
              case rel => exact ⟨i + 1, _, by omega, by go_num, HA2, HR5, HB5⟩
              case measure => simp [intOf]; omega
            · rw [decide_eq_true h] at f226
              have d3 : decide ((i : Int) + 2 < (T.size : Int)) = true := decide_eq_true (by omega)
              have f128 : ((T[i + 1].toNat : Int) == 128) = true := (Jx.eq_dec _ 128).trans (decide_eq_true h1)
              have f168 : ((T[i + 2].toNat : Int) == 168) = false := (Jx.eq_dec _ 168).trans (decide_eq_false h2)
              have f169 : ((T[i + 2].toNat : Int) == 169) = false := (Jx.eq_dec _ 169).trans (decide_eq_false h3)
              clear h h1 h2 h3
              go_wp2_with (first | (go_at_call 13; refine (let1 _).mono ?_; rintro e w' ⟨rfl, hw⟩; have hw := hw.symm; subst hw) | (go_at_call 14; refine (dig1 _).mono ?_; rintro e w' ⟨rfl, hw⟩; have hw := hw.symm; subst hw) | (go_at_call 15; refine (in1 _).mono ?_; rintro e w' ⟨rfl, hw⟩; have hw := hw.symm; subst hw) | (at_builtin; refine Rb.push rfl _ _ rfl _ rfl (HO.out.alloc _) wr.heap.size [T[i]] 1 rfl rfl (Rb.new wr #[.int .u8 (T[i].toNat : Int)] 5 _ rfl) HN1.out (by have := HB.out.size; simp; omega) ?_; intro v5 w5 R5 hg5; have HB5 : Hid (Below w.heap.size w w5) := (HB.out.alloc HB.out.size _).grown hg5 (by have := HB.out.size; simp; omega) (fun k hk => (HO.out.lt k hk).1); have HR5 := Lib.hid R5; clear R5 hg5))
              go_roundw
              case rel => exact ⟨i + 1, _, by omega, by go_num, HA2, HR5, HB5⟩
              case measure => simp [intOf]; omega
    · have d1 : decide ((i : Int) < (T.size : Int)) = false := decide_eq_false (by omega)
      have hcv := Rn.conv HO.out
      have q : acc = RR := by
        rw [← HA.out, List.drop_of_length_le (by rw [Wk.len_data]; omega), Js.escS_nil, List.append_nil]
      subst q
      clear let1 dig1 in1 HA HRR
      go_wp2
      go_ret
      exact ⟨rfl, HB.out⟩
end Go.Proofs.YtiajclmhimkpnaaDoor
/-
  THE WALK of stolelaw11.Escapes: it returns true.
-/
namespace Go.Proofs.YtiajclmhimkpnaaDoor
open Go.RowKit
theorem Law.escapes (s : ByteArray) (w : World) (hT : Lib.Utf8Tabs 1 2 w) (hs : s.size ≤ 1099511627776) : Calls Tryd.prog 3 #[.string s] w fun e w' => e = .returned (.bool true) ∧ Below w.heap.size w w' := by
  obtain ⟨X, hX⟩ : ∃ X : ByteArray, X = ⟨(Js.esc s.data.toList).toArray⟩ := ⟨_, rfl⟩
  have c := Je.prog s hX w hT hs
  have d := fun u => Jx.escape s u hs
  rw [← hX] at d
  have HT := Lib.hid hT
  clear hX hT hs
  go_enter Tryd.func3, Tryd.ntmps3
  go_wp2_with (first | (go_at_call 6; refine c.mono ?_; rintro e w1 ⟨rfl, b1⟩; have B1 := Lib.hid b1; clear b1 c) | (go_at_call 7; refine (d _).mono ?_; rintro e w2 ⟨rfl, b2⟩; have B2 := Lib.hid (Wk.below_step B1.out b2); clear b2 d) | (go_at_call 8; refine (Je.awake _ (Utf8Tabs_below HT.out B2.out)).mono ?_; rintro e w3 ⟨rfl, b3⟩; have B3 := Lib.hid (Wk.below_step B2.out b3); clear b3))
  go_ret
  exact ⟨rfl, B3.out⟩
end Go.Proofs.YtiajclmhimkpnaaDoor

/-
  THE WALK of the program's Build.
-/
import Derived.Test.YthfobjkdcncoiaaWTake
import Derived.Test.YthfobjkdcncoiaaWMay2
import Derived.Test.YthfobjkdcncoiaaURef
namespace Go.Proofs.Ythfobjkdcncoiaa
open Go.RowKit
theorem Pm.laid (W : World) : Pm.At W.heap.size (((W.alloc (.cells #[.int .i64 0, .string ⟨#[]⟩, .string ⟨#[]⟩, .slice none 0 0, .int .i64 (-1)] 38)).alloc (.cells #[.int .i64 0] 3)).alloc (.cells #[.slice (some ⟨W.heap.size, 0, none⟩) 1 1, .slice (some ⟨W.heap.size + 1, 0, none⟩) 1 1, .slice none 0 0] 54)) (W.heap.size + 1 + 1) Bt.start Ts.e (.slice (some ⟨W.heap.size, 0, none⟩) 1 1) (.slice (some ⟨W.heap.size + 1, 0, none⟩) 1 1) (.slice none 0 0) := by
  have h1 := World.ownsRow_lit (base := W.heap.size) (e := 38) (size := 5) W #[.int .i64 0, .string ⟨#[]⟩, .string ⟨#[]⟩, .slice none 0 0, .int .i64 (-1)] 1 (Nat.le_refl _) (by decide) rfl
  have h2 := World.ownsRow_lit (base := W.heap.size) (e := 3) (size := 1) (W.alloc (.cells #[.int .i64 0, .string ⟨#[]⟩, .string ⟨#[]⟩, .slice none 0 0, .int .i64 (-1)] 38)) #[.int .i64 0] 1 (by simp) (by decide) rfl
  rw [show (W.alloc (.cells #[.int .i64 0, .string ⟨#[]⟩, .string ⟨#[]⟩, .slice none 0 0, .int .i64 (-1)] 38)).heap.size = W.heap.size + 1 by simp] at h2
  obtain ⟨V, hV⟩ : ∃ V, (W.alloc (.cells #[.int .i64 0, .string ⟨#[]⟩, .string ⟨#[]⟩, .slice none 0 0, .int .i64 (-1)] 38)).alloc (.cells #[.int .i64 0] 3) = V := ⟨_, rfl⟩
  have hsV : V.heap.size = W.heap.size + 1 + 1 := by rw [← hV]; simp
  rw [hV] at h2 ⊢
  have h1' : V.ownsRow W.heap.size 38 5 (.slice (some ⟨W.heap.size, 0, none⟩) 1 1) 1 [.int .i64 0, .string ⟨#[]⟩, .string ⟨#[]⟩, .slice none 0 0, .int .i64 (-1)] := by rw [← hV]; exact h1.alloc _
  have hb := heap_alloc_new V (.cells #[.slice (some ⟨W.heap.size, 0, none⟩) 1 1, .slice (some ⟨W.heap.size + 1, 0, none⟩) 1 1, .slice none 0 0] 54)
  rw [hsV] at hb
  refine ⟨by omega, ?_, ?_, ?_, fun i => ?_, ?_, h2.alloc _, World.ownsRow_nil _ _ _ _, ?_, ?_, (fun e => by cases e), ?_, (fun _ _ e => by cases e), (fun _ _ e => by cases e)⟩
  · unfold World.cell?; rw [hb]; rfl
  · unfold World.cell?; rw [hb]; rfl
  · unfold World.cell?; rw [hb]; rfl
  · unfold World.frozen?; rw [hb]; simp
  · refine ⟨_, h1'.alloc _, fun i x hi => ?_⟩
    have : i = 0 := by
      have := (List.getElem?_eq_some_iff.1 hi).1
      simp [Bt.start] at this
      exact this
    subst this
    have hx : x = ⟨0, Ts.e, Ts.e, [], -1⟩ := by simpa [Bt.start] using hi.symm
    subst hx
    exact ⟨.slice none 0 0, fun r u hr => by rw [Nat.zero_mul, Nat.zero_add]; exact hr, Ak.Lies.nil _ _⟩
  · intro e
    have e : W.heap.size = W.heap.size + 1 + 1 := Option.some.inj e
    omega
  · intro e
    have e : W.heap.size + 1 = W.heap.size + 1 + 1 := Option.some.inj e
    omega
  · intro k hk hk2
    have e1 : W.heap.size = k := Option.some.inj hk
    have e2 : W.heap.size + 1 = k := Option.some.inj hk2
    omega
set_option maxRecDepth 100000 in
set_option maxHeartbeats 8000000 in
theorem Pg.build (ts : List Tk) (a : Option Addr) (d : Nat) (w : World) (h : Tk.Lies w (· < w.heap.size) ts (.slice a ts.length d)) (hz : Bt.bulk ts ≤ 140737488355328) :
    Calls Try.prog 9 #[.slice a ts.length d] w fun e w' => Below w.heap.size w w' ∧ ((¬ (∀ t ∈ ts, t.May) ∧ e = .returned (.tuple #[.slice none 0 0, .int .i64 700])) ∨ ((∀ t ∈ ts, t.May) ∧ (Bt.run Bt.start ts).2 = false ∧ e = .returned (.tuple #[.slice none 0 0, .int .i64 701])) ∨ ((∀ t ∈ ts, t.May) ∧ (Bt.run Bt.start ts).2 = true ∧ ∃ v, e = .returned (.tuple #[v, .int .i64 0]) ∧ Nd.Lies w' (fun k => w.heap.size ≤ k ∧ k < w'.heap.size ∧ Rm.Ub w' k) (Bt.run Bt.start ts).1.out v)) := by
  obtain ⟨hlen, hdm⟩ : ts.length ≤ d ∧ d ≤ maxLen := by
    obtain ⟨a', d', e, h1, h2, hx⟩ := h
    injection e with e1 e2 e3
    omega
  have hm63 : ts.length ≤ 9223372036854775807 := by unfold maxLen at hdm; omega
  have H := Lib.hid h
  have HZ := Lib.hid hz
  clear h hz hdm
  go_enter Try.func9, Try.ntmps9
  go_wp2_with fail
  go_loopw [11] (fun ix wr => ∃ i : Nat, i ≤ ts.length ∧ ix = .int .i64 (i : Int) ∧ Hid (∀ j t, j < i → ts[j]? = some t → t.May) ∧ Hid (Below w.heap.size w wr)) (fun ix _ => ts.length - (intOf ix).toNat)
  case atStart => exact ⟨0, Nat.zero_le _, rfl, (fun _ _ q _ => absurd q (Nat.not_lt_zero _)), Below.refl _ _⟩
  case round =>
    obtain ⟨i, hi, rfl, HM, HB⟩ := hrel
    by_cases hlt : i < ts.length
    · have d1 : decide ((i : Int) < (ts.length : Int)) = true := decide_eq_true (by omega)
      have HL : Hid (Tk.Lies wr (· < w.heap.size) ts (.slice a ts.length d)) := H.out.on fun k hk => ⟨hk, HB.out.block k hk⟩
      obtain ⟨b, o, aa, ad, rfl, c0, c1, c2, c3, c4, hl⟩ := Um.tokAt HL.out hlt
      have hbw : b < wr.heap.size := World.block_lt_of_cell? _ _ c0
      have n1 : wr.heap.size ≠ b := by omega
      have n2 : b ≠ wr.heap.size := by omega
      have hid : i < d := by omega
      have hws := HB.out.size
      obtain ⟨T, hT⟩ : ∃ T, ts[i] = T := ⟨_, rfl⟩
      rw [hT] at c0 c1 c2 c3 c4 hl
      have may := fun u (hu : Below wr.heap.size wr u) => Pg.mayBe T aa ad (fun _ => True) u ((Pg.liesAll hl).on fun k hk => ⟨trivial, hu.block k hk⟩)
      have HT : Hid (ts[i]? = some T) := by unfold Hid; rw [List.getElem?_eq_getElem hlt, hT]
      clear hT HL hl
      by_cases hmay : T.May
      · have HM2 : Hid (∀ j t, j < i + 1 → ts[j]? = some t → t.May) := fun j t hj ht => by
          by_cases e : j = i
          · subst e
            rw [HT.out] at ht
            injection ht with ht
            rw [← ht]
            exact hmay
          · exact HM.out j t (by omega) ht
        have HMY := Lib.hid hmay
        clear hmay
        go_wp2_with (go_at_call 19; refine (may _ ((Below.refl _ _).alloc (Nat.le_refl _) _)).mono ?_; rintro e w2 ⟨bb, rfl, hbb, hb2⟩; have hbb := hbb.2 HMY.out; subst hbb; have HB2 := Lib.hid ((HB.out.alloc hws _).trans (hb2.mono (by simp; omega))); clear may hb2)
        go_roundw
        case rel => exact ⟨i + 1, by omega, by go_num, HM2, HB2⟩
        case measure => simp [intOf]; omega
      · have HMY := Lib.hid hmay
        clear hmay
        go_wp2_with (go_at_call 19; refine (may _ ((Below.refl _ _).alloc (Nat.le_refl _) _)).mono ?_; rintro e w2 ⟨bb, rfl, hbb, hb2⟩; have hbb : bb = false := (by cases bb; rfl; exact absurd (hbb.1 rfl) HMY.out); subst hbb; have HB2 := Lib.hid ((HB.out.alloc hws _).trans (hb2.mono (by simp; omega))); clear may hb2)
        go_ret2
        exact ⟨HB2.out, .inl ⟨fun q => HMY.out (q T (List.mem_of_getElem? HT.out)), rfl⟩⟩
    · have e : i = ts.length := by omega
      subst e
      have d1 : decide ((ts.length : Int) < (ts.length : Int)) = false := decide_eq_false (by omega)
      have HALL : Hid (∀ t ∈ ts, t.May) := fun t ht => by
        obtain ⟨j, hj⟩ := List.getElem?_of_mem ht
        exact HM.out j t (List.getElem?_eq_some_iff.1 hj).1 hj
      clear HM hi
      go_wp2_with fail
      have hA0 := Pm.laid wr
      obtain ⟨W, hW⟩ : ∃ W, ((wr.alloc (.cells #[.int .i64 0, .string ⟨#[]⟩, .string ⟨#[]⟩, .slice none 0 0, .int .i64 (-1)] 38)).alloc (.cells #[.int .i64 0] 3)).alloc (.cells #[.slice (some ⟨wr.heap.size, 0, none⟩) 1 1, .slice (some ⟨wr.heap.size + 1, 0, none⟩) 1 1, .slice none 0 0] 54) = W := ⟨_, rfl⟩
      have hbW : Below w.heap.size w W := by rw [← hW]; exact ((HB.out.alloc HB.out.size _).alloc (by simp; have := HB.out.size; omega) _).alloc (by simp; have := HB.out.size; omega) _
      rw [hW] at hA0
      rw [hW]
      have hlo : w.heap.size ≤ wr.heap.size := HB.out.size
      have HA0 := Lib.hid hA0
      have HBW := Lib.hid hbW
      clear hW hA0 hbW HB
      generalize wr.heap.size = base at *
      go_loopw [25] (fun ix wz => ∃ (i : Nat) (m r : Bt) (bs : ByteArray) (ov pv tv : Value), i ≤ ts.length ∧ ix = .int .i64 (i : Int) ∧ Hid (Pm.At base wz (base + 1 + 1) r bs ov pv tv) ∧ Hid (Pb.Sim m r bs) ∧ Hid (m.out.length ≤ 4096) ∧ Hid (bs.size ≤ Bt.bulk (ts.take i)) ∧ Hid (Bt.run m (ts.drop i) = Bt.run Bt.start ts) ∧ Hid (Below w.heap.size w wz)) (fun ix _ => ts.length - (intOf ix).toNat)
      case atStart => exact ⟨0, Bt.start, Bt.start, Ts.e, _, _, _, Nat.zero_le _, rfl, HA0.out, Pb.Sim.start, (by unfold Hid; decide), Nat.zero_le _, rfl, HBW.out⟩
      case round =>
        clear HA0 HBW
        obtain ⟨i, m, r, bs, ov, pv, tv, hi, rfl, HA, HSI, HS, HT, HR, HB⟩ := hrel
        obtain ⟨g, hg⟩ : ∃ g, base + 1 + 1 = g := ⟨_, rfl⟩
        rw [hg] at HA
        have hgb : w.heap.size ≤ g := by omega
        by_cases hlt : i < ts.length
        · have d1 : decide ((i : Int) < (ts.length : Int)) = true := decide_eq_true (by omega)
          have HL : Hid (Tk.Lies wr (· < w.heap.size) ts (.slice a ts.length d)) := H.out.on fun k hk => ⟨hk, HB.out.block k hk⟩
          obtain ⟨b, o, aa, ad, rfl, c0, c1, c2, c3, c4, hl⟩ := Um.tokAt HL.out hlt
          have hid : i < d := by omega
          have hbw : b < wr.heap.size := World.block_lt_of_cell? _ _ c0
          have n1 : wr.heap.size ≠ b := by omega
          have n2 : b ≠ wr.heap.size := by omega
          have hgw := HA.out.lt
          have n3 : wr.heap.size ≠ g := by omega
          have n4 : g ≠ wr.heap.size := by omega
          obtain ⟨T, hT⟩ : ∃ T, ts[i] = T := ⟨_, rfl⟩
          have hbk := Um.bulk_take ts i hlt
          rw [hT] at c0 c1 c2 c3 c4 hl hbk
          have hble := Um.bulk_le ts (i + 1)
          have hmem : T ∈ ts := by rw [← hT]; exact List.getElem_mem hlt
          have hrl : r.out.length = m.out.length := HSI.out.len.symm
          have tk := fun u (hu : Below wr.heap.size wr u) => Pg.take base r bs T aa T.attrs.length ad (fun _ => True) u g ov pv tv (HA.out.on hu) HSI.out.ok (by rw [hrl]; exact Nat.le_trans HS.out (by decide)) (by have := HT.out; have := HZ.out; omega) ((Pg.liesAll hl).on fun k hk => ⟨trivial, hu.block k hk⟩) (HALL.out T hmem)
          have HT2 : Hid ((Pb.take r bs T).2.size ≤ Bt.bulk (ts.take (i + 1))) := by unfold Hid; rw [hbk]; have := Pb.take_bulk r bs T; have := HT.out; omega
          have HD : Hid (ts.drop i = T :: ts.drop (i + 1)) := by unfold Hid; rw [← hT]; exact List.drop_eq_getElem_cons hlt
          have HSI2 := Lib.hid (HSI.out.take T)
          have hl2 : (m.token T).out.length = (Pb.take r bs T).1.out.length := (HSI.out.take T).len
          have hws := HB.out.size
          have HBA : Hid (∀ o, Below w.heap.size w (wr.alloc o) ∧ Below wr.heap.size wr (wr.alloc o)) := fun o => ⟨HB.out.alloc hws _, (Below.refl _ _).alloc (Nat.le_refl _) _⟩
          clear hl hT HL hbk hble hmem hrl
          generalize (Pb.take r bs T).1 = r' at *
          generalize (Pb.take r bs T).2 = bs' at *
          by_cases hf : 4096 < (m.token T).out.length
          · have d2 : decide ((4096 : Int) < (r'.out.length : Int)) = true := decide_eq_true (by omega)
            have HRF : Hid ((Bt.run Bt.start ts).2 = false) := by
              unfold Hid
              rw [← HR.out, HD.out]
              unfold Bt.run
              rw [if_pos hf]
            clear hf hl2
            rw [hg]
            clear hg
            go_wp2_with (go_at_call 20; refine (tk _ (HBA.out _).2).mono ?_; rintro e w5 ⟨rfl, ov5, pv5, tv5, hA5, hK5⟩; obtain ⟨xs5, hx5⟩ := id hA5.out; obtain ⟨oa5, od5, rfl⟩ := Um.form hx5.1; have e0 := hA5.c0; have HB5 := Lib.hid (hK5.low (HA.out.on (HBA.out _).2) (HBA.out _).1 hlo (Nat.le_refl _)); clear tk hA5 hK5 hx5)
            go_ret2
            exact ⟨HB5.out, .inr (.inl ⟨HALL.out, HRF.out, rfl⟩)⟩
          · have d2 : decide ((4096 : Int) < (r'.out.length : Int)) = false := decide_eq_false (by omega)
            have HS2 : Hid ((m.token T).out.length ≤ 4096) := by unfold Hid; omega
            have HR2 : Hid (Bt.run (m.token T) (ts.drop (i + 1)) = Bt.run Bt.start ts) := by
              unfold Hid
              rw [← HR.out, HD.out]
              conv => rhs; unfold Bt.run
              rw [if_neg hf]
            clear hf hl2
            rw [hg]
            go_wp2_with (go_at_call 20; refine (tk _ (HBA.out _).2).mono ?_; rintro e w5 ⟨rfl, ov5, pv5, tv5, hA5, hK5⟩; obtain ⟨xs5, hx5⟩ := id hA5.out; obtain ⟨oa5, od5, rfl⟩ := Um.form hx5.1; have e0 := hA5.c0; have HB5 := Lib.hid (hK5.low (HA.out.on (HBA.out _).2) (HBA.out _).1 hlo (Nat.le_refl _)); have HA5 := Lib.hid hA5; clear tk hA5 hK5 hx5)
            go_roundw
            case rel => exact ⟨i + 1, m.token T, r', bs', _, _, _, by omega, by go_num, HA5, HSI2, HS2, HT2, HR2, HB5⟩
            case measure => simp [intOf]; omega
        · have e : i = ts.length := by omega
          subst e
          have d1 : decide ((ts.length : Int) < (ts.length : Int)) = false := decide_eq_false (by omega)
          have HRR : Hid (Bt.run Bt.start ts = (m, true)) := by
            unfold Hid
            rw [← HR.out, List.drop_length]
            rfl
          have hrl : r.out.length = m.out.length := HSI.out.len.symm
          have et := Pg.endText base r bs wr wr g ov pv tv (Below.refl _ _) HA.out HSI.out.ok (by rw [hrl]; exact Nat.le_trans HS.out (by decide)) (by have h1 := HT.out; have h2 := HZ.out; rw [List.take_length] at h1; omega)
          rw [HSI.out.eq] at et
          clear hrl
          rw [hg]
          clear hg
          go_wp2_with (go_at_call 21; refine et.mono ?_; rintro e w5 ⟨rfl, w6, tv5, hA6, _, hs6, hb6, hK5⟩; have hA5 := hA6.on (by rw [hs6]; exact hb6); obtain ⟨xs5, hx5⟩ := id hA5.out; obtain ⟨oa5, od5, rfl⟩ := Um.form hx5.1; have e0 := hA5.c0; have HB5 := Lib.hid (hK5.low HA.out HB.out hlo (Nat.le_refl _)); have HA5 := Lib.hid hA5; clear et hA5 hK5 hx5 hA6 hs6 hb6)
          go_ret2
          refine ⟨HB5.out, .inr (.inr ⟨HALL.out, by rw [HRR.out], _, rfl, ?_⟩)⟩
          rw [HRR.out]
          exact HA5.out.out.lies.on fun k hk => ⟨⟨Nat.le_trans hlo hk.1, hk.2⟩, rfl⟩
end Go.Proofs.Ythfobjkdcncoiaa

/-
  THE WALK of the program's Build.
-/
import Derived.Test.YtblpkjlodncpeaaGreatDoorAWTaketoWMay2
import Derived.Test.YtblpkjlodncpeaaGreatDoorATToktoWNode
import Derived.Test.YtblpkjlodncpeaaGreatDoorAKShifttoTAny
namespace Go.Proofs.YtblpkjlodncpeaaGreatDoor
open Go.RowKit
theorem Pm.laid (W : World) : Pm.At W.heap.size (((W.alloc (.cells #[.int .i64 0, .string ⟨#[]⟩, .string ⟨#[]⟩, .slice none 0 0, .int .i64 (-1)] 48)).alloc (.cells #[.int .i64 0] 3)).alloc (.cells #[.slice (some ⟨W.heap.size, 0, none⟩) 1 1, .slice (some ⟨W.heap.size + 1, 0, none⟩) 1 1, .slice none 0 0] 87)) (W.heap.size + 1 + 1) Bt.start Ts.e (.slice (some ⟨W.heap.size, 0, none⟩) 1 1) (.slice (some ⟨W.heap.size + 1, 0, none⟩) 1 1) (.slice none 0 0) := by
  have h1 := World.ownsRow_lit (base := W.heap.size) (e := 48) (size := 5) W #[.int .i64 0, .string ⟨#[]⟩, .string ⟨#[]⟩, .slice none 0 0, .int .i64 (-1)] 1 (Nat.le_refl _) (by decide) rfl
  have h2 := World.ownsRow_lit (base := W.heap.size) (e := 3) (size := 1) (W.alloc (.cells #[.int .i64 0, .string ⟨#[]⟩, .string ⟨#[]⟩, .slice none 0 0, .int .i64 (-1)] 48)) #[.int .i64 0] 1 (by simp) (by decide) rfl
  rw [show (W.alloc (.cells #[.int .i64 0, .string ⟨#[]⟩, .string ⟨#[]⟩, .slice none 0 0, .int .i64 (-1)] 48)).heap.size = W.heap.size + 1 by simp] at h2
  obtain ⟨V, hV⟩ : ∃ V, (W.alloc (.cells #[.int .i64 0, .string ⟨#[]⟩, .string ⟨#[]⟩, .slice none 0 0, .int .i64 (-1)] 48)).alloc (.cells #[.int .i64 0] 3) = V := ⟨_, rfl⟩
  have hsV : V.heap.size = W.heap.size + 1 + 1 := by rw [← hV]; simp
  rw [hV] at h2 ⊢
  have h1' : V.ownsRow W.heap.size 48 5 (.slice (some ⟨W.heap.size, 0, none⟩) 1 1) 1 [.int .i64 0, .string ⟨#[]⟩, .string ⟨#[]⟩, .slice none 0 0, .int .i64 (-1)] := by rw [← hV]; exact h1.alloc _
  have hb := heap_alloc_new V (.cells #[.slice (some ⟨W.heap.size, 0, none⟩) 1 1, .slice (some ⟨W.heap.size + 1, 0, none⟩) 1 1, .slice none 0 0] 87)
  rw [hsV] at hb
  refine ⟨by omega, ?_, ?_, ?_, fun i => ?_, ?_, h2.alloc _, World.ownsRow_nil _ _ _ _, ?_, ?_, (fun e => by cases e), ?_, (fun _ _ e => by cases e), (fun _ _ e => by cases e)⟩
  · unfold World.cell?; rw [hb]; rfl
  · unfold World.cell?; rw [hb]; rfl
  · unfold World.cell?; rw [hb]; rfl
  · unfold World.frozen?; rw [hb]; simp
  · refine ⟨_, h1'.alloc _, fun i x hi => ?_⟩
    have : i = 0 := by
      have := (List.getElem?_eq_some_iff.1 hi).1
      simp [Bt.start] at this
      exact this
    subst this
    have hx : x = ⟨0, Ts.e, Ts.e, [], -1⟩ := by simpa [Bt.start] using hi.symm
    subst hx
    exact ⟨.slice none 0 0, fun r u hr => by rw [Nat.zero_mul, Nat.zero_add]; exact hr, Ak.Lies.nil _ _⟩
  · intro e
    have e : W.heap.size = W.heap.size + 1 + 1 := Option.some.inj e
    omega
  · intro e
    have e : W.heap.size + 1 = W.heap.size + 1 + 1 := Option.some.inj e
    omega
  · intro k hk hk2
    have e1 : W.heap.size = k := Option.some.inj hk
    have e2 : W.heap.size + 1 = k := Option.some.inj hk2
    omega
set_option maxRecDepth 100000 in
set_option maxHeartbeats 8000000 in
theorem Pg.build (ts : List Tk) (a : Option Addr) (d : Nat) (w : World) (h : Tk.Lies w (· < w.heap.size) ts (.slice a ts.length d)) (hz : Bt.bulk ts ≤ 140737488355328) :
    Calls Tryz.prog 20 #[.slice a ts.length d] w fun e w' => Below w.heap.size w w' ∧ ((¬ (∀ t ∈ ts, t.May) ∧ e = .returned (.tuple #[.slice none 0 0, .int .i64 700])) ∨ ((∀ t ∈ ts, t.May) ∧ (Bt.run Bt.start ts).2 = false ∧ e = .returned (.tuple #[.slice none 0 0, .int .i64 701])) ∨ ((∀ t ∈ ts, t.May) ∧ (Bt.run Bt.start ts).2 = true ∧ ∃ v, e = .returned (.tuple #[v, .int .i64 0]) ∧ Nd.Lies w' (fun k => w.heap.size ≤ k ∧ k < w'.heap.size ∧ Rm.Ub w' k) (Bt.run Bt.start ts).1.out v)) := by
  obtain ⟨hlen, hdm⟩ : ts.length ≤ d ∧ d ≤ maxLen := by
    obtain ⟨a', d', e, h1, h2, hx⟩ := h
    injection e with e1 e2 e3
    omega
  have hm63 : ts.length ≤ 9223372036854775807 := by unfold maxLen at hdm; omega
  have H := Lib.hid h
  have HZ := Lib.hid hz
  clear h hz hdm
  go_enter Tryz.func20, Tryz.ntmps20
  go_wp2_with fail
  go_loopw [11] (fun ix wr => ∃ i : Nat, i ≤ ts.length ∧ ix = .int .i64 (i : Int) ∧ Hid (∀ j t, j < i → ts[j]? = some t → t.May) ∧ Hid (Below w.heap.size w wr)) (fun ix _ => ts.length - (intOf ix).toNat)
  case atStart => exact ⟨0, Nat.zero_le _, rfl, (fun _ _ q _ => absurd q (Nat.not_lt_zero _)), Below.refl _ _⟩
  case round =>
    obtain ⟨i, hi, rfl, HM, HB⟩ := hrel
    by_cases hlt : i < ts.length
    · have d1 : decide ((i : Int) < (ts.length : Int)) = true := decide_eq_true (by omega)
      have HL : Hid (Tk.Lies wr (· < w.heap.size) ts (.slice a ts.length d)) := H.out.on fun k hk => ⟨hk, HB.out.block k hk⟩
      obtain ⟨b, o, aa, ad, rfl, c0, c1, c2, c3, c4, hl⟩ := Um.tokAt HL.out hlt
      have hbw : b < wr.heap.size := World.block_lt_of_cell? _ _ c0
      have n1 : wr.heap.size ≠ b := by omega
      have n2 : b ≠ wr.heap.size := by omega
      have hid : i < d := by omega
      have hws := HB.out.size
      obtain ⟨T, hT⟩ : ∃ T, ts[i] = T := ⟨_, rfl⟩
      rw [hT] at c0 c1 c2 c3 c4 hl
      have may := fun u (hu : Below wr.heap.size wr u) => Pg.mayBe T aa ad (fun _ => True) u ((Pg.liesAll hl).on fun k hk => ⟨trivial, hu.block k hk⟩)
      have HT : Hid (ts[i]? = some T) := by unfold Hid; rw [List.getElem?_eq_getElem hlt, hT]
      clear hT HL hl
      by_cases hmay : T.May
      · have HM2 : Hid (∀ j t, j < i + 1 → ts[j]? = some t → t.May) := fun j t hj ht => by
          by_cases e : j = i
          · subst e
            rw [HT.out] at ht
            injection ht with ht
            rw [← ht]
            exact hmay
          · exact HM.out j t (by omega) ht
        have HMY := Lib.hid hmay
        clear hmay
        go_wp2_with (go_at_call 37; refine (may _ ((Below.refl _ _).alloc (Nat.le_refl _) _)).mono ?_; rintro e w2 ⟨bb, rfl, hbb, hb2⟩; have hbb := hbb.2 HMY.out; subst hbb; have HB2 := Lib.hid ((HB.out.alloc hws _).trans (hb2.mono (by simp; omega))); clear may hb2)
        go_roundw
        case rel => exact ⟨i + 1, by omega, by go_num, HM2, HB2⟩
        case measure => simp [intOf]; omega
      · have HMY := Lib.hid hmay
        clear hmay
        go_wp2_with (go_at_call 37; refine (may _ ((Below.refl _ _).alloc (Nat.le_refl _) _)).mono ?_; rintro e w2 ⟨bb, rfl, hbb, hb2⟩; have hbb : bb = false := (by cases bb; rfl; exact absurd (hbb.1 rfl) HMY.out); subst hbb; have HB2 := Lib.hid ((HB.out.alloc hws _).trans (hb2.mono (by simp; omega))); clear may hb2)
        go_ret2
        exact ⟨HB2.out, .inl ⟨fun q => HMY.out (q T (List.mem_of_getElem? HT.out)), rfl⟩⟩
    · have e : i = ts.length := by omega
      subst e
      have d1 : decide ((ts.length : Int) < (ts.length : Int)) = false := decide_eq_false (by omega)
      have HALL : Hid (∀ t ∈ ts, t.May) := fun t ht => by
        obtain ⟨j, hj⟩ := List.getElem?_of_mem ht
        exact HM.out j t (List.getElem?_eq_some_iff.1 hj).1 hj
      clear HM hi
      go_wp2_with fail
      have hA0 := Pm.laid wr
      obtain ⟨W, hW⟩ : ∃ W, ((wr.alloc (.cells #[.int .i64 0, .string ⟨#[]⟩, .string ⟨#[]⟩, .slice none 0 0, .int .i64 (-1)] 48)).alloc (.cells #[.int .i64 0] 3)).alloc (.cells #[.slice (some ⟨wr.heap.size, 0, none⟩) 1 1, .slice (some ⟨wr.heap.size + 1, 0, none⟩) 1 1, .slice none 0 0] 87) = W := ⟨_, rfl⟩
      have hbW : Below w.heap.size w W := by rw [← hW]; exact ((HB.out.alloc HB.out.size _).alloc (by simp; have := HB.out.size; omega) _).alloc (by simp; have := HB.out.size; omega) _
      rw [hW] at hA0
      rw [hW]
      have hlo : w.heap.size ≤ wr.heap.size := HB.out.size
      have HA0 := Lib.hid hA0
      have HBW := Lib.hid hbW
      clear hW hA0 hbW HB
      generalize wr.heap.size = base at *
      go_loopw [25] (fun ix wz => ∃ (i : Nat) (m r : Bt) (bs : ByteArray) (ov pv tv : Value), i ≤ ts.length ∧ ix = .int .i64 (i : Int) ∧ Hid (Pm.At base wz (base + 1 + 1) r bs ov pv tv) ∧ Hid (Pb.Sim m r bs) ∧ Hid (m.out.length ≤ 4096) ∧ Hid (bs.size ≤ Bt.bulk (ts.take i)) ∧ Hid (Bt.run m (ts.drop i) = Bt.run Bt.start ts) ∧ Hid (Below w.heap.size w wz)) (fun ix _ => ts.length - (intOf ix).toNat)
      case atStart => exact ⟨0, Bt.start, Bt.start, Ts.e, _, _, _, Nat.zero_le _, rfl, HA0.out, Pb.Sim.start, (by unfold Hid; decide), Nat.zero_le _, rfl, HBW.out⟩
      case round =>
        clear HA0 HBW
        obtain ⟨i, m, r, bs, ov, pv, tv, hi, rfl, HA, HSI, HS, HT, HR, HB⟩ := hrel
        obtain ⟨g, hg⟩ : ∃ g, base + 1 + 1 = g := ⟨_, rfl⟩
        rw [hg] at HA
        have hgb : w.heap.size ≤ g := by omega
        by_cases hlt : i < ts.length
        · have d1 : decide ((i : Int) < (ts.length : Int)) = true := decide_eq_true (by omega)
          have HL : Hid (Tk.Lies wr (· < w.heap.size) ts (.slice a ts.length d)) := H.out.on fun k hk => ⟨hk, HB.out.block k hk⟩
          obtain ⟨b, o, aa, ad, rfl, c0, c1, c2, c3, c4, hl⟩ := Um.tokAt HL.out hlt
          have hid : i < d := by omega
          have hbw : b < wr.heap.size := World.block_lt_of_cell? _ _ c0
          have n1 : wr.heap.size ≠ b := by omega
          have n2 : b ≠ wr.heap.size := by omega
          have hgw := HA.out.lt
          have n3 : wr.heap.size ≠ g := by omega
          have n4 : g ≠ wr.heap.size := by omega
          obtain ⟨T, hT⟩ : ∃ T, ts[i] = T := ⟨_, rfl⟩
          have hbk := Um.bulk_take ts i hlt
          rw [hT] at c0 c1 c2 c3 c4 hl hbk
          have hble := Um.bulk_le ts (i + 1)
          have hmem : T ∈ ts := by rw [← hT]; exact List.getElem_mem hlt
          have hrl : r.out.length = m.out.length := HSI.out.len.symm
          have tk := fun u (hu : Below wr.heap.size wr u) => Pg.take base r bs T aa T.attrs.length ad (fun _ => True) u g ov pv tv (HA.out.on hu) HSI.out.ok (by rw [hrl]; exact Nat.le_trans HS.out (by decide)) (by have := HT.out; have := HZ.out; omega) ((Pg.liesAll hl).on fun k hk => ⟨trivial, hu.block k hk⟩) (HALL.out T hmem)
          have HT2 : Hid ((Pb.take r bs T).2.size ≤ Bt.bulk (ts.take (i + 1))) := by unfold Hid; rw [hbk]; have := Pb.take_bulk r bs T; have := HT.out; omega
          have HD : Hid (ts.drop i = T :: ts.drop (i + 1)) := by unfold Hid; rw [← hT]; exact List.drop_eq_getElem_cons hlt
          have HSI2 := Lib.hid (HSI.out.take T)
          have hl2 : (m.token T).out.length = (Pb.take r bs T).1.out.length := (HSI.out.take T).len
          have hws := HB.out.size
          have HBA : Hid (∀ o, Below w.heap.size w (wr.alloc o) ∧ Below wr.heap.size wr (wr.alloc o)) := fun o => ⟨HB.out.alloc hws _, (Below.refl _ _).alloc (Nat.le_refl _) _⟩
          clear hl hT HL hbk hble hmem hrl
          generalize (Pb.take r bs T).1 = r' at *
          generalize (Pb.take r bs T).2 = bs' at *
          by_cases hf : 4096 < (m.token T).out.length
          · have d2 : decide ((4096 : Int) < (r'.out.length : Int)) = true := decide_eq_true (by omega)
            have HRF : Hid ((Bt.run Bt.start ts).2 = false) := by
              unfold Hid
              rw [← HR.out, HD.out]
              unfold Bt.run
              rw [if_pos hf]
            clear hf hl2
            rw [hg]
            clear hg
            go_wp2_with (go_at_call 38; refine (tk _ (HBA.out _).2).mono ?_; rintro e w5 ⟨rfl, ov5, pv5, tv5, hA5, hK5⟩; obtain ⟨xs5, hx5⟩ := id hA5.out; obtain ⟨oa5, od5, rfl⟩ := Um.form hx5.1; have e0 := hA5.c0; have HB5 := Lib.hid (hK5.low (HA.out.on (HBA.out _).2) (HBA.out _).1 hlo (Nat.le_refl _)); clear tk hA5 hK5 hx5)
            go_ret2
            exact ⟨HB5.out, .inr (.inl ⟨HALL.out, HRF.out, rfl⟩)⟩
          · have d2 : decide ((4096 : Int) < (r'.out.length : Int)) = false := decide_eq_false (by omega)
            have HS2 : Hid ((m.token T).out.length ≤ 4096) := by unfold Hid; omega
            have HR2 : Hid (Bt.run (m.token T) (ts.drop (i + 1)) = Bt.run Bt.start ts) := by
              unfold Hid
              rw [← HR.out, HD.out]
              conv => rhs; unfold Bt.run
              rw [if_neg hf]
            clear hf hl2
            rw [hg]
            go_wp2_with (go_at_call 38; refine (tk _ (HBA.out _).2).mono ?_; rintro e w5 ⟨rfl, ov5, pv5, tv5, hA5, hK5⟩; obtain ⟨xs5, hx5⟩ := id hA5.out; obtain ⟨oa5, od5, rfl⟩ := Um.form hx5.1; have e0 := hA5.c0; have HB5 := Lib.hid (hK5.low (HA.out.on (HBA.out _).2) (HBA.out _).1 hlo (Nat.le_refl _)); have HA5 := Lib.hid hA5; clear tk hA5 hK5 hx5)
            go_roundw
            case rel => exact ⟨i + 1, m.token T, r', bs', _, _, _, by omega, by go_num, HA5, HSI2, HS2, HT2, HR2, HB5⟩
            case measure => simp [intOf]; omega
        · have e : i = ts.length := by omega
          subst e
          have d1 : decide ((ts.length : Int) < (ts.length : Int)) = false := decide_eq_false (by omega)
          have HRR : Hid (Bt.run Bt.start ts = (m, true)) := by
            unfold Hid
            rw [← HR.out, List.drop_length]
            rfl
          have hrl : r.out.length = m.out.length := HSI.out.len.symm
          have et := Pg.endText base r bs wr wr g ov pv tv (Below.refl _ _) HA.out HSI.out.ok (by rw [hrl]; exact Nat.le_trans HS.out (by decide)) (by have h1 := HT.out; have h2 := HZ.out; rw [List.take_length] at h1; omega)
          rw [HSI.out.eq] at et
          clear hrl
          rw [hg]
          clear hg
          go_wp2_with (go_at_call 39; refine et.mono ?_; rintro e w5 ⟨rfl, w6, tv5, hA6, _, hs6, hb6, hK5⟩; have hA5 := hA6.on (by rw [hs6]; exact hb6); obtain ⟨xs5, hx5⟩ := id hA5.out; obtain ⟨oa5, od5, rfl⟩ := Um.form hx5.1; have e0 := hA5.c0; have HB5 := Lib.hid (hK5.low HA.out HB.out hlo (Nat.le_refl _)); have HA5 := Lib.hid hA5; clear et hA5 hK5 hx5 hA6 hs6 hb6)
          go_ret2
          refine ⟨HB5.out, .inr (.inr ⟨HALL.out, by rw [HRR.out], _, rfl, ?_⟩)⟩
          rw [HRR.out]
          exact HA5.out.out.lies.on fun k hk => ⟨⟨Nat.le_trans hlo hk.1, hk.2⟩, rfl⟩
end Go.Proofs.YtblpkjlodncpeaaGreatDoor
/-
  THE WALK of the program's Parse.
-/
namespace Go.Proofs.YtblpkjlodncpeaaGreatDoor
open Go.RowKit
set_option maxRecDepth 100000 in
set_option maxHeartbeats 4000000 in
theorem Pq.parse (m : Int) (s : ByteArray) (ns : List Nd) (k : Int) (hI : Kp.Is s ns k) (w : World) (hs : s.size ≤ maxLen) (hm : w.cell? ⟨1, 0, none⟩ = some (.int .i64 m)) :
    Calls Tryz.prog 7 #[.string s] w fun e w' => ∃ a d, e = .returned (.tuple #[.slice a ns.length d, .int .i64 k]) ∧ Nd.Lies w' (fun j => w.heap.size ≤ j ∧ j < w'.heap.size ∧ Rm.Ub w' j) ns (.slice a ns.length d) ∧ Below w.heap.size w w' := by
  rcases hI with ⟨hl, rfl, rfl⟩ | ⟨hsh, hrest⟩
  · have tk := Tk.long s w hl hs
    go_enter Tryz.func7, Tryz.ntmps7
    go_wp2_with (go_at_call 19; refine tk.mono ?_; rintro e w1 ⟨rfl, hw1⟩; have hw1 := hw1.symm; subst hw1; clear tk)
    go_ret2
    exact ⟨none, 0, rfl, Nm.nilNodes _ _, Below.refl _ _⟩
  · have tk := Tk.short s m w hsh hm
    have hbk := Kp.bulk s hsh
    have HR := Lib.hid hrest
    clear hrest
    go_enter Tryz.func7, Tryz.ntmps7
    go_wp2_with (first | (go_at_call 19; refine tk.mono ?_; rintro e w1 ⟨v1, rfl, hl1, hb1⟩; clear tk; obtain ⟨a1, d1, rfl⟩ := Nm.toksForm hl1; have bu := Pg.build (Rd.tokens s) a1 d1 w1 (hl1.on fun j hj => ⟨hj.2, rfl⟩) hbk; have HB1 := Lib.hid hb1; clear hl1 hb1) | (go_at_call 20; refine bu.mono ?_; rintro e w2 ⟨hb2, hc⟩; clear bu; obtain ⟨a2, d2, he, hl2⟩ : ∃ a2 d2, e = .returned (.tuple #[.slice a2 ns.length d2, .int .i64 k]) ∧ Nd.Lies w2 (fun j => w1.heap.size ≤ j ∧ j < w2.heap.size ∧ Rm.Ub w2 j) ns (.slice a2 ns.length d2) := (by rcases HR.out with ⟨hm, hn, hk⟩ | ⟨hm, hr, hn, hk⟩ | ⟨hm, hr, hn, hk⟩ <;> subst hn <;> subst hk <;> rcases hc with ⟨q, he⟩ | ⟨q, q2, he⟩ | ⟨q, q2, v, he, hl⟩; exact ⟨none, 0, he, Nm.nilNodes _ _⟩; exact absurd q hm; exact absurd q hm; exact absurd hm q; exact ⟨none, 0, he, Nm.nilNodes _ _⟩; (rw [hr] at q2; cases q2); exact absurd hm q; (rw [hr] at q2; cases q2); (obtain ⟨a', d', e', r⟩ := id hl; subst e'; exact ⟨a', d', he, hl⟩)); subst he; have HL2 := Lib.hid hl2; have HB2 := Lib.hid (HB1.out.trans (hb2.mono HB1.out.size)); have hs1 := HB1.out.size; clear hc hl2 hb2))
    go_ret2
    exact ⟨a2, d2, rfl, HL2.out.on fun j hj => ⟨⟨by omega, hj.2⟩, rfl⟩, HB2.out⟩
end Go.Proofs.YtblpkjlodncpeaaGreatDoor
/-
  PLAIN: a page of elements side by side and one within the other: its tokens, its lines.
-/
namespace Go.Proofs.YtblpkjlodncpeaaGreatDoor
def Kr.dg (i : Nat) : List UInt8 := if i < 10 then [UInt8.ofNat (48 + i)] else [UInt8.ofNat (48 + i / 10), UInt8.ofNat (48 + i % 10)]
theorem Kr.dec (i : Nat) (h : i < 100) : Lib.decDigits i = Kr.dg i := by
  rw [Lib.decDigits]
  unfold Kr.dg
  by_cases c : i < 10
  · rw [dif_pos c, if_pos c]
  · rw [dif_neg c, if_neg c, Lib.decDigits, dif_pos (by omega)]
    rfl
def Kr.piece (k i : Nat) : List UInt8 :=
  match k with
  | 0 => [60, 117, 32, 107, 61, 39] ++ (Kr.dg i ++ [39, 62])
  | 1 => [60, 98, 114, 62] ++ Kr.dg i
  | 2 => [60, 33, 99] ++ (Kr.dg i ++ [62])
  | _ => [60, 47, 117, 62]
def Kr.tok (k i : Nat) : Tk :=
  match k with
  | 0 => ⟨1, ⟨#[117]⟩, Ts.e, [(⟨#[107]⟩, ⟨(Kr.dg i).toArray⟩)], false⟩
  | 1 => ⟨1, ⟨#[98, 114]⟩, Ts.e, [], false⟩
  | 2 => ⟨3, Ts.e, ⟨(99 :: Kr.dg i).toArray⟩, [], false⟩
  | _ => ⟨2, ⟨#[117]⟩, Ts.e, [], false⟩
/-- a scan between two tags -/
structure Kr.Ready (x : Rf) : Prop where
  st : x.st = Ts.start
  hold : x.hold < 0
  attrs : x.attrs = []
  has : x.has = false
def Kr.Out (y : Rf) (t : Tk) : Prop := y.st = Ts.start ∧ y.hold < 0 ∧ y.attrs = [] ∧ y.has = false ∧ Sb.bare y.out = [t]
instance (y : Rf) (t : Tk) : Decidable (Kr.Out y t) := by unfold Kr.Out; infer_instance
theorem Kr.small : ∀ i, i < 30 → ∀ k, k < 4 → Kr.Out (Rf.run ⟨(Kr.piece k i).toArray⟩ Rf.start 0 (Kr.piece k i)) (Kr.tok k i) := by decide +kernel
theorem Kr.page (A Q B : List UInt8) : Ks.Page ⟨(A ++ (Q ++ B)).toArray⟩ ⟨Q.toArray⟩ A.length := fun a b hab hb => by
  have hb : b ≤ Q.length := by
    have : b ≤ Q.toArray.size := hb
    simpa using this
  apply ByteArray.ext
  rw [ByteArray.data_extract, ByteArray.data_extract]
  apply Array.ext'
  simp only [List.extract_toArray, List.extract_eq_take_drop]
  rw [show a + A.length = A.length + a by omega, List.drop_append, List.drop_of_length_le (by omega), List.nil_append, show A.length + a - A.length = a by omega, List.drop_append, List.take_append_of_le_length (by rw [List.length_drop]; omega)]
  congr 1
  omega
theorem Kr.step (A B : List UInt8) (k i : Nat) (hi : i < 30) (hk : k < 4) {x : Rf} (h : Kr.Ready x) : Kr.Ready (Rf.run ⟨(A ++ (Kr.piece k i ++ B)).toArray⟩ x A.length (Kr.piece k i)) ∧ Sb.bare (Rf.run ⟨(A ++ (Kr.piece k i ++ B)).toArray⟩ x A.length (Kr.piece k i)).out = Sb.bare x.out ++ [Kr.tok k i] := by
  have hs : Ks.Sh (Sb.bare x.out) A.length x Rf.start := ⟨h.st, .inl ⟨by decide, h.hold⟩, (List.append_nil _).symm, h.attrs, h.has, fun e => absurd e (by decide), fun e => absurd e (by decide)⟩
  have hr := Ks.Sh.run (Kr.page A (Kr.piece k i) B) (Kr.piece k i) hs (Rf.Sim.start _) (by show 0 + (Kr.piece k i).length ≤ (Kr.piece k i).toArray.size; simp)
  rw [Nat.zero_add] at hr
  obtain ⟨a1, a2, a3, a4, a5⟩ := Kr.small i hi k hk
  refine ⟨⟨hr.st.trans a1, ?_, hr.attrs.trans a3, hr.has.trans a4⟩, by rw [hr.out, a5]⟩
  rcases hr.hold with q | q
  · exact q.2
  · omega
def Kr.bytes : Nat → List Nat → List UInt8
  | _, [] => []
  | i, k :: l => Kr.piece k i ++ Kr.bytes (i + 1) l
def Kr.toks : Nat → List Nat → List Tk
  | _, [] => []
  | i, k :: l => Kr.tok k i :: Kr.toks (i + 1) l
theorem Kr.run : ∀ (l : List Nat) (i : Nat) (A : List UInt8) {x : Rf}, Kr.Ready x → i + l.length ≤ 30 → (∀ k ∈ l, k < 4) → Sb.bare (Rf.run ⟨(A ++ Kr.bytes i l).toArray⟩ x A.length (Kr.bytes i l)).out = Sb.bare x.out ++ Kr.toks i l
  | [], _, _, _, _, _, _ => (List.append_nil _).symm
  | k :: l, i, A, x, h, hl, hk => by
    have hl : i + (l.length + 1) ≤ 30 := hl
    obtain ⟨h1, h2⟩ := Kr.step A (Kr.bytes (i + 1) l) k i (by omega) (hk k List.mem_cons_self) h
    have h3 := Kr.run l (i + 1) (A ++ Kr.piece k i) h1 (by omega) (fun q hq => hk q (List.mem_cons_of_mem _ hq))
    show Sb.bare (Rf.run ⟨(A ++ (Kr.piece k i ++ Kr.bytes (i + 1) l)).toArray⟩ x A.length (Kr.piece k i ++ Kr.bytes (i + 1) l)).out = _
    rw [Ks.run_append]
    rw [List.append_assoc, List.length_append] at h3
    rw [h3, h2, List.append_assoc]
    rfl
theorem Kr.lines_id : ∀ (l : List UInt8), (∀ c ∈ l, c ≠ 13) → Rd.lines l = l
  | [], _ => rfl
  | c :: l, h => by
    have hc : c ≠ 13 := h c List.mem_cons_self
    rw [Rd.lines.eq_3 c l (fun _ e => absurd e hc), if_neg hc, Kr.lines_id l (fun d hd => h d (List.mem_cons_of_mem _ hd))]
theorem Kr.no13 : ∀ i, i < 30 → ∀ k, k < 4 → (∀ c ∈ Kr.piece k i, c ≠ 13) ∧ (Kr.piece k i).length ≤ 10 ∧ (Kr.tok k i).name.size ≤ 2 := by decide +kernel
theorem Kr.bytes_fine : ∀ (l : List Nat) (i : Nat), i + l.length ≤ 30 → (∀ k ∈ l, k < 4) → (∀ c ∈ Kr.bytes i l, c ≠ 13) ∧ (Kr.bytes i l).length ≤ l.length * 10
  | [], _, _, _ => ⟨fun _ h => (nomatch h), Nat.zero_le _⟩
  | k :: l, i, hl, hk => by
    have hl : i + (l.length + 1) ≤ 30 := hl
    obtain ⟨a1, a2⟩ := Kr.bytes_fine l (i + 1) (by omega) (fun q hq => hk q (List.mem_cons_of_mem _ hq))
    obtain ⟨b1, b2, _⟩ := Kr.no13 i (by omega) k (hk k List.mem_cons_self)
    refine ⟨fun c hc => ?_, ?_⟩
    · rcases List.mem_append.1 (show c ∈ Kr.piece k i ++ Kr.bytes (i + 1) l from hc) with q | q
      · exact b1 c q
      · exact a1 c q
    · show (Kr.piece k i ++ Kr.bytes (i + 1) l).length ≤ (l.length + 1) * 10
      rw [List.length_append]
      omega
/-- the page's tokens, texts left away -/
theorem Kr.tokens (l : List Nat) (hl : l.length ≤ 30) (hk : ∀ k ∈ l, k < 4) : Sb.bare (Rd.tokens ⟨(Kr.bytes 0 l).toArray⟩) = Kr.toks 0 l := by
  rw [Ks.tokens, Kr.lines_id _ (by show ∀ c ∈ (Kr.bytes 0 l).toArray.toList, c ≠ 13; rw [List.toList_toArray]; exact (Kr.bytes_fine l 0 (by omega) hk).1)]
  show Sb.bare (Ks.toks (Kr.bytes 0 l)) = _
  unfold Ks.toks
  rw [Ks.done_bare]
  have := Kr.run l 0 [] (x := Rf.start) ⟨rfl, by decide, rfl, rfl⟩ (by omega) hk
  rw [List.nil_append] at this
  exact this
theorem Kr.may (k i : Nat) : (Kr.tok k i).May := by
  have hn : ∀ (t : Tk), (t.kind = 1 ∨ (t.kind = 2 ∧ t.attrs = [] ∧ t.self = false)) → t.name ≠ Ts.e → t.text = Ts.e → t.attrs = [] → t.May := fun t h1 h2 h3 h4 => .inr ⟨h1, h2, h3, by rw [h4]; exact Nat.zero_le _, by rw [h4]; exact fun _ _ h => absurd h (Nat.not_lt_zero _)⟩
  unfold Kr.tok
  split
  · refine .inr ⟨.inl rfl, show (⟨#[117]⟩ : ByteArray) ≠ Ts.e by decide, rfl, show 1 ≤ 32 by decide, fun j x hj hx => ?_⟩
    have hj : j < 1 := hj
    have hj0 : j = 0 := by omega
    subst hj0
    have hx : x = (⟨#[107]⟩, ⟨(Kr.dg i).toArray⟩) := by simpa using hx.symm
    subst hx
    exact ⟨show (⟨#[107]⟩ : ByteArray) ≠ Ts.e by decide, fun q y hq => absurd hq (Nat.not_lt_zero _)⟩
  · exact hn _ (.inl rfl) (by decide) rfl rfl
  · exact .inl ⟨.inr rfl, rfl, rfl, rfl⟩
  · exact hn _ (.inr ⟨rfl, rfl, rfl⟩) (by decide) rfl rfl
theorem Kr.room : ∀ (ts : List Tk) (m : Bt), m.out.length + ts.length ≤ 4096 → (Bt.run m ts).2 = true
  | [], _, _ => rfl
  | t :: ts, m, h => by
    have h : m.out.length + (ts.length + 1) ≤ 4096 := h
    have := (Bt.token_len m t).2
    unfold Bt.run
    rw [if_neg (by omega)]
    exact Kr.room ts _ (by omega)
theorem Kr.toks_may : ∀ (l : List Nat) (i : Nat), ∀ t ∈ Kr.toks i l, t.May
  | [], _, _, h => (nomatch h)
  | k :: l, i, t, h => by
    rcases List.mem_cons.1 (show t ∈ Kr.tok k i :: Kr.toks (i + 1) l from h) with q | q
    · rw [q]; exact Kr.may k i
    · exact Kr.toks_may l (i + 1) t q
/-- the page is read -/
theorem Kr.is (l : List Nat) (hl : l.length ≤ 30) (hk : ∀ k ∈ l, k < 4) : ∃ ns, Kp.Is ⟨(Kr.bytes 0 l).toArray⟩ ns 0 ∧ Sk.skel ns = (Sb.start.run (Kr.toks 0 l)).out := by
  have hsz : (⟨(Kr.bytes 0 l).toArray⟩ : ByteArray).size ≤ 300 := by
    show (Kr.bytes 0 l).toArray.size ≤ 300
    have := (Kr.bytes_fine l 0 (by omega) hk).2
    simp
    omega
  obtain ⟨h1, h2⟩ := Kp.toks ⟨(Kr.bytes 0 l).toArray⟩
  have hmay : ∀ t ∈ Rd.tokens ⟨(Kr.bytes 0 l).toArray⟩, t.May := fun t ht => by
    by_cases h0 : t.kind = 0
    · obtain ⟨e1, e2, e3⟩ := (h1 t ht).2 h0
      exact .inl ⟨.inl h0, e1, e2, e3⟩
    · refine Kr.toks_may l 0 t ?_
      rw [← Kr.tokens l hl hk]
      exact List.mem_filter.2 ⟨ht, by simp [h0]⟩
  have hroom : (Bt.run Bt.start (Rd.tokens ⟨(Kr.bytes 0 l).toArray⟩)).2 = true := Kr.room _ Bt.start (by show 1 + _ ≤ 4096; omega)
  refine ⟨_, .inr ⟨by omega, .inr (.inr ⟨hmay, hroom, rfl, rfl⟩)⟩, ?_⟩
  rw [Sb.skel _ hroom, Sb.run_bare, Kr.tokens l hl hk]
/-- what the law reckons: the numbers of those open, how many there are, the lines -/
structure Kr.Law where
  deep : List Nat
  many : Nat
  want : List UInt8
def Kr.Law.start : Kr.Law := ⟨[0], 0, []⟩
def Kr.Law.up (s : Kr.Law) : List UInt8 := Lib.decDigits (s.deep.getLastD 0)
def Kr.Law.step (s : Kr.Law) (k i : Nat) : Kr.Law :=
  match k with
  | 0 => ⟨s.deep ++ [s.many + 1], s.many + 1, s.want ++ (s.up ++ [32, 101, 32, 117, 32, 107, 10])⟩
  | 1 => ⟨s.deep, s.many + 1, s.want ++ (s.up ++ [32, 101, 32, 98, 114, 10])⟩
  | 2 => ⟨s.deep, s.many + 1, s.want ++ (s.up ++ ([32, 99, 32, 99] ++ (Kr.dg i ++ [10])))⟩
  | _ => ⟨if 1 < s.deep.length then s.deep.take (s.deep.length - 1) else s.deep, s.many, s.want⟩
def Kr.Law.run (s : Kr.Law) : Nat → List Nat → Kr.Law
  | _, [] => s
  | i, k :: l => Kr.Law.run (s.step k i) (i + 1) l
structure Kr.Rel (s : Kr.Law) (b : Sb) (i : Nat) : Prop where
  pos : 0 < s.deep.length
  len : s.deep.length ≤ i + 1
  count : b.count = s.many
  out : b.out = s.want
  olen : b.opn.length = s.deep.length
  num : ∀ j q, s.deep[j]? = some q → ∃ n, b.opn[j]? = some (q, n) ∧ (0 < j → n = ⟨#[117]⟩)
theorem Kr.Rel.start : Kr.Rel Kr.Law.start Sb.start 0 := by
  refine ⟨by decide, by decide, rfl, rfl, rfl, fun j q h => ?_⟩
  have hj : j = 0 := by
    have := (List.getElem?_eq_some_iff.1 h).1
    simp [Kr.Law.start] at this
    exact this
  subst hj
  have hq : q = 0 := by simpa [Kr.Law.start] using h.symm
  subst hq
  exact ⟨Ts.e, rfl, fun h => absurd h (by decide)⟩
theorem Kr.Rel.top {s : Kr.Law} {b : Sb} {i : Nat} (h : Kr.Rel s b i) : Lib.decDigits b.top = s.up := by
  unfold Sb.top Kr.Law.up
  congr 1
  rw [List.getLastD_eq_getLast?, List.getLastD_eq_getLast?, List.getLast?_eq_getElem?, List.getLast?_eq_getElem?, h.olen]
  obtain ⟨q, hq⟩ : ∃ q, s.deep[s.deep.length - 1]? = some q := ⟨_, List.getElem?_eq_getElem (by have := h.pos; omega)⟩
  obtain ⟨n, hn, _⟩ := h.num _ _ hq
  rw [hq, hn]
  rfl
theorem Kr.Rel.step {s : Kr.Law} {b : Sb} {i : Nat} (h : Kr.Rel s b i) (hi : i < 30) (k : Nat) : Kr.Rel (s.step k i) (b.token (Kr.tok k i)) (i + 1) := by
  have hlen := h.len
  have hpos := h.pos
  unfold Kr.Law.step Kr.tok
  split
  · have e : b.token ⟨1, ⟨#[117]⟩, Ts.e, [(⟨#[107]⟩, ⟨(Kr.dg i).toArray⟩)], false⟩ = { b.node ⟨1, ⟨#[117]⟩, Ts.e, [(⟨#[107]⟩, ⟨(Kr.dg i).toArray⟩)], 0⟩ with opn := b.opn ++ [(b.count + 1, ⟨#[117]⟩)] } := by
      unfold Sb.token
      rw [if_neg (show ¬ (1 : Int) = 3 by decide), if_pos rfl, if_pos ⟨show Ts.kind ⟨#[117]⟩ ≠ 1 by decide +kernel, by rw [h.olen]; omega⟩]
    rw [e]
    refine ⟨by simp, by simp; omega, by show b.count + 1 = _; rw [h.count], ?_, by simp [h.olen], fun j q hj => ?_⟩
    · show b.out ++ Sk.line b.top _ = _
      unfold Sk.line
      rw [h.out, h.top, if_neg (show ¬ (1 : Int) = 3 by decide)]
      rfl
    · by_cases c : j < s.deep.length
      · rw [List.getElem?_append_left c] at hj
        obtain ⟨n, h1, h2⟩ := h.num j q hj
        exact ⟨n, by show (b.opn ++ _)[j]? = _; rw [List.getElem?_append_left (by rw [h.olen]; exact c)]; exact h1, h2⟩
      · have hj' := (List.getElem?_eq_some_iff.1 hj).1
        simp at hj'
        have hje : j = s.deep.length := by omega
        subst hje
        rw [List.getElem?_append_right (Nat.le_refl _), Nat.sub_self] at hj
        have hq : q = s.many + 1 := by simpa using hj.symm
        subst hq
        refine ⟨⟨#[117]⟩, ?_, fun _ => rfl⟩
        show (b.opn ++ _)[s.deep.length]? = _
        rw [← h.olen, List.getElem?_append_right (Nat.le_refl _), Nat.sub_self, h.count]
        rfl
  · have e : b.token ⟨1, ⟨#[98, 114]⟩, Ts.e, [], false⟩ = b.node ⟨1, ⟨#[98, 114]⟩, Ts.e, [], 0⟩ := by
      unfold Sb.token
      rw [if_neg (show ¬ (1 : Int) = 3 by decide), if_pos rfl, if_neg (fun q => q.1 (by decide +kernel))]
    rw [e]
    refine ⟨hpos, by show s.deep.length ≤ _; omega, by show b.count + 1 = _; rw [h.count], ?_, h.olen, h.num⟩
    show b.out ++ Sk.line b.top _ = _
    unfold Sk.line
    rw [h.out, h.top, if_neg (show ¬ (1 : Int) = 3 by decide)]
    rfl
  · have e : b.token ⟨3, Ts.e, ⟨(99 :: Kr.dg i).toArray⟩, [], false⟩ = b.node ⟨3, Ts.e, ⟨(99 :: Kr.dg i).toArray⟩, [], 0⟩ := by
      unfold Sb.token
      rw [if_pos rfl]
    rw [e]
    refine ⟨hpos, by show s.deep.length ≤ _; omega, by show b.count + 1 = _; rw [h.count], ?_, h.olen, h.num⟩
    show b.out ++ Sk.line b.top _ = _
    unfold Sk.line
    rw [h.out, h.top, if_pos rfl]
    rfl
  · have e : b.token ⟨2, ⟨#[117]⟩, Ts.e, [], false⟩ = if b.find ⟨#[117]⟩ b.opn.length = 0 then b else { b with opn := b.opn.take (b.find ⟨#[117]⟩ b.opn.length) } := by
      unfold Sb.token
      rw [if_neg (show ¬ (2 : Int) = 3 by decide), if_neg (show ¬ (2 : Int) = 1 by decide), if_pos rfl]
    rw [e, h.olen]
    by_cases c : 1 < s.deep.length
    · obtain ⟨q, hq⟩ : ∃ q, s.deep[s.deep.length - 1]? = some q := ⟨_, List.getElem?_eq_getElem (by omega)⟩
      obtain ⟨n, hn, hu⟩ := h.num _ _ hq
      have hu := hu (by omega)
      subst hu
      have hf : b.find ⟨#[117]⟩ s.deep.length = s.deep.length - 1 := by
        obtain ⟨d, hd⟩ : ∃ d, s.deep.length = d + 1 := ⟨s.deep.length - 1, by omega⟩
        rw [hd]
        rw [hd] at hn
        unfold Sb.find
        rw [if_neg (by omega), if_pos (by rw [List.getD_eq_getElem?_getD]; rw [show d + 1 - 1 = d by omega] at hn; rw [hn]; rfl)]
        rfl
      rw [hf, if_neg (show ¬ s.deep.length - 1 = 0 by omega), if_pos c]
      refine ⟨by show 0 < (s.deep.take _).length; rw [List.length_take]; omega, by show (s.deep.take _).length ≤ _; rw [List.length_take]; omega, h.count, h.out, by show (b.opn.take _).length = (s.deep.take _).length; rw [List.length_take, List.length_take, h.olen], fun j q hj => ?_⟩
      have hj' : (s.deep.take (s.deep.length - 1))[j]? = some q := hj
      rw [List.getElem?_take] at hj'
      split at hj'
      · next r =>
        obtain ⟨n, h1, h2⟩ := h.num j q hj'
        exact ⟨n, by show (b.opn.take _)[j]? = _; rw [List.getElem?_take, if_pos r]; exact h1, h2⟩
      · cases hj'
    · have hl1 : s.deep.length = 1 := by omega
      have hf : b.find ⟨#[117]⟩ s.deep.length = 0 := by rw [hl1]; rfl
      rw [if_pos hf, if_neg c]
      exact ⟨hpos, by show s.deep.length ≤ _; omega, h.count, h.out, h.olen, h.num⟩
theorem Kr.Rel.run : ∀ (l : List Nat) {s : Kr.Law} {b : Sb} {i : Nat}, Kr.Rel s b i → i + l.length ≤ 30 → Kr.Rel (s.run i l) (b.run (Kr.toks i l)) (i + l.length)
  | [], _, _, _, h, _ => h
  | k :: l, s, b, i, h, hl => by
    have hl : i + (l.length + 1) ≤ 30 := hl
    have := Kr.Rel.run l (h.step (by omega) k) (by omega)
    rw [show i + 1 + l.length = i + (l.length + 1) by omega] at this
    exact this
/-- the page is read, and has these lines -/
theorem Kr.rows (l : List Nat) (hl : l.length ≤ 30) (hk : ∀ k ∈ l, k < 4) : ∃ ns, Kp.Is ⟨(Kr.bytes 0 l).toArray⟩ ns 0 ∧ Sk.skel ns = (Kr.Law.start.run 0 l).want := by
  obtain ⟨ns, h1, h2⟩ := Kr.is l hl hk
  exact ⟨ns, h1, h2.trans (Kr.Rel.run l Kr.Rel.start (by omega)).out⟩
end Go.Proofs.YtblpkjlodncpeaaGreatDoor
/-
  PLAIN: the page that each program must read.
-/
namespace Go.Proofs.YtblpkjlodncpeaaGreatDoor
def Ka.page : ByteArray := ⟨#[60, 112, 32, 97, 61, 49, 62, 120, 60, 98, 62, 121, 60, 47, 98, 62, 60, 47, 112, 62, 60, 33, 113, 62]⟩
def Ka.toks : List Tk := [⟨1, ⟨#[112]⟩, Ts.e, [(⟨#[97]⟩, ⟨#[49]⟩)], false⟩, ⟨0, Ts.e, ⟨#[120]⟩, [], false⟩, ⟨1, ⟨#[98]⟩, Ts.e, [], false⟩, ⟨0, Ts.e, ⟨#[121]⟩, [], false⟩, ⟨2, ⟨#[98]⟩, Ts.e, [], false⟩, ⟨2, ⟨#[112]⟩, Ts.e, [], false⟩, ⟨3, Ts.e, ⟨#[113]⟩, [], false⟩]
def Ka.nodes : List Nd := [⟨0, Ts.e, Ts.e, [], -1⟩, ⟨1, ⟨#[112]⟩, Ts.e, [(⟨#[97]⟩, ⟨#[49]⟩)], 0⟩, ⟨2, Ts.e, ⟨#[120]⟩, [], 1⟩, ⟨1, ⟨#[98]⟩, Ts.e, [], 1⟩, ⟨2, Ts.e, ⟨#[121]⟩, [], 3⟩, ⟨3, Ts.e, ⟨#[113]⟩, [], 0⟩]
theorem Ka.tokens : Rd.tokens Ka.page = Ka.toks := by decide +kernel
theorem Ka.run : (Bt.run Bt.start Ka.toks).2 = true ∧ (Bt.run Bt.start Ka.toks).1.out = Ka.nodes := by decide +kernel
theorem Ka.one {n v : ByteArray} (hn : n ≠ Ts.e) : Bt.named [(n, v)] [(n, v)].length := fun j x hj hx => by
  have hj : j < 1 := hj
  have hj0 : j = 0 := by omega
  subst hj0
  have hx : x = (n, v) := by simpa using hx.symm
  subst hx
  exact ⟨hn, fun q y hq => absurd hq (Nat.not_lt_zero _)⟩
theorem Ka.may : ∀ t ∈ Ka.toks, t.May := by
  have tag : ∀ (k : Int) (n : ByteArray), (k = 1 ∨ k = 2) → n ≠ Ts.e → Tk.May ⟨k, n, Ts.e, [], false⟩ := fun k n hk hn => .inr ⟨hk.elim .inl fun q => .inr ⟨q, rfl, rfl⟩, hn, rfl, Nat.zero_le _, fun _ _ h => absurd h (Nat.not_lt_zero _)⟩
  intro t ht
  simp only [Ka.toks, List.mem_cons, List.not_mem_nil, or_false] at ht
  rcases ht with rfl | rfl | rfl | rfl | rfl | rfl | rfl
  · exact .inr ⟨.inl rfl, by decide, rfl, by decide, Ka.one (by decide)⟩
  · exact .inl ⟨.inl rfl, rfl, rfl, rfl⟩
  · exact tag 1 _ (.inl rfl) (by decide)
  · exact .inl ⟨.inl rfl, rfl, rfl, rfl⟩
  · exact tag 2 _ (.inr rfl) (by decide)
  · exact tag 2 _ (.inr rfl) (by decide)
  · exact .inl ⟨.inr rfl, rfl, rfl, rfl⟩
theorem Ka.is : Kp.Is Ka.page Ka.nodes 0 := by
  refine .inr ⟨by decide, .inr (.inr ⟨?_, ?_, ?_, rfl⟩)⟩
  · rw [Ka.tokens]; exact Ka.may
  · rw [Ka.tokens]; exact Ka.run.1
  · rw [Ka.tokens]; exact Ka.run.2.symm
theorem Ka.skel : Sk.skel Ka.nodes = [48, 32, 101, 32, 112, 32, 97, 10, 49, 32, 101, 32, 98, 10, 48, 32, 99, 32, 113, 10] := by
  have e : Sk.skel Ka.nodes = Sk.line 0 ⟨1, ⟨#[112]⟩, Ts.e, [(⟨#[97]⟩, ⟨#[49]⟩)], 0⟩ ++ (Sk.line 1 ⟨1, ⟨#[98]⟩, Ts.e, [], 1⟩ ++ (Sk.line 0 ⟨3, Ts.e, ⟨#[113]⟩, [], 0⟩ ++ [])) := rfl
  rw [e]
  unfold Sk.line
  rw [Kr.dec 0 (by decide), Kr.dec 1 (by decide)]
  decide +kernel
theorem Ka.texts : Sk.texts Ka.nodes = [⟨#[120]⟩, ⟨#[121]⟩] := by decide +kernel
theorem Ka.long (s : ByteArray) (h : 65536 < s.size) : Kp.Is s [] 500 := .inl ⟨h, rfl, rfl⟩
theorem Ka.noNodes : ¬ Sk.May [] := fun h => absurd h.1 (by decide)
end Go.Proofs.YtblpkjlodncpeaaGreatDoor

/-
  THE WALK of the program's Build.
-/
import Derived.Test.YtblpkjlodncpeaaGreatDoorBWTaketoWMay2
import Derived.Test.YtblpkjlodncpeaaGreatDoorBUTk2toWInner
import Derived.Test.YtblpkjlodncpeaaGreatDoorBTToktoUTk1
import Derived.Test.YtblpkjlodncpeaaGreatDoorBKParsetoTSc8
import Derived.Test.YtblpkjlodncpeaaGreatDoorBPSkeltoTSim2
import Derived.Test.YtblpkjlodncpeaaGreatDoorBTSd9toTRdA
namespace Go.Proofs.YtblpkjlodncpeaaGreatDoor
open Go.RowKit
theorem Pm.laid (W : World) : Pm.At W.heap.size (((W.alloc (.cells #[.int .i64 0, .string ⟨#[]⟩, .string ⟨#[]⟩, .slice none 0 0, .int .i64 (-1)] 48)).alloc (.cells #[.int .i64 0] 3)).alloc (.cells #[.slice (some ⟨W.heap.size, 0, none⟩) 1 1, .slice (some ⟨W.heap.size + 1, 0, none⟩) 1 1, .slice none 0 0] 87)) (W.heap.size + 1 + 1) Bt.start Ts.e (.slice (some ⟨W.heap.size, 0, none⟩) 1 1) (.slice (some ⟨W.heap.size + 1, 0, none⟩) 1 1) (.slice none 0 0) := by
 have h1 := World.ownsRow_lit (base := W.heap.size) (e := 48) (size := 5) W #[.int .i64 0, .string ⟨#[]⟩, .string ⟨#[]⟩, .slice none 0 0, .int .i64 (-1)] 1 (Nat.le_refl _) (by decide) rfl
 have h2 := World.ownsRow_lit (base := W.heap.size) (e := 3) (size := 1) (W.alloc (.cells #[.int .i64 0, .string ⟨#[]⟩, .string ⟨#[]⟩, .slice none 0 0, .int .i64 (-1)] 48)) #[.int .i64 0] 1 (by simp) (by decide) rfl
 rw [show (W.alloc (.cells #[.int .i64 0, .string ⟨#[]⟩, .string ⟨#[]⟩, .slice none 0 0, .int .i64 (-1)] 48)).heap.size = W.heap.size + 1 by simp] at h2
 obtain ⟨V, hV⟩ : ∃ V, (W.alloc (.cells #[.int .i64 0, .string ⟨#[]⟩, .string ⟨#[]⟩, .slice none 0 0, .int .i64 (-1)] 48)).alloc (.cells #[.int .i64 0] 3) = V := ⟨_, rfl⟩
 have hsV : V.heap.size = W.heap.size + 1 + 1 := by rw [← hV]; simp
 rw [hV] at h2 ⊢
 have h1' : V.ownsRow W.heap.size 48 5 (.slice (some ⟨W.heap.size, 0, none⟩) 1 1) 1 [.int .i64 0, .string ⟨#[]⟩, .string ⟨#[]⟩, .slice none 0 0, .int .i64 (-1)] := by rw [← hV]; exact h1.alloc _
 have hb := heap_alloc_new V (.cells #[.slice (some ⟨W.heap.size, 0, none⟩) 1 1, .slice (some ⟨W.heap.size + 1, 0, none⟩) 1 1, .slice none 0 0] 87)
 rw [hsV] at hb
 refine ⟨by omega, ?_, ?_, ?_, fun i => ?_, ?_, h2.alloc _, World.ownsRow_nil _ _ _ _, ?_, ?_, (fun e => by cases e), ?_, (fun _ _ e => by cases e), (fun _ _ e => by cases e)⟩
 ·
  unfold World.cell?; rw [hb]; rfl
 ·
  unfold World.cell?; rw [hb]; rfl
 ·
  unfold World.cell?; rw [hb]; rfl
 ·
  unfold World.frozen?; rw [hb]; simp
 ·
  refine ⟨_, h1'.alloc _, fun i x hi => ?_⟩
  have : i = 0 := by
   have := (List.getElem?_eq_some_iff.1 hi).1
   simp [Bt.start] at this
   exact this
  subst this
  have hx : x = ⟨0, Ts.e, Ts.e, [], -1⟩ := by simpa [Bt.start] using hi.symm
  subst hx
  exact ⟨.slice none 0 0, fun r u hr => by rw [Nat.zero_mul, Nat.zero_add]; exact hr, Ak.Lies.nil _ _⟩
 ·
  intro e
  have e : W.heap.size = W.heap.size + 1 + 1 := Option.some.inj e
  omega
 ·
  intro e
  have e : W.heap.size + 1 = W.heap.size + 1 + 1 := Option.some.inj e
  omega
 ·
  intro k hk hk2
  have e1 : W.heap.size = k := Option.some.inj hk
  have e2 : W.heap.size + 1 = k := Option.some.inj hk2
  omega
set_option maxRecDepth 100000 in
set_option maxHeartbeats 8000000 in
theorem Pg.build (ts : List Tk) (a : Option Addr) (d : Nat) (w : World) (h : Tk.Lies w (· < w.heap.size) ts (.slice a ts.length d)) (hz : Bt.bulk ts ≤ 140737488355328) :
  Calls Tryz.prog 20 #[.slice a ts.length d] w fun e w' => Below w.heap.size w w' ∧ ((¬ (∀ t ∈ ts, t.May) ∧ e = .returned (.tuple #[.slice none 0 0, .int .i64 700])) ∨ ((∀ t ∈ ts, t.May) ∧ (Bt.run Bt.start ts).2 = false ∧ e = .returned (.tuple #[.slice none 0 0, .int .i64 701])) ∨ ((∀ t ∈ ts, t.May) ∧ (Bt.run Bt.start ts).2 = true ∧ ∃ v, e = .returned (.tuple #[v, .int .i64 0]) ∧ Nd.Lies w' (fun k => w.heap.size ≤ k ∧ k < w'.heap.size ∧ Rm.Ub w' k) (Bt.run Bt.start ts).1.out v)) := by
 obtain ⟨hlen, hdm⟩ : ts.length ≤ d ∧ d ≤ maxLen := by
  obtain ⟨a', d', e, h1, h2, hx⟩ := h
  injection e with e1 e2 e3
  omega
 have hm63 : ts.length ≤ 9223372036854775807 := by unfold maxLen at hdm; omega
 have H := Lib.hid h
 have HZ := Lib.hid hz
 clear h hz hdm
 go_enter Tryz.func20, Tryz.ntmps20
 go_wp2_with fail
 go_loopw [11] (fun ix wr => ∃ i : Nat, i ≤ ts.length ∧ ix = .int .i64 (i : Int) ∧ Hid (∀ j t, j < i → ts[j]? = some t → t.May) ∧ Hid (Below w.heap.size w wr)) (fun ix _ => ts.length - (intOf ix).toNat)
 case atStart => exact ⟨0, Nat.zero_le _, rfl, (fun _ _ q _ => absurd q (Nat.not_lt_zero _)), Below.refl _ _⟩
 case round =>
  obtain ⟨i, hi, rfl, HM, HB⟩ := hrel
  by_cases hlt : i < ts.length
  ·
   have d1 : decide ((i : Int) < (ts.length : Int)) = true := decide_eq_true (by omega)
   have HL : Hid (Tk.Lies wr (· < w.heap.size) ts (.slice a ts.length d)) := H.out.on fun k hk => ⟨hk, HB.out.block k hk⟩
   obtain ⟨b, o, aa, ad, rfl, c0, c1, c2, c3, c4, hl⟩ := Um.tokAt HL.out hlt
   have hbw : b < wr.heap.size := World.block_lt_of_cell? _ _ c0
   have n1 : wr.heap.size ≠ b := by omega
   have n2 : b ≠ wr.heap.size := by omega
   have hid : i < d := by omega
   have hws := HB.out.size
   obtain ⟨T, hT⟩ : ∃ T, ts[i] = T := ⟨_, rfl⟩
   rw [hT] at c0 c1 c2 c3 c4 hl
   have may := fun u (hu : Below wr.heap.size wr u) => Pg.mayBe T aa ad (fun _ => True) u ((Pg.liesAll hl).on fun k hk => ⟨trivial, hu.block k hk⟩)
   have HT : Hid (ts[i]? = some T) := by unfold Hid; rw [List.getElem?_eq_getElem hlt, hT]
   clear hT HL hl
   by_cases hmay : T.May
   ·
    have HM2 : Hid (∀ j t, j < i + 1 → ts[j]? = some t → t.May) := fun j t hj ht => by
     by_cases e : j = i
     ·
      subst e
      rw [HT.out] at ht
      injection ht with ht
      rw [← ht]
      exact hmay
     ·
      exact HM.out j t (by omega) ht
    have HMY := Lib.hid hmay
    clear hmay
    go_wp2_with (go_at_call 37; refine (may _ ((Below.refl _ _).alloc (Nat.le_refl _) _)).mono ?_; rintro e w2 ⟨bb, rfl, hbb, hb2⟩; have hbb := hbb.2 HMY.out; subst hbb; have HB2 := Lib.hid ((HB.out.alloc hws _).trans (hb2.mono (by simp; omega))); clear may hb2)
    go_roundw
    case rel => exact ⟨i + 1, by omega, by go_num, HM2, HB2⟩
    case measure => simp [intOf]; omega
   ·
    have HMY := Lib.hid hmay
    clear hmay
    go_wp2_with (go_at_call 37; refine (may _ ((Below.refl _ _).alloc (Nat.le_refl _) _)).mono ?_; rintro e w2 ⟨bb, rfl, hbb, hb2⟩; have hbb : bb = false := (by cases bb; rfl; exact absurd (hbb.1 rfl) HMY.out); subst hbb; have HB2 := Lib.hid ((HB.out.alloc hws _).trans (hb2.mono (by simp; omega))); clear may hb2)
    go_ret2
    exact ⟨HB2.out, .inl ⟨fun q => HMY.out (q T (List.mem_of_getElem? HT.out)), rfl⟩⟩
  ·
   have e : i = ts.length := by omega
   subst e
   have d1 : decide ((ts.length : Int) < (ts.length : Int)) = false := decide_eq_false (by omega)
   have HALL : Hid (∀ t ∈ ts, t.May) := fun t ht => by
    obtain ⟨j, hj⟩ := List.getElem?_of_mem ht
    exact HM.out j t (List.getElem?_eq_some_iff.1 hj).1 hj
   clear HM hi
   go_wp2_with fail
   have hA0 := Pm.laid wr
   obtain ⟨W, hW⟩ : ∃ W, ((wr.alloc (.cells #[.int .i64 0, .string ⟨#[]⟩, .string ⟨#[]⟩, .slice none 0 0, .int .i64 (-1)] 48)).alloc (.cells #[.int .i64 0] 3)).alloc (.cells #[.slice (some ⟨wr.heap.size, 0, none⟩) 1 1, .slice (some ⟨wr.heap.size + 1, 0, none⟩) 1 1, .slice none 0 0] 87) = W := ⟨_, rfl⟩
   have hbW : Below w.heap.size w W := by rw [← hW]; exact ((HB.out.alloc HB.out.size _).alloc (by simp; have := HB.out.size; omega) _).alloc (by simp; have := HB.out.size; omega) _
   rw [hW] at hA0
   rw [hW]
   have hlo : w.heap.size ≤ wr.heap.size := HB.out.size
   have HA0 := Lib.hid hA0
   have HBW := Lib.hid hbW
   clear hW hA0 hbW HB
   generalize wr.heap.size = base at *
   go_loopw [25] (fun ix wz => ∃ (i : Nat) (m r : Bt) (bs : ByteArray) (ov pv tv : Value), i ≤ ts.length ∧ ix = .int .i64 (i : Int) ∧ Hid (Pm.At base wz (base + 1 + 1) r bs ov pv tv) ∧ Hid (Pb.Sim m r bs) ∧ Hid (m.out.length ≤ 4096) ∧ Hid (bs.size ≤ Bt.bulk (ts.take i)) ∧ Hid (Bt.run m (ts.drop i) = Bt.run Bt.start ts) ∧ Hid (Below w.heap.size w wz)) (fun ix _ => ts.length - (intOf ix).toNat)
   case atStart => exact ⟨0, Bt.start, Bt.start, Ts.e, _, _, _, Nat.zero_le _, rfl, HA0.out, Pb.Sim.start, (by unfold Hid; decide), Nat.zero_le _, rfl, HBW.out⟩
   case round =>
    clear HA0 HBW
    obtain ⟨i, m, r, bs, ov, pv, tv, hi, rfl, HA, HSI, HS, HT, HR, HB⟩ := hrel
    obtain ⟨g, hg⟩ : ∃ g, base + 1 + 1 = g := ⟨_, rfl⟩
    rw [hg] at HA
    have hgb : w.heap.size ≤ g := by omega
    by_cases hlt : i < ts.length
    ·
     have d1 : decide ((i : Int) < (ts.length : Int)) = true := decide_eq_true (by omega)
     have HL : Hid (Tk.Lies wr (· < w.heap.size) ts (.slice a ts.length d)) := H.out.on fun k hk => ⟨hk, HB.out.block k hk⟩
     obtain ⟨b, o, aa, ad, rfl, c0, c1, c2, c3, c4, hl⟩ := Um.tokAt HL.out hlt
     have hid : i < d := by omega
     have hbw : b < wr.heap.size := World.block_lt_of_cell? _ _ c0
     have n1 : wr.heap.size ≠ b := by omega
     have n2 : b ≠ wr.heap.size := by omega
     have hgw := HA.out.lt
     have n3 : wr.heap.size ≠ g := by omega
     have n4 : g ≠ wr.heap.size := by omega
     obtain ⟨T, hT⟩ : ∃ T, ts[i] = T := ⟨_, rfl⟩
     have hbk := Um.bulk_take ts i hlt
     rw [hT] at c0 c1 c2 c3 c4 hl hbk
     have hble := Um.bulk_le ts (i + 1)
     have hmem : T ∈ ts := by rw [← hT]; exact List.getElem_mem hlt
     have hrl : r.out.length = m.out.length := HSI.out.len.symm
     have tk := fun u (hu : Below wr.heap.size wr u) => Pg.take base r bs T aa T.attrs.length ad (fun _ => True) u g ov pv tv (HA.out.on hu) HSI.out.ok (by rw [hrl]; exact Nat.le_trans HS.out (by decide)) (by have := HT.out; have := HZ.out; omega) ((Pg.liesAll hl).on fun k hk => ⟨trivial, hu.block k hk⟩) (HALL.out T hmem)
     have HT2 : Hid ((Pb.take r bs T).2.size ≤ Bt.bulk (ts.take (i + 1))) := by unfold Hid; rw [hbk]; have := Pb.take_bulk r bs T; have := HT.out; omega
     have HD : Hid (ts.drop i = T :: ts.drop (i + 1)) := by unfold Hid; rw [← hT]; exact List.drop_eq_getElem_cons hlt
     have HSI2 := Lib.hid (HSI.out.take T)
     have hl2 : (m.token T).out.length = (Pb.take r bs T).1.out.length := (HSI.out.take T).len
     have hws := HB.out.size
     have HBA : Hid (∀ o, Below w.heap.size w (wr.alloc o) ∧ Below wr.heap.size wr (wr.alloc o)) := fun o => ⟨HB.out.alloc hws _, (Below.refl _ _).alloc (Nat.le_refl _) _⟩
     clear hl hT HL hbk hble hmem hrl
     generalize (Pb.take r bs T).1 = r' at *
     generalize (Pb.take r bs T).2 = bs' at *
     by_cases hf : 4096 < (m.token T).out.length
     ·
      have d2 : decide ((4096 : Int) < (r'.out.length : Int)) = true := decide_eq_true (by omega)
      have HRF : Hid ((Bt.run Bt.start ts).2 = false) := by
       unfold Hid
       rw [← HR.out, HD.out]
       unfold Bt.run
       rw [if_pos hf]
      clear hf hl2
      rw [hg]
      clear hg
      go_wp2_with (go_at_call 38; refine (tk _ (HBA.out _).2).mono ?_; rintro e w5 ⟨rfl, ov5, pv5, tv5, hA5, hK5⟩; obtain ⟨xs5, hx5⟩ := id hA5.out; obtain ⟨oa5, od5, rfl⟩ := Um.form hx5.1; have e0 := hA5.c0; have HB5 := Lib.hid (hK5.low (HA.out.on (HBA.out _).2) (HBA.out _).1 hlo (Nat.le_refl _)); clear tk hA5 hK5 hx5)
      go_ret2
      exact ⟨HB5.out, .inr (.inl ⟨HALL.out, HRF.out, rfl⟩)⟩
     ·
      have d2 : decide ((4096 : Int) < (r'.out.length : Int)) = false := decide_eq_false (by omega)
      have HS2 : Hid ((m.token T).out.length ≤ 4096) := by unfold Hid; omega
      have HR2 : Hid (Bt.run (m.token T) (ts.drop (i + 1)) = Bt.run Bt.start ts) := by
       unfold Hid
       rw [← HR.out, HD.out]
       conv => rhs; unfold Bt.run
       rw [if_neg hf]
      clear hf hl2
      rw [hg]
      go_wp2_with (go_at_call 38; refine (tk _ (HBA.out _).2).mono ?_; rintro e w5 ⟨rfl, ov5, pv5, tv5, hA5, hK5⟩; obtain ⟨xs5, hx5⟩ := id hA5.out; obtain ⟨oa5, od5, rfl⟩ := Um.form hx5.1; have e0 := hA5.c0; have HB5 := Lib.hid (hK5.low (HA.out.on (HBA.out _).2) (HBA.out _).1 hlo (Nat.le_refl _)); have HA5 := Lib.hid hA5; clear tk hA5 hK5 hx5)
      go_roundw
      case rel => exact ⟨i + 1, m.token T, r', bs', _, _, _, by omega, by go_num, HA5, HSI2, HS2, HT2, HR2, HB5⟩
      case measure => simp [intOf]; omega
    ·
     have e : i = ts.length := by omega
     subst e
     have d1 : decide ((ts.length : Int) < (ts.length : Int)) = false := decide_eq_false (by omega)
     have HRR : Hid (Bt.run Bt.start ts = (m, true)) := by
      unfold Hid
      rw [← HR.out, List.drop_length]
      rfl
     have hrl : r.out.length = m.out.length := HSI.out.len.symm
     have et := Pg.endText base r bs wr wr g ov pv tv (Below.refl _ _) HA.out HSI.out.ok (by rw [hrl]; exact Nat.le_trans HS.out (by decide)) (by have h1 := HT.out; have h2 := HZ.out; rw [List.take_length] at h1; omega)
     rw [HSI.out.eq] at et
     clear hrl
     rw [hg]
     clear hg
     go_wp2_with (go_at_call 39; refine et.mono ?_; rintro e w5 ⟨rfl, w6, tv5, hA6, _, hs6, hb6, hK5⟩; have hA5 := hA6.on (by rw [hs6]; exact hb6); obtain ⟨xs5, hx5⟩ := id hA5.out; obtain ⟨oa5, od5, rfl⟩ := Um.form hx5.1; have e0 := hA5.c0; have HB5 := Lib.hid (hK5.low HA.out HB.out hlo (Nat.le_refl _)); have HA5 := Lib.hid hA5; clear et hA5 hK5 hx5 hA6 hs6 hb6)
     go_ret2
     refine ⟨HB5.out, .inr (.inr ⟨HALL.out, by rw [HRR.out], _, rfl, ?_⟩)⟩
     rw [HRR.out]
     exact HA5.out.out.lies.on fun k hk => ⟨⟨Nat.le_trans hlo hk.1, hk.2⟩, rfl⟩
set_option maxRecDepth 100000 in
set_option maxHeartbeats 4000000 in
theorem Pq.parse (m : Int) (s : ByteArray) (ns : List Nd) (k : Int) (hI : Kp.Is s ns k) (w : World) (hs : s.size ≤ maxLen) (hm : w.cell? ⟨1, 0, none⟩ = some (.int .i64 m)) :
  Calls Tryz.prog 7 #[.string s] w fun e w' => ∃ a d, e = .returned (.tuple #[.slice a ns.length d, .int .i64 k]) ∧ Nd.Lies w' (fun j => w.heap.size ≤ j ∧ j < w'.heap.size ∧ Rm.Ub w' j) ns (.slice a ns.length d) ∧ Below w.heap.size w w' := by
 rcases hI with ⟨hl, rfl, rfl⟩ | ⟨hsh, hrest⟩
 ·
  have tk := Tk.long s w hl hs
  go_enter Tryz.func7, Tryz.ntmps7
  go_wp2_with (go_at_call 19; refine tk.mono ?_; rintro e w1 ⟨rfl, hw1⟩; have hw1 := hw1.symm; subst hw1; clear tk)
  go_ret2
  exact ⟨none, 0, rfl, Nm.nilNodes _ _, Below.refl _ _⟩
 ·
  have tk := Tk.short s m w hsh hm
  have hbk := Kp.bulk s hsh
  have HR := Lib.hid hrest
  clear hrest
  go_enter Tryz.func7, Tryz.ntmps7
  go_wp2_with (first | (go_at_call 19; refine tk.mono ?_; rintro e w1 ⟨v1, rfl, hl1, hb1⟩; clear tk; obtain ⟨a1, d1, rfl⟩ := Nm.toksForm hl1; have bu := Pg.build (Rd.tokens s) a1 d1 w1 (hl1.on fun j hj => ⟨hj.2, rfl⟩) hbk; have HB1 := Lib.hid hb1; clear hl1 hb1) | (go_at_call 20; refine bu.mono ?_; rintro e w2 ⟨hb2, hc⟩; clear bu; obtain ⟨a2, d2, he, hl2⟩ : ∃ a2 d2, e = .returned (.tuple #[.slice a2 ns.length d2, .int .i64 k]) ∧ Nd.Lies w2 (fun j => w1.heap.size ≤ j ∧ j < w2.heap.size ∧ Rm.Ub w2 j) ns (.slice a2 ns.length d2) := (by rcases HR.out with ⟨hm, hn, hk⟩ | ⟨hm, hr, hn, hk⟩ | ⟨hm, hr, hn, hk⟩ <;> subst hn <;> subst hk <;> rcases hc with ⟨q, he⟩ | ⟨q, q2, he⟩ | ⟨q, q2, v, he, hl⟩; exact ⟨none, 0, he, Nm.nilNodes _ _⟩; exact absurd q hm; exact absurd q hm; exact absurd hm q; exact ⟨none, 0, he, Nm.nilNodes _ _⟩; (rw [hr] at q2; cases q2); exact absurd hm q; (rw [hr] at q2; cases q2); (obtain ⟨a', d', e', r⟩ := id hl; subst e'; exact ⟨a', d', he, hl⟩)); subst he; have HL2 := Lib.hid hl2; have HB2 := Lib.hid (HB1.out.trans (hb2.mono HB1.out.size)); have hs1 := HB1.out.size; clear hc hl2 hb2))
  go_ret2
  exact ⟨a2, d2, rfl, HL2.out.on fun j hj => ⟨⟨by omega, hj.2⟩, rfl⟩, HB2.out⟩
def Kr.dg (i : Nat) : List UInt8 := if i < 10 then [UInt8.ofNat (48 + i)] else [UInt8.ofNat (48 + i / 10), UInt8.ofNat (48 + i % 10)]
theorem Kr.dec (i : Nat) (h : i < 100) : Lib.decDigits i = Kr.dg i := by
 rw [Lib.decDigits]
 unfold Kr.dg
 by_cases c : i < 10
 ·
  rw [dif_pos c, if_pos c]
 ·
  rw [dif_neg c, if_neg c, Lib.decDigits, dif_pos (by omega)]
  rfl
def Ka.page : ByteArray := ⟨#[60, 112, 32, 97, 61, 49, 62, 120, 60, 98, 62, 121, 60, 47, 98, 62, 60, 47, 112, 62, 60, 33, 113, 62]⟩
def Ka.toks : List Tk := [⟨1, ⟨#[112]⟩, Ts.e, [(⟨#[97]⟩, ⟨#[49]⟩)], false⟩, ⟨0, Ts.e, ⟨#[120]⟩, [], false⟩, ⟨1, ⟨#[98]⟩, Ts.e, [], false⟩, ⟨0, Ts.e, ⟨#[121]⟩, [], false⟩, ⟨2, ⟨#[98]⟩, Ts.e, [], false⟩, ⟨2, ⟨#[112]⟩, Ts.e, [], false⟩, ⟨3, Ts.e, ⟨#[113]⟩, [], false⟩]
def Ka.nodes : List Nd := [⟨0, Ts.e, Ts.e, [], -1⟩, ⟨1, ⟨#[112]⟩, Ts.e, [(⟨#[97]⟩, ⟨#[49]⟩)], 0⟩, ⟨2, Ts.e, ⟨#[120]⟩, [], 1⟩, ⟨1, ⟨#[98]⟩, Ts.e, [], 1⟩, ⟨2, Ts.e, ⟨#[121]⟩, [], 3⟩, ⟨3, Ts.e, ⟨#[113]⟩, [], 0⟩]
theorem Ka.tokens : Rd.tokens Ka.page = Ka.toks := by decide +kernel
theorem Ka.run : (Bt.run Bt.start Ka.toks).2 = true ∧ (Bt.run Bt.start Ka.toks).1.out = Ka.nodes := by decide +kernel
theorem Ka.one {n v : ByteArray} (hn : n ≠ Ts.e) : Bt.named [(n, v)] [(n, v)].length := fun j x hj hx => by
 have hj : j < 1 := hj
 have hj0 : j = 0 := by omega
 subst hj0
 have hx : x = (n, v) := by simpa using hx.symm
 subst hx
 exact ⟨hn, fun q y hq => absurd hq (Nat.not_lt_zero _)⟩
theorem Ka.may : ∀ t ∈ Ka.toks, t.May := by
 have tag : ∀ (k : Int) (n : ByteArray), (k = 1 ∨ k = 2) → n ≠ Ts.e → Tk.May ⟨k, n, Ts.e, [], false⟩ := fun k n hk hn => .inr ⟨hk.elim .inl fun q => .inr ⟨q, rfl, rfl⟩, hn, rfl, Nat.zero_le _, fun _ _ h => absurd h (Nat.not_lt_zero _)⟩
 intro t ht
 simp only [Ka.toks, List.mem_cons, List.not_mem_nil, or_false] at ht
 rcases ht with rfl | rfl | rfl | rfl | rfl | rfl | rfl
 ·
  exact .inr ⟨.inl rfl, by decide, rfl, by decide, Ka.one (by decide)⟩
 ·
  exact .inl ⟨.inl rfl, rfl, rfl, rfl⟩
 ·
  exact tag 1 _ (.inl rfl) (by decide)
 ·
  exact .inl ⟨.inl rfl, rfl, rfl, rfl⟩
 ·
  exact tag 2 _ (.inr rfl) (by decide)
 ·
  exact tag 2 _ (.inr rfl) (by decide)
 ·
  exact .inl ⟨.inr rfl, rfl, rfl, rfl⟩
theorem Ka.is : Kp.Is Ka.page Ka.nodes 0 := by
 refine .inr ⟨by decide, .inr (.inr ⟨?_, ?_, ?_, rfl⟩)⟩
 ·
  rw [Ka.tokens]; exact Ka.may
 ·
  rw [Ka.tokens]; exact Ka.run.1
 ·
  rw [Ka.tokens]; exact Ka.run.2.symm
theorem Ka.skel : Sk.skel Ka.nodes = [48, 32, 101, 32, 112, 32, 97, 10, 49, 32, 101, 32, 98, 10, 48, 32, 99, 32, 113, 10] := by
 have e : Sk.skel Ka.nodes = Sk.line 0 ⟨1, ⟨#[112]⟩, Ts.e, [(⟨#[97]⟩, ⟨#[49]⟩)], 0⟩ ++ (Sk.line 1 ⟨1, ⟨#[98]⟩, Ts.e, [], 1⟩ ++ (Sk.line 0 ⟨3, Ts.e, ⟨#[113]⟩, [], 0⟩ ++ [])) := rfl
 rw [e]
 unfold Sk.line
 rw [Kr.dec 0 (by decide), Kr.dec 1 (by decide)]
 decide +kernel
theorem Ka.texts : Sk.texts Ka.nodes = [⟨#[120]⟩, ⟨#[121]⟩] := by decide +kernel
theorem Ka.long (s : ByteArray) (h : 65536 < s.size) : Kp.Is s [] 500 := .inl ⟨h, rfl, rfl⟩
theorem Ka.noNodes : ¬ Sk.May [] := fun h => absurd h.1 (by decide)
theorem A8.num (a : Int) (w : World) : Calls Tryz.prog 14 #[.int .i64 a] w fun e w' => e = .returned (.int .i64 a) ∧ w' = w := by
 go_enter Tryz.func14, Tryz.ntmps14
 go_wp2
 go_ret
 exact ⟨rfl, rfl⟩
theorem A8.zeros (n : Nat) (hn : n ≤ 281474976710656) : ∃ (M : Array Value) (S : ByteArray), S.size = n ∧ (∀ u : World, (Instr.makeSlice 43 (.int .i64 (n : Int)) (.int .i64 (n : Int))).run Tryz.prog u = .ok (.slice (some ⟨u.heap.size, 0, none⟩) n n) (u.alloc (.cells M 5))) ∧ ∀ u : World, (convert 43 9 (.slice (some ⟨u.heap.size, 0, none⟩) n n)).run Tryz.prog (u.alloc (.cells M 5)) = .ok (.string S) (u.alloc (.cells M 5)) := by
 obtain ⟨i0, hi, hz0, hz1, hz2⟩ := info_parts Ns.infoB
 refine ⟨madeCells #[.int .u8 0] n, ⟨(List.replicate n (0 : UInt8)).toArray⟩, ?_, fun u => ?_, fun u => ?_⟩
 ·
  show (List.replicate n (0 : UInt8)).toArray.size = n
  simp
 ·
  have h := run_make (P := Tryz.prog) u 43 5 i0 (.int .u8 0) Tryz.underlying43 hi hz0 .i64 .i64 (n : Int) (n : Int) (by omega) (Int.le_refl _) (by rw [hz2]; omega) (by omega)
  simpa [hz1, Value.cells] using h
 ·
  have hc : (madeCells #[.int .u8 0] n).toList = Lib.byteCells (List.replicate n 0) := by
   rw [toList_madeCells_one]
   unfold Lib.byteCells
   rw [List.map_replicate]
   rfl
  have ho := World.ownsRow_lit (base := 0) (e := 5) (size := 1) u (madeCells #[.int .u8 0] n) n (Nat.zero_le _) (by unfold maxLen; omega) (by rw [size_madeCells]; try simp)
  rw [hc] at ho
  exact Dm.conv (acc := List.replicate n 0) (by rw [List.length_replicate]; exact ho)
theorem A8.form {w : World} {R : Nat → Prop} {ss : List ByteArray} {v : Value} (h : St.Lies w R ss v) : ∃ a d, v = .slice a ss.length d := by
 obtain ⟨a, d, e, _⟩ := h
 exact ⟨a, d, e⟩
set_option maxRecDepth 100000 in
set_option maxHeartbeats 4000000 in
theorem A8.awake (m : Int) (w : World) (hm : w.cell? ⟨1, 0, none⟩ = some (.int .i64 m)) (ht : Pq.Tab w) :
  Calls Tryz.prog 17 #[] w fun e w' => e = .returned (.bool true) ∧ Below w.heap.size w w' := by
 obtain ⟨M, S, hSz, hmk, hcv⟩ := A8.zeros 65537 (by decide)
 have hmk1 : ∀ u : World, (Instr.makeSlice 43 (.int .i64 65537) (.int .i64 65537)).run Tryz.prog u = .ok (.slice (some ⟨u.heap.size, 0, none⟩) 65537 65537) (u.alloc (.cells M 5)) := hmk
 have pa := Pq.parse m Ka.page Ka.nodes 0 Ka.is w (by decide) hm
 have hL := Ka.long S (by omega)
 have HM := Lib.hid hm
 have HTB := Lib.hid ht
 have hnl : Ka.nodes.length = 6 := rfl
 have hlen := Ka.skel
 have HT := Lib.hid Ka.texts
 have HMAY := Lib.hid (Ka.is.may rfl)
 rw [hnl] at pa
 unfold Ka.page at pa
 have hSm : S.size ≤ maxLen := by rw [hSz]; decide
 clear hmk hm ht
 go_enter Tryz.func17, Tryz.ntmps17
 go_upto_region 4 with (first | (go_at_call 7; refine pa.mono ?_; rintro e w1 ⟨a1, d1, rfl, l1, b1⟩; clear pa; have L1 : Nd.Lies w1 (· < w1.heap.size) Ka.nodes (.slice a1 Ka.nodes.length d1) := l1.on (fun j hj => ⟨hj.2.1, rfl⟩); have sa := Pq.skeleton Ka.nodes a1 d1 w1 L1 (by decide) (by rw [hlen]; decide) (HTB.out.on b1); rw [hnl] at sa; clear l1) | (go_at_call 9; refine sa.mono ?_; rintro e w2 ⟨b2, hc⟩; clear sa; have he : e = .returned (.tuple #[.string ⟨(Sk.skel Ka.nodes).toArray⟩, .int .i64 0]) := (by rcases hc with q | q; exact absurd HMAY.out q.1; exact q.2); subst he; rw [hlen]; have ta := Pq.texts Ka.nodes a1 d1 w2 (L1.on fun j hj => ⟨Nat.lt_of_lt_of_le hj b2.size, b2.block j hj⟩) (by decide) (by decide); rw [hnl] at ta; clear hc) | (go_at_call 11; refine ta.mono ?_; rintro e w3 ⟨b3, hc⟩; clear ta; obtain ⟨v3, he, l3⟩ : ∃ v, e = .returned (.tuple #[v, .int .i64 0]) ∧ St.Lies w3 (fun k => w2.heap.size ≤ k ∧ k < w3.heap.size) (Sk.texts Ka.nodes) v := (by rcases hc with q | q; exact absurd HMAY.out q.1; exact q.2); subst he; clear hc))
 rw [HT.out] at l3
 obtain ⟨a3, d3, rfl⟩ := A8.form l3
 have q3 : Below w.heap.size w w3 := (b1.trans (b2.mono b1.size)).trans (b3.mono (b1.trans (b2.mono b1.size)).size)
 have s3 := q3.size
 have q4 : Below w.heap.size w (w3.alloc (.cells M 5)) := q3.alloc s3 _
 have hcv3 := hcv w3
 have pb := Pq.parse m S [] 500 hL (w3.alloc (.cells M 5)) hSm (by rw [q4.cell (World.block_lt_of_cell? _ _ HM.out)]; exact HM.out)
 have HL3 := Lib.hid l3
 have HQ3 := Lib.hid q3
 have HQ4 := Lib.hid q4
 clear l3 q3 q4 b1 b2 b3 L1 hcv hL
 go_wp2_with (first | (go_at_call 7; refine pb.mono ?_; rintro e w5 ⟨a5, d5, rfl, l5, b5⟩; clear pb hcv3 l5; have HQ5 := Lib.hid (HQ4.out.trans (b5.mono HQ4.out.size)); have HL5 : Hid (St.Lies w5 (fun k => w2.heap.size ≤ k ∧ k < w3.heap.size) [⟨#[120]⟩, ⟨#[121]⟩] (.slice a3 2 d3)) := HL3.out.on (fun k hk => ⟨hk, (b5.block k (by simp; omega)).trans (Below.heap_alloc _ _ _ hk.2)⟩); have hs5 : w3.heap.size ≤ w5.heap.size := Nat.le_trans (by simp) b5.size; have sb := Pq.skeleton [] none 0 w5 (Nm.nilNodes _ _) (by decide) (by decide) (HTB.out.on HQ5.out); clear b5) | (go_at_call 9; refine sb.mono ?_; rintro e w6 ⟨b6, hc⟩; clear sb; have he : e = .returned (.tuple #[.string ⟨#[]⟩, .int .i64 800]) := (by rcases hc with q | q; exact q.2; exact absurd q.1 Ka.noNodes); subst he; have HQ6 := Lib.hid (HQ5.out.trans (b6.mono HQ5.out.size)); have HL6 : Hid (St.Lies w6 (fun k => w2.heap.size ≤ k ∧ k < w3.heap.size) [⟨#[120]⟩, ⟨#[121]⟩] (.slice a3 2 d3)) := HL5.out.on (fun k hk => ⟨hk, b6.block k (by omega)⟩); have hs6 : w3.heap.size ≤ w6.heap.size := Nat.le_trans hs5 b6.size; clear hc b6) | (go_at_call 14; refine (A8.num _ _).mono ?_; rintro e w' ⟨rfl, hw⟩; have hw := hw.symm; subst hw) | (go_at_call 15; refine (St.same [⟨#[120]⟩, ⟨#[121]⟩] [⟨#[120]⟩, ⟨#[121]⟩] a3 (some ⟨w6.heap.size, 0, none⟩) d3 2 (fun k => w2.heap.size ≤ k ∧ k < w3.heap.size) (fun _ => True) _ (HL6.out.on (fun k hk => ⟨hk, Below.heap_alloc _ _ _ (by omega)⟩)) ⟨some ⟨w6.heap.size, 0, none⟩, 2, rfl, Nat.le_refl _, by decide, fun i s hi => by have : i = 0 ∨ i = 1 := (by have := (List.getElem?_eq_some_iff.1 hi).1; simp at this; omega); rcases this with rfl | rfl; exact ⟨_, 0, rfl, trivial, by simp at hi; rw [← hi]; simp⟩; exact ⟨_, 0, rfl, trivial, by simp at hi; rw [← hi]; simp⟩⟩ rfl).mono ?_; rintro e w7 ⟨rfl, n7, rfl⟩))
 go_ret
 exact ⟨rfl, Um.drews (HQ6.out.alloc HQ6.out.size _) _⟩
theorem Kb.dec : ∀ (k u : Nat), u < 10 ^ (k + 1) → (Lib.decDigits u).length ≤ k + 1
 | 0, u, h => by
  rw [Lib.decDigits, dif_pos (by simpa using h)]
  exact Nat.le_refl _
 | k + 1, u, h => by
  rw [Lib.decDigits]
  split
  ·
   show 1 ≤ _
   omega
  ·
   rw [List.length_append]
   have := Kb.dec k (u / 10) (by rw [Nat.div_lt_iff_lt_mul (by decide)]; rw [Nat.pow_succ] at h; exact h)
   show _ + 1 ≤ _
   omega
def Kb.ats (x : Nd) : Nat := (x.attrs.map fun a => a.1.size + 1).sum
def Kb.w (x : Nd) : Nat := if x.kind = 2 then 0 else 30 + ((if x.kind = 3 then x.text.size else x.name.size) + Kb.ats x)
theorem Kb.flat (l : List (ByteArray × ByteArray)) : (l.flatMap (fun a => 32 :: a.1.data.toList)).length = (l.map fun a => a.1.size + 1).sum := by
 induction l with
 | nil => rfl
 | cons a l ih =>
  rw [List.flatMap_cons, List.length_append, List.map_cons, List.sum_cons, ih, List.length_cons, Array.length_toList]
  rfl
theorem Kb.one (pre : List Nd) (x : Nd) (h : pre.length ≤ 99999999999999999999) : (Sk.one pre x).length ≤ Kb.w x := by
 unfold Sk.one Kb.w
 split
 ·
  exact Nat.zero_le _
 ·
  have hn : Sk.num pre x.parent.toNat ≤ 99999999999999999999 := by
   unfold Sk.num
   refine Nat.le_trans List.countP_le_length ?_
   rw [List.length_tail, List.length_take]
   omega
  have hd := Kb.dec 19 (Sk.num pre x.parent.toNat) (by omega)
  unfold Sk.line
  rw [List.length_append, List.length_append, List.length_append, Kb.flat]
  unfold Kb.ats
  have e1 : x.text.data.toList.length = x.text.size := by rw [Array.length_toList]; rfl
  have e2 : x.name.data.toList.length = x.name.size := by rw [Array.length_toList]; rfl
  split
  ·
   rw [List.length_append, e1]
   simp only [List.length_cons, List.length_nil]
   omega
  ·
   rw [List.length_append, e2]
   simp only [List.length_cons, List.length_nil]
   omega
theorem Kb.linesFrom : ∀ (l pre : List Nd), pre.length + l.length ≤ 99999999999999999999 → (Sk.linesFrom pre l).length ≤ (l.map Kb.w).sum
 | [], _, _ => Nat.le_refl _
 | x :: l, pre, h => by
  have h : pre.length + (l.length + 1) ≤ 99999999999999999999 := h
  show (Sk.one pre x ++ Sk.linesFrom (pre ++ [x]) l).length ≤ _
  rw [List.length_append, List.map_cons, List.sum_cons]
  have h1 := Kb.one pre x (by omega)
  have h2 := Kb.linesFrom l (pre ++ [x]) (by rw [List.length_append]; simp; omega)
  omega
theorem Kb.skel (ns : List Nd) (h : ns.length ≤ 99999999999999999999) : (Sk.skel ns).length ≤ (ns.map Kb.w).sum := by
 cases ns with
 | nil => exact Nat.le_refl _
 | cons r l =>
  rw [List.map_cons, List.sum_cons]
  have h : l.length + 1 ≤ 99999999999999999999 := h
  have := Kb.linesFrom l [r] (by show 1 + l.length ≤ _; omega)
  show (Sk.linesFrom [r] l).length ≤ _
  omega
def Kb.N (L : Nat) (x : Nd) : Prop := (x.kind ≠ 2 → x.text.size ≤ L) ∧ x.name.size ≤ 32
theorem Kb.token {L : Nat} {m : Bt} (h : ∀ x ∈ m.out, Kb.N L x) (t : Tk) (ht : t.text.size ≤ L) (hn : t.name.size ≤ 32) : ∀ x ∈ (m.token t).out, Kb.N L x := by
 have hnode : ∀ y : Nd, Kb.N L { y with parent := (m.top : Int) } → ∀ x ∈ (m.node y).out, Kb.N L x := fun y hy x hx => by
  rcases List.mem_append.1 hx with q | q
  ·
   exact h x q
  ·
   rw [List.mem_singleton.1 q]; exact hy
 unfold Bt.token
 split
 ·
  split
  ·
   exact h
  ·
   split
   ·
    next q =>
    intro x hx
    rcases List.mem_or_eq_of_mem_set hx with r | r
    ·
     exact h x r
    ·
     rw [r]
     refine ⟨fun e => absurd q.1 e, ?_⟩
     show (m.nth m.last).name.size ≤ 32
     unfold Bt.nth
     cases e : m.out[m.last]? with
     | none => exact Nat.zero_le _
     | some z => exact (h z (List.mem_of_getElem? e)).2
   ·
    exact hnode _ ⟨fun e => absurd rfl e, Nat.zero_le _⟩
 split
 ·
  exact hnode _ ⟨fun _ => ht, Nat.zero_le _⟩
 split
 ·
  split
  ·
   exact hnode _ ⟨fun _ => Nat.zero_le _, hn⟩
  ·
   exact hnode _ ⟨fun _ => Nat.zero_le _, hn⟩
 split
 ·
  split
  ·
   exact h
  ·
   exact h
 ·
  exact h
theorem Kb.run {L : Nat} : ∀ (ts : List Tk) {m : Bt}, (∀ x ∈ m.out, Kb.N L x) → (∀ t ∈ ts, t.text.size ≤ L ∧ t.name.size ≤ 32) → ∀ x ∈ (Bt.run m ts).1.out, Kb.N L x
 | [], _, h, _ => h
 | t :: ts, m, h, ht => by
  unfold Bt.run
  have h1 := Kb.token h t (ht t List.mem_cons_self).1 (ht t List.mem_cons_self).2
  split
  ·
   exact h1
  ·
   exact Kb.run ts h1 (fun u hu => ht u (List.mem_cons_of_mem _ hu))
theorem Kb.nice {s : ByteArray} {ns : List Nd} {k : Int} (h : Kp.Is s ns k) : ∀ x ∈ ns, x.attrs.length ≤ 32 ∧ (∀ y ∈ x.attrs, y.1.size ≤ 32) ∧ Kb.N 524288 x := by
 rcases h with ⟨_, rfl, _⟩ | ⟨hs, ⟨_, rfl, _⟩ | ⟨_, _, rfl, _⟩ | ⟨hm, hr, rfl, _⟩⟩
 ·
  exact fun _ h => (nomatch h)
 ·
  exact fun _ h => (nomatch h)
 ·
  exact fun _ h => (nomatch h)
 ·
  intro x hx
  obtain ⟨h1, h2⟩ := Bt.nice (Rd.tokens s) hm (fun t ht => (Rf.Nice.tokens s t ht).2.2) x hx
  refine ⟨h1, h2, Kb.run (Rd.tokens s) (m := Bt.start) (fun z hz => by rw [List.mem_singleton.1 hz]; exact ⟨fun _ => Nat.zero_le _, Nat.zero_le _⟩) (fun t ht => ⟨?_, (Rf.Nice.tokens s t ht).1⟩) x hx⟩
  have := ((Kp.toks s).1 t ht).1
  omega
theorem Kb.page {s : ByteArray} {ns : List Nd} {k : Int} (h : Kp.Is s ns k) : (Sk.skel ns).length + 32 ≤ 140737488355328 := by
 have hl := h.len
 have hn := Kb.nice h
 refine Nat.le_trans (Nat.add_le_add_right (Kb.skel ns (by omega)) 32) ?_
 have := Kp.sum_le (ns.map Kb.w) 1048576 (fun q hq => by
  obtain ⟨x, hx, rfl⟩ := List.mem_map.1 hq
  obtain ⟨h1, h2, h3, h4⟩ := hn x hx
  unfold Kb.w
  split
  ·
   exact Nat.zero_le _
  ·
   next c =>
   have hat : Kb.ats x ≤ 32 * 33 := by
    unfold Kb.ats
    have := Kp.sum_le (x.attrs.map fun a => a.1.size + 1) 33 (fun q hq => by
     obtain ⟨y, hy, rfl⟩ := List.mem_map.1 hq
     have := h2 y hy
     show y.1.size + 1 ≤ 33
     omega)
    rw [List.length_map] at this
    have h5 : x.attrs.length * 33 ≤ 32 * 33 := Nat.mul_le_mul_right _ h1
    omega
   have := h3 c
   split <;> omega)
 rw [List.length_map] at this
 have h5 : ns.length * 1048576 ≤ 4096 * 1048576 := Nat.mul_le_mul_right _ hl
 omega
end Go.Proofs.YtblpkjlodncpeaaGreatDoor

/-
  THE WALK of tok.Tokens.
-/
import Derived.Test.YtblpkjlodncpeaaGreatDoorBTRead
import Derived.Test.YtblpkjlodncpeaaGreatDoorBTInvtoTSc1
import Derived.Test.YtblpkjlodncpeaaGreatDoorBTSd9toTRdA
import Derived.Test.YtblpkjlodncpeaaGreatDoorBTKittoLower
import Derived.Test.YtblpkjlodncpeaaGreatDoorBTRs1
import Derived.Test.YtblpkjlodncpeaaGreatDoorBTLowtoTRowA
import Derived.Test.YtblpkjlodncpeaaGreatDoorBUNdtoUMay
import Derived.Test.YtblpkjlodncpeaaGreatDoorBUCopytoTDec
import Derived.Deep.RegionLaw
namespace Go.Proofs.YtblpkjlodncpeaaGreatDoor
open Go.RowKit
def Rm.cells (P : ByteArray) (B C : Nat) : Array Value := #[.string P, Tp.fn 52, Tp.fn 53, Tp.fn 54, Tp.fn 55, Tp.fn 56, Tp.fn 57, Tp.fn 58, Tp.fn 59, Tp.quote B, Tp.quote C, Tp.fn 61, Tp.fn 62, Tp.fn 63, Tp.fn 64, Tp.fn 65, Tp.fn 66, Tp.fn 67, Tp.fn 68, Tp.fn 69, Tp.fn 70, Tp.fn 71, Tp.fn 72, Tp.fn 73, .int .i64 0, .string ⟨#[]⟩, .bool false, .string ⟨#[]⟩, .string ⟨#[]⟩, .int .i64 0, .slice none 0 0, .int .i64 0, .int .i64 0, .int .i64 0, .slice none 0 0, .bool false]
def Rm.zeros : Array Value := #[.string ⟨#[]⟩, .nilFunc, .nilFunc, .nilFunc, .nilFunc, .nilFunc, .nilFunc, .nilFunc, .nilFunc, .nilFunc, .nilFunc, .nilFunc, .nilFunc, .nilFunc, .nilFunc, .nilFunc, .nilFunc, .nilFunc, .nilFunc, .nilFunc, .nilFunc, .nilFunc, .nilFunc, .nilFunc, .int .i64 0, .string ⟨#[]⟩, .bool false, .string ⟨#[]⟩, .string ⟨#[]⟩, .int .i64 0, .slice none 0 0, .int .i64 0, .int .i64 0, .int .i64 0, .slice none 0 0, .bool false]
theorem Rm.infoR : (Tryz.prog.info? 79).map (·.size) = some 36 := by kernel_rfl
theorem Rm.cells_one (P : ByteArray) (B C : Nat) : (Rm.cells P B C).all (·.oneCell') = true := by simp [Rm.cells, Tp.fn, Tp.quote, Value.oneCell']
theorem Rm.cells_len (P : ByteArray) (B C : Nat) : (Rm.cells P B C).toList.length = 36 := rfl
theorem Rm.cells_get (P : ByteArray) (B C : Nat) (k : Nat) (v : Value) (h : (Tp.table B C)[k]? = some v) : (Rm.cells P B C).toList[1 + k]? = some v := by
 have hlt : k < 23 := by
  have := (Array.getElem?_eq_some_iff.1 h).1
  simpa [Tp.table] using this
 have : ∀ k, k < 23 → (Rm.cells P B C).toList[1 + k]? = (Tp.table B C).toList[k]? := by
  intro k hk
  have e : (Rm.cells P B C).toList = [.string P] ++ ((Tp.table B C).toList ++ [.int .i64 0, .string ⟨#[]⟩, .bool false, .string ⟨#[]⟩, .string ⟨#[]⟩, .int .i64 0, .slice none 0 0, .int .i64 0, .int .i64 0, .int .i64 0, .slice none 0 0, .bool false]) := rfl
  rw [e, List.getElem?_append_right (by simp), List.getElem?_append_left (by show _ < 23; simp; omega)]
  simp
 rw [this k hlt, Array.getElem?_toList]
 exact h
theorem Rm.At.laid {W : World} {g B C : Nat} {P : ByteArray} (hg : g < W.heap.size) (ht : W.there g 0 36) (hz : ∀ i, W.frozen? ⟨g, i, none⟩ = false) (hB : B < g) (hC : C < g) (h1 : W.cell? ⟨B, 0, none⟩ = some (.int .u8 34)) (h2 : W.cell? ⟨C, 0, none⟩ = some (.int .u8 39)) :
  Rm.At (W.setCells g 0 (Rm.cells P B C).toList) g P Rd.start (.slice none 0 0) (.slice none 0 0) := by
 have hr := World.rangeAt_setCells_same W g 0 (Rm.cells P B C).toList (by rw [Rm.cells_len]; exact ht)
 have hs := Tp.setCells_size g (Rm.cells P B C).toList 0 W
 have hf : ∀ i, (W.setCells g 0 (Rm.cells P B C).toList).frozen? ⟨g, i, none⟩ = W.frozen? ⟨g, i, none⟩ := fun i => World.frozen?_setCells _ _ _ _ _
 have h34 := (World.cell?_setCells_out g (Rm.cells P B C).toList 0 W ⟨B, 0, none⟩ (fun e => by have e' : B = g := e; omega)).trans h1
 have h39 := (World.cell?_setCells_out g (Rm.cells P B C).toList 0 W ⟨C, 0, none⟩ (fun e => by have e' : C = g := e; omega)).trans h2
 have hq : ∀ o v, (Rm.cells P B C).toList[o]? = some v → (W.setCells g 0 (Rm.cells P B C).toList).cell? ⟨g, o, none⟩ = some v := fun o v hv => by have := hr o v hv; rwa [Nat.zero_add] at this
 refine ⟨⟨hq 0 _ rfl, ⟨by omega, B, C, by omega, by omega, h34, h39, fun k v hv => hq _ _ (Rm.cells_get P B C k v hv)⟩, hq 24 _ rfl, hq 25 _ rfl, hq 26 _ rfl, hq 27 _ rfl, hq 28 _ rfl, hq 29 _ rfl, hq 30 _ rfl, hq 31 _ rfl, hq 32 _ rfl, hq 33 _ rfl, hq 34 _ rfl, hq 35 _ rfl, ?_, ?_⟩, ?_, World.ownsRow_nil _ _ _ _, fun k _ e => by cases e⟩
 ·
  intro i
  rw [hf]
  exact hz i
 ·
  intro B' C' e1 e2
  rw [hq 9 _ rfl] at e1
  rw [hq 10 _ rfl] at e2
  have b1 : Tp.quote B = Tp.quote B' := Option.some.inj e1
  have b2 : Tp.quote C = Tp.quote C' := Option.some.inj e2
  unfold Tp.quote at b1 b2
  simp at b1 b2
  omega
 ·
  exact ⟨[], World.ownsRow_nil _ _ _ _, fun i t h => by simp [Rd.start] at h⟩
theorem Rm.Kept.below {w wr w' : World} {g : Nat} {P : ByteArray} {r : Rd} {tv av tv' av' : Value} (hK : Rm.Kept wr w' g tv av tv' av') (hA : Rm.At wr g P r tv av) (hb : Below w.heap.size w wr) (hg : w.heap.size ≤ g) : Below w.heap.size w w' :=
 ⟨hK.os.trans hb.os, hK.tape.trans hb.tape, hK.output.trans hb.output, Nat.le_trans hb.size hK.size, fun k hk => (hK.block k (Nat.lt_of_lt_of_le hk hb.size) ⟨by omega, fun e => by have := (hA.tvLt e).1; omega, fun e => by have := (hA.avLt e).1; omega⟩).1.trans (hb.block k hk)⟩
theorem Tk.long (page : ByteArray) (w : World) (h : 65536 < page.size) (hs : page.size ≤ maxLen) : Calls Tryz.prog 19 #[.string page] w fun e w' => e = .returned (.tuple #[.slice none 0 0, .int .i64 500]) ∧ w' = w := by
 unfold maxLen at hs
 have t : decide ((65536 : Int) < (page.size : Int)) = true := decide_eq_true (by omega)
 go_enter Tryz.func19, Tryz.ntmps19
 go_wp2
 go_ret2
 exact ⟨rfl, rfl⟩
set_option maxHeartbeats 4000000 in
theorem Tk.shortU (page : ByteArray) (m : Int) (w : World) (h : page.size ≤ 65536) (hm : w.cell? ⟨1, 0, none⟩ = some (.int .i64 m)) :
  Calls Tryz.prog 19 #[.string page] w fun e w' => ∃ v, e = .returned (.tuple #[v, .int .i64 0]) ∧ Tk.Lies w' (fun k => w.heap.size ≤ k ∧ k < w'.heap.size ∧ Rm.Ub w' k) (Rd.tokens page) v ∧ Below w.heap.size w w' := by
 have t : decide ((65536 : Int) < (page.size : Int)) = false := decide_eq_false (by omega)
 have hone := Tp.oneLineEnd page m w h hm
 have HTok : Hid (Rd.tokens page = Rd.done (Rd.page page) (Rd.run (Rd.page page) Rd.start 0 (Rd.page page).data.toList)) := by
  unfold Hid Rd.tokens
  rw [show (Rd.page page).data.toList = Rd.lines page.data.toList by unfold Rd.page; exact List.toList_toArray]
 have hPs : (Rd.page page).size ≤ 65536 := by
  have := Li.lines_len page.data.toList
  rw [Wk.len_data] at this
  rw [← Wk.len_data, show (Rd.page page).data.toList = Rd.lines page.data.toList by unfold Rd.page; exact List.toList_toArray]
  omega
 generalize Rd.page page = P at *
 generalize Rd.tokens page = TS at *
 clear hm h
 go_enter Tryz.func19, Tryz.ntmps19
 go_wp2_with (first | (go_at_call 31; refine hone.mono ?_; rintro e w1 ⟨rfl, hb1⟩; clear hone) | (go_at_call 32; refine (Tp.steppers _).mono ?_; rintro e w2 ⟨B, C, rfl, hB, hC, hB0, hC0, h34, h39, hb2⟩) | (go_at_call 33; refine (Tp.Start _).mono ?_; rintro e w3 ⟨rfl, hb3⟩) | refine Vm.stop 13 ?_)
 have b2 : Below w.heap.size w w2 := hb1.trans (hb2.mono hb1.size)
 have b3 : Below w.heap.size w w3 := b2.trans (hb3.mono b2.size)
 have k34 := Tp.keep hb3 h34
 have k39 := Tp.keep hb3 h39
 have hs3 := hb3.size
 clear h34 h39 hb1 hb2 hb3 b2
 refine ⟨?_⟩
 refine wpList_buildTo rfl 79 _ rfl (some 13) rfl (Rm.cells P B C) (by kernel_rfl) ?_
 go_wp2_with (refine Vm.stopS 79 ?_)
 refine ⟨?_⟩
 obtain ⟨W, hW⟩ : ∃ W, w3.alloc (.cells Rm.zeros 79) = W := ⟨_, rfl⟩
 have hsz : W.heap.size = w3.heap.size + 1 := by rw [← hW]; simp
 have hbW : Below w3.heap.size w3 W := by rw [← hW]; exact (Below.refl _ _).alloc (Nat.le_refl _) _
 have hnew : W.heap[w3.heap.size]? = some (.cells Rm.zeros 79) := by rw [← hW]; exact heap_alloc_new w3 _
 have hth : W.there w3.heap.size 0 36 := Tp.there W w3.heap.size Rm.zeros 79 hnew 0 36 (by decide)
 have hz : ∀ i, W.frozen? ⟨w3.heap.size, i, none⟩ = false := fun i => by unfold World.frozen?; rw [hnew]; simp
 have hA0 := Rm.At.laid (W := W) (g := w3.heap.size) (B := B) (C := C) (P := P) (by omega) hth hz (by omega) (by omega) (Tp.keep hbW k34) (Tp.keep hbW k39)
 have hb4 := Tp.setCells (B := w.heap.size) (a := w) w3.heap.size b3.size (Rm.cells P B C).toList 0 W (b3.trans (hbW.mono b3.size))
 unfold Rm.zeros at hW
 rw [hW]
 refine wpList_store_mid rfl 79 _ _ rfl w3.heap.size 0 (Rm.cells P B C) rfl rfl hth Rm.infoR (Rm.cells_one _ _ _) ?_
 generalize W.setCells w3.heap.size 0 (Rm.cells P B C).toList = V at *
 have hgw : w.heap.size ≤ w3.heap.size := b3.size
 generalize w3.heap.size = g at *
 clear hW hth hz hnew hbW k34 k39 hB hC hB0 hC0 b3 hs3 hsz
 have z0 := hA0.box.page
 have HA0 := Lib.hid hA0
 have HB4 := Lib.hid hb4
 clear hA0 hb4
 go_wp2
 go_loopw [17] (fun i wr => ∃ (k : Nat) (tv av : Value), k ≤ P.size ∧ i = .int .i64 (k : Int) ∧ Hid (Rm.At wr g P (Rd.run P Rd.start 0 (P.data.toList.take k)) tv av) ∧ Hid (Below w.heap.size w wr)) (fun i _ => P.size - (intOf i).toNat)
 case atStart => exact ⟨0, _, _, Nat.zero_le _, rfl, HA0.out, HB4.out⟩
 case round =>
  clear HA0 HB4 z0
  obtain ⟨k, tv, av, hk, rfl, HA, HB⟩ := hrel
  have hlen : (P.data.toList.take k).length = k := by rw [List.length_take, Wk.len_data]; omega
  have hOk := Rd.Ok.run (P := P) (P.data.toList.take k) Rd.Ok.start
  rw [hlen, Nat.zero_add] at hOk
  by_cases hlt : k < P.size
  ·
   have HR : Hid (Rd.run P Rd.start 0 (P.data.toList.take (k + 1)) = Rd.read P (Rd.run P Rd.start 0 (P.data.toList.take k)) k P[k]) := by
    unfold Hid
    have e : P.data.toList.take (k + 1) = P.data.toList.take k ++ [P[k]] := by
     rw [List.take_succ_eq_append_getElem (by rw [Wk.len_data]; exact hlt)]; rfl
    rw [e, Rd.run_snoc, hlen, Nat.zero_add]
   obtain ⟨RR, hRR⟩ : ∃ RR, Rd.run P Rd.start 0 (P.data.toList.take (k + 1)) = RR := ⟨_, rfl⟩
   have HRR := Lib.hid hRR
   rw [hRR] at HR
   clear hRR
   generalize Rd.run P Rd.start 0 (P.data.toList.take k) = r at *
   obtain ⟨q, hq⟩ : ∃ q : Nat, r.st.pl = (q : Int) := ⟨r.st.pl.toNat, by have := hOk.lo; omega⟩
   have hnx := Ts.step_next r.st P[k] q hq (by have := hOk.hi; omega)
   have hrd := Rm.read r k P[k] (r.st.step P[k]) _ wr g P tv av HA.out hPs hlt rfl ⟨by have := hOk.small.1; unfold maxLen; omega, by have := hOk.small.2.1; unfold maxLen; omega, by have := hOk.small.2.2; unfold maxLen; omega⟩ rfl rfl (fun hc => by have := hOk.tx q hq hnx rfl hc; omega) (fun h1 h2 h3 => hOk.cm q hq hnx rfl h1 h2 h3) hOk.value (fun h1 h2 => hOk.taken (by omega) (by omega) h2) hOk.attrs (by have := hOk.toks; omega)
   rw [← HR.out] at hrd
   clear hnx hq hOk HR
   go_wp2_with (go_at_call 34; refine hrd.mono ?_; rintro e w4 ⟨rfl, tv4, av4, hA4, hK4⟩; clear hrd)
   go_roundw
   case rel => exact ⟨k + 1, tv4, av4, by omega, by go_num, by unfold Hid; rw [HRR.out]; exact hA4, hK4.below HA.out HB.out hgw⟩
   case measure => simp [intOf]; omega
  ·
   have hke : k = P.size := by omega
   subst hke
   rw [show P.data.toList.take P.size = P.data.toList by rw [← Wk.len_data]; exact List.take_length] at HA hOk
   generalize Rd.run P Rd.start 0 P.data.toList = r at *
   have x0 := HA.out.box.page
   have x24 := HA.out.box.s0
   have x28 := HA.out.box.s4
   have x30 := HA.out.box.toks
   have htx := hOk.text
   have htk := hOk.toks
   cases lw : Rd.loose r.st.pl with
   | true =>
    have HT : Hid (TS = (Rd.tellText P r P.size r.st.held).toks) := by unfold Hid; rw [HTok.out]; unfold Rd.done; rw [if_pos lw]
    have htt := Rm.tellText r P.size r.st.held wr g P tv av HA.out hPs htx (Nat.le_refl _) (by omega)
    clear hOk HTok
    go_wp2_with (first | (go_at_call 35; refine (Tp.isLoose _ _).mono ?_; rintro e w' ⟨rfl, rfl⟩) | (go_at_call 36; refine htt.mono ?_; rintro e w5 ⟨rfl, tv5, av5, hA5, hK5⟩; have y30 := hA5.box.toks; have HA5 := Lib.hid hA5; have HK5 := Lib.hid hK5; clear hA5 hK5 htt))
    go_ret2
    refine ⟨tv5, rfl, ?_, HK5.out.below HA.out HB.out hgw⟩
    rw [HT.out]
    exact HA5.out.toks.liesU.on fun k hk => ⟨⟨by omega, hk.2⟩, rfl⟩
   | false =>
    have HT : Hid (TS = r.toks) := by unfold Hid; rw [HTok.out]; unfold Rd.done; rw [if_neg (by rw [lw]; decide)]
    clear hOk HTok
    go_wp2_with (first | (go_at_call 35; refine (Tp.isLoose _ _).mono ?_; rintro e w' ⟨rfl, rfl⟩))
    go_ret2
    refine ⟨tv, rfl, ?_, HB.out⟩
    rw [HT.out]
    exact HA.out.toks.liesU.on fun k hk => ⟨⟨by omega, hk.2⟩, rfl⟩
theorem Tk.short (page : ByteArray) (m : Int) (w : World) (h : page.size ≤ 65536) (hm : w.cell? ⟨1, 0, none⟩ = some (.int .i64 m)) :
  Calls Tryz.prog 19 #[.string page] w fun e w' => ∃ v, e = .returned (.tuple #[v, .int .i64 0]) ∧ Tk.Lies w' (fun k => w.heap.size ≤ k ∧ k < w'.heap.size) (Rd.tokens page) v ∧ Below w.heap.size w w' := by
 refine (Tk.shortU page m w h hm).mono ?_
 rintro e w' ⟨v, rfl, hl, hb⟩
 exact ⟨v, rfl, hl.on fun _ hk => ⟨⟨hk.1, hk.2.1⟩, rfl⟩, hb⟩
theorem Sc.Kept.below {w wr w' : World} {g : Nat} {P : ByteArray} {x : Rf} {bv ov av bv' ov' av' : Value} (hK : Sc.Kept wr w' g bv ov av bv' ov' av') (hA : Sc.At wr g P x bv ov av) (hb : Below w.heap.size w wr) (hg : w.heap.size ≤ g) : Below w.heap.size w w' :=
 ⟨hK.os.trans hb.os, hK.tape.trans hb.tape, hK.output.trans hb.output, Nat.le_trans hb.size hK.size, fun k hk => (hK.block k (Nat.lt_of_lt_of_le hk hb.size) ⟨by omega, fun e => by have := (hA.buf.lt k e).1; omega, fun e => by have := (hA.ovLt e).1; omega, fun e => by have := (hA.attrs.lt k e).1; omega⟩).1.trans (hb.block k hk)⟩
theorem Rk.long (page : ByteArray) (w : World) (h : 65536 < page.size) (hs : page.size ≤ maxLen) : Calls Tryz.prog 21 #[.string page] w fun e w' => e = .returned (.tuple #[.slice none 0 0, .int .i64 500]) ∧ w' = w := by
 unfold maxLen at hs
 have t : decide ((65536 : Int) < (page.size : Int)) = true := decide_eq_true (by omega)
 go_enter Tryz.func21, Tryz.ntmps21
 go_wp2
 go_ret2
 exact ⟨rfl, rfl⟩
theorem Sc.laid (W : World) (P : ByteArray) : Sc.At (W.alloc (.cells #[.string P, .int .i64 0, .string ⟨#[]⟩, .bool false, .string ⟨#[]⟩, .string ⟨#[]⟩, .int .i64 0, .int .i64 (-1), .slice none 0 0, .bool false, .slice none 0 0, .slice none 0 0, .bool false, .string ⟨#[]⟩, .string ⟨#[]⟩] 91)) W.heap.size P Rf.start (.slice none 0 0) (.slice none 0 0) (.slice none 0 0) := by
 have hb := heap_alloc_new W (.cells #[.string P, .int .i64 0, .string ⟨#[]⟩, .bool false, .string ⟨#[]⟩, .string ⟨#[]⟩, .int .i64 0, .int .i64 (-1), .slice none 0 0, .bool false, .slice none 0 0, .slice none 0 0, .bool false, .string ⟨#[]⟩, .string ⟨#[]⟩] 91)
 refine ⟨⟨fun i v hv => ?_, fun i => ?_⟩, World.ownsRow_nil _ _ _ _, Sc.Toks.nil _ _ _, World.ownsRow_nil _ _ _ _, (fun _ e => by cases e), (fun _ e => by cases e), (fun _ e => by cases e)⟩
 ·
  unfold World.cell?
  rw [hb]
  simpa [Sc.cells, Rf.start, Ts.start, Ts.e] using hv
 ·
  unfold World.frozen?
  rw [hb]
  simp
set_option maxRecDepth 100000 in
set_option maxHeartbeats 4000000 in
theorem Rk.short (page : ByteArray) (w : World) (h : page.size ≤ 65536) :
  Calls Tryz.prog 21 #[.string page] w fun e w' => ∃ v, e = .returned (.tuple #[v, .int .i64 0]) ∧ Tk.Lies w' (fun k => w.heap.size ≤ k ∧ k < w'.heap.size) (Rd.tokens page) v ∧ Below w.heap.size w w' := by
 have t : decide ((65536 : Int) < (page.size : Int)) = false := decide_eq_false (by omega)
 have hlin := fun u => Rl.lines page u (by omega)
 have HTok : Hid (Rd.tokens page = Rf.done (Rd.page page) (Rf.run (Rd.page page) Rf.start 0 (Rd.page page).data.toList)) := by
  unfold Hid
  rw [← Rf.tokens_eq]
  unfold Rf.tokens
  rw [show (Rd.page page).data.toList = Rd.lines page.data.toList by unfold Rd.page; exact List.toList_toArray]
 have hPs : (Rd.page page).size ≤ 65536 := by
  have := Li.lines_len page.data.toList
  rw [Wk.len_data] at this
  rw [← Wk.len_data, show (Rd.page page).data.toList = Rd.lines page.data.toList by unfold Rd.page; exact List.toList_toArray]
  omega
 generalize Rd.page page = P at *
 generalize Rd.tokens page = TS at *
 go_enter Tryz.func21, Tryz.ntmps21
 go_wp2_with (first | (go_at_call 40; refine (hlin _).mono ?_; rintro e w1 ⟨rfl, hb1⟩; clear hlin))
 have hA0 := Sc.laid w1 P
 obtain ⟨W, hW⟩ : ∃ W, w1.alloc (.cells #[.string P, .int .i64 0, .string ⟨#[]⟩, .bool false, .string ⟨#[]⟩, .string ⟨#[]⟩, .int .i64 0, .int .i64 (-1), .slice none 0 0, .bool false, .slice none 0 0, .slice none 0 0, .bool false, .string ⟨#[]⟩, .string ⟨#[]⟩] 91) = W := ⟨_, rfl⟩
 have hbW : Below w.heap.size w W := by rw [← hW]; exact hb1.alloc hb1.size _
 rw [hW] at hA0
 rw [hW]
 have hgw : w.heap.size ≤ w1.heap.size := hb1.size
 generalize w1.heap.size = g at *
 have HA0 := Lib.hid hA0
 have HB0 := Lib.hid hbW
 clear hW hA0 hbW hb1 h
 go_loopw [5] (fun i wr => ∃ (k : Nat) (bv ov av : Value), k ≤ P.size ∧ i = .int .i64 (k : Int) ∧ Hid (Sc.At wr g P (Rf.run P Rf.start 0 (P.data.toList.take k)) bv ov av) ∧ Hid (Below w.heap.size w wr)) (fun i _ => P.size - (intOf i).toNat)
 case atStart => exact ⟨0, _, _, _, Nat.zero_le _, rfl, HA0.out, HB0.out⟩
 case round =>
  clear HA0 HB0
  obtain ⟨k, bv, ov, av, hk, rfl, HA, HB⟩ := hrel
  have hlen : (P.data.toList.take k).length = k := by rw [List.length_take, Wk.len_data]; omega
  have hSm := Rf.Sm.run (P := P) (P.data.toList.take k) Rf.Sm.start Ts.Fit.start (by omega)
  have hSim := Rf.Sim.run (P := P) (P.data.toList.take k) (Rf.Sim.start P) (by omega)
  rw [hlen, Nat.zero_add] at hSm hSim
  have x0 := HA.out.box.cell 0 _ rfl
  by_cases hlt : k < P.size
  ·
   have d1 : decide ((k : Int) < (P.size : Int)) = true := decide_eq_true (by omega)
   have HR : Hid (Rf.run P Rf.start 0 (P.data.toList.take (k + 1)) = Rf.byte P (Rf.run P Rf.start 0 (P.data.toList.take k)) k P[k]) := by
    unfold Hid
    have e : P.data.toList.take (k + 1) = P.data.toList.take k ++ [P[k]] := by
     rw [List.take_succ_eq_append_getElem (by rw [Wk.len_data]; exact hlt)]; rfl
    rw [e, Rf.run_snoc, hlen, Nat.zero_add]
   have by1 := Sc.byte P (Rf.run P Rf.start 0 (P.data.toList.take k)) k wr g bv ov av HA.out hSm.2 hSm.1 hlt hPs P[k] rfl (fun a b c => hSim.cm P[k] a b c)
   rw [← HR.out] at by1
   clear HR hSm hSim hlen
   go_wp2_with (go_at_call 41; refine by1.mono ?_; rintro e w4 ⟨rfl, bv4, ov4, av4, hA4, hK4⟩; clear by1)
   go_roundw
   case rel => exact ⟨k + 1, bv4, ov4, av4, by omega, by go_num, hA4, hK4.below HA.out HB.out hgw⟩
   case measure => simp [intOf]; omega
  ·
   have hke : k = P.size := by omega
   subst hke
   have d1 : decide ((P.size : Int) < (P.size : Int)) = false := decide_eq_false (by omega)
   rw [show P.data.toList.take P.size = P.data.toList by rw [← Wk.len_data]; exact List.take_length] at HA hSm hSim
   clear hSim hlen x0
   generalize Rf.run P Rf.start 0 P.data.toList = x at *
   have x0 := HA.out.box.cell 0 _ rfl
   have x1 := HA.out.box.cell 1 _ rfl
   have x7 := HA.out.box.cell 7 _ rfl
   have hbl : x.buf.length ≤ 65536 := by have := hSm.1.buf; omega
   have hou : x.out.length ≤ 1000000 := by have := hSm.1.out; omega
   have htxt := fun u => Rl.inText x.st.pl _ rfl u
   by_cases hc : 0 ≤ x.hold ∧ Rf.inText x.st.pl
   ·
    have d0 : decide ((0 : Int) ≤ x.hold) = true := decide_eq_true hc.1
    have hT : (decide (x.st.pl = 0) || decide (x.st.pl = 1) || decide (x.st.pl = 2) || decide ((19 : Int) ≤ x.st.pl)) = true := by
     have := hc.2
     unfold Rf.inText at this
     simp only [Bool.or_eq_true, decide_eq_true_eq]
     omega
    simp only [hT] at htxt
    obtain ⟨a, ha⟩ : ∃ a : Nat, x.hold = (a : Int) := ⟨x.hold.toNat, by omega⟩
    have HT : Hid (TS = (x.adds P a P.size).flush.out) := by unfold Hid; rw [HTok.out]; unfold Rf.done; rw [if_pos hc, ha]; rfl
    have add := fun u bv2 => fun (hu : Sc.At u g P x bv2 ov av) => Sc.adds P x u g bv2 ov av hu a P.size (by have := (hSm.1.hold hc.1).1; omega) (Nat.le_refl _) hPs hbl
    have HBL : Hid ((x.adds P a P.size).buf.length ≤ 65536) := by
     unfold Hid
     show (x.buf ++ Rf.sl P a P.size).length ≤ 65536
     rw [List.length_append, Rf.sl_len P a P.size (Nat.le_refl _)]
     have := hSm.1.hold hc.1
     omega
    rw [ha] at x7 d0
    clear hSm hc hT HTok ha
    go_upto_region 9 with (first | (go_at_call 42; refine (htxt _).mono ?_; rintro e w' ⟨rfl, hw⟩; have hw := hw.symm; subst hw))
    have HD : Hid (Below wr.heap.size wr wr.drew) := (Below.refl _ _).drew
    have add2 := add wr.drew bv (HA.out.on HD.out)
    clear add
    go_cut [] from 38 to 48 (fun wx => Hid (∃ bv2, Sc.At wx g P (x.adds P a P.size) bv2 ov av ∧ Sc.Kept wr wx g bv ov av bv2 ov av))
    case first =>
     go_region_with (go_at_call 43; refine add2.mono ?_; rintro e w2 ⟨rfl, bv2, hA2, hK2⟩; have HK2 := Lib.hid ((Sc.Kept.of g bv ov av HD.out).trans hK2); have HA2 := Lib.hid hA2; clear hA2 hK2)
     all_goals (try go_wp2_with fail)
     all_goals go_meet
     all_goals exact Lib.hid ⟨bv2, HA2.out, HK2.out⟩
    case rest =>
     obtain ⟨bv2, hA2, hK2⟩ := hcut.out
     have flu := Sc.flush P (x.adds P a P.size) wc g bv2 ov av hA2 HBL.out hou
     have HK2 := Lib.hid hK2
     clear hcut hA2 hK2 add2 htxt x0 x1 x7
     go_wp2_with (first | (go_at_call 44; refine flu.mono ?_; rintro e w5 ⟨rfl, bv5, ov5, hA5, hK5⟩; have y10 := hA5.box.cell 10 _ rfl; have HA5 := Lib.hid hA5; have HK5 := Lib.hid hK5; clear hA5 hK5 flu))
     go_ret2
     refine ⟨ov5, rfl, ?_, (HK2.out.trans HK5.out).below HA.out HB.out hgw⟩
     rw [HT.out]
     exact HA5.out.out.lies.on fun k hk => ⟨⟨by omega, hk.2⟩, rfl⟩
   ·
    have HT : Hid (TS = x.flush.out) := by unfold Hid; rw [HTok.out]; unfold Rf.done; rw [if_neg hc]
    have flu := Sc.flush P x wr g bv ov av HA.out hbl hou
    have hd : decide ((0 : Int) ≤ x.hold) = false ∨ (decide ((0 : Int) ≤ x.hold) = true ∧ (decide (x.st.pl = 0) || decide (x.st.pl = 1) || decide (x.st.pl = 2) || decide ((19 : Int) ≤ x.st.pl)) = false) := by
     unfold Rf.inText at hc
     simp only [Bool.or_eq_false_iff, decide_eq_true_eq, decide_eq_false_iff_not]
     omega
    clear hSm hc HTok
    rcases hd with d0 | ⟨d0, d2⟩
    all_goals
     (try simp only [d2] at htxt)
     go_wp2_with (first | (go_at_call 42; refine (htxt _).mono ?_; rintro e w' ⟨rfl, hw⟩; have hw := hw.symm; subst hw) | (go_at_call 44; refine flu.mono ?_; rintro e w5 ⟨rfl, bv5, ov5, hA5, hK5⟩; have y10 := hA5.box.cell 10 _ rfl; have HA5 := Lib.hid hA5; have HK5 := Lib.hid hK5; clear hA5 hK5 flu))
     go_ret2
     refine ⟨ov5, rfl, ?_, HK5.out.below HA.out HB.out hgw⟩
     rw [HT.out]
     exact HA5.out.out.lies.on fun k hk => ⟨⟨by omega, hk.2⟩, rfl⟩
theorem Tp.elemKind (n : ByteArray) (w : World) : Calls Tryz.prog 118 #[.string n] w fun e w' => e = .returned (.int .i64 (Ts.kind n)) ∧ w' = w := by
 go_enter Tryz.func118, Tryz.ntmps118
 go_wp2_with (go_at_call 80; refine (Tp.kind n _).mono ?_; rintro e w' ⟨rfl, rfl⟩)
 go_ret
 exact ⟨rfl, rfl⟩
set_option maxRecDepth 100000 in
set_option maxHeartbeats 8000000 in
theorem Um.token0 (base : Nat) (m : Bt) (t : Tk) (aa : Option Addr) (an ad : Nat) (w : World) (g : Nat) (ov pv : Value) (h : Um.At base w g m ov pv) (hok : Bt.Ok m) (hs : m.out.length ≤ 1000000) (hk : t.kind = 0) (hz : (m.nth m.last).text.size + t.text.size ≤ 9223372036854775807) :
  Calls Tryz.prog 46 #[.pointer (some ⟨g, 0, none⟩), .agg #[.int .i64 t.kind, .string t.name, .string t.text, .slice aa an ad, .bool t.self]] w fun e w' => e = .returned (.tuple #[]) ∧ ∃ ov' pv', Um.At base w' g (m.token t) ov' pv' ∧ Um.Kept w w' g ov pv ov' pv' := by
 have t0 : (t.kind == 0) = true := by rw [hk]; rfl
 have HT := Lib.hid hk
 have HZ := Lib.hid hz
 clear hk hz
 have hlt := h.lt
 obtain ⟨p, pd, rfl, hpd, ctop⟩ := Um.topCell h hok.opn
 obtain ⟨xs, hx⟩ := id h.out
 obtain ⟨og, od, rfl, hod, hod2⟩ := Um.form1 hx.1 hok.some
 have hp : p < w.heap.size := World.block_lt_of_cell? _ _ ctop
 have hl0 := hok.opn
 have hfew := hok.few
 have hsome := hok.some
 have n1 : w.heap.size ≠ g := by omega
 have n2 : g ≠ w.heap.size := by omega
 have hw1 : IntKind.i64.wrap ((m.opn.length : Int) - 1) = ((m.opn.length - 1 : Nat) : Int) := by rw [IntKind.wrap_i64]; omega
 have hw2 : IntKind.i64.wrap ((m.out.length : Int) - 1) = ((m.out.length - 1 : Nat) : Int) := by rw [IntKind.wrap_i64]; omega
 have hidx : m.opn.length - 1 < pd := by omega
 have hi63 : m.opn.length - 1 < m.opn.length := by omega
 have hod3 : m.out.length - 1 < od := by omega
 have ho63 : m.out.length - 1 < m.out.length := by omega
 go_enter Tryz.func46, Tryz.ntmps46
 go_upto_region 1 with fail
 obtain ⟨W, hW⟩ : ∃ W, w.alloc (.cells #[.int .i64 t.kind, .string t.name, .string t.text, .slice aa an ad, .bool t.self] 84) = W := ⟨_, rfl⟩
 have hbW : Below w.heap.size w W := by rw [← hW]; exact (Below.refl _ _).alloc (Nat.le_refl _) _
 have k0 : W.cell? ⟨w.heap.size, 0, none⟩ = some (.int .i64 t.kind) := by rw [← hW]; simp
 have k1 : W.cell? ⟨w.heap.size, 1, none⟩ = some (.string t.name) := by rw [← hW]; simp
 have k2 : W.cell? ⟨w.heap.size, 2, none⟩ = some (.string t.text) := by rw [← hW]; simp
 have k3 : W.cell? ⟨w.heap.size, 3, none⟩ = some (.slice aa an ad) := by rw [← hW]; simp
 have q1 := Tp.keep hbW h.c1
 have qt := Tp.keep hbW ctop
 have hA := h.on hbW
 rw [hW]
 have HA := Lib.hid hA
 have HBW := Lib.hid hbW
 have HW : Hid (Um.Free (.slice (some ⟨og, 0, none⟩) m.out.length od) (.slice (some ⟨p, 0, none⟩) m.opn.length pd) g w.heap.size) := ⟨n1, (fun e => by have := (h.ovLt e).2; omega), fun e => by have := (h.pvLt e).2; omega⟩
 clear hW hbW hA hx ctop
 go_quiet (fail)
 obtain ⟨V, hV⟩ : ∃ V, W.drewN nq = V := ⟨_, rfl⟩
 have hbV : Below W.heap.size W V := by rw [← hV]; exact ⟨rfl, rfl, rfl, Nat.le_refl _, fun _ _ => rfl⟩
 rw [hV]
 have hA := HA.out.on hbV
 have v0 := Tp.keep hbV k0
 have v1 := Tp.keep hbV k1
 have v2 := Tp.keep hbV k2
 have v3 := Tp.keep hbV k3
 have c0 := hA.c0
 have c1 := hA.c1
 have cf := hA.fz
 have hgV := hA.lt
 have HA := Lib.hid hA
 have HK := Lib.hid (Um.Kept.of g (.slice (some ⟨og, 0, none⟩) m.out.length od) (.slice (some ⟨p, 0, none⟩) m.opn.length pd) (HBW.out.trans (hbV.mono HBW.out.size)))
 have HBV : Hid (Below w.heap.size w V) := HBW.out.trans (hbV.mono HBW.out.size)
 clear hV hbV hA k0 k1 k2 k3 q1 qt HBW h
 obtain ⟨y, hy⟩ : ∃ y, m.out[m.out.length - 1]? = some y := ⟨_, List.getElem?_eq_getElem ho63⟩
 have HYN : Hid (m.nth m.last = y) := by unfold Hid Bt.nth Bt.last; rw [hy]; rfl
 by_cases TE : t.text.toList = []
 ·
  have e1 : (t.text.toList == []) = true := by rw [TE]; rfl
  have e2 : t.text.toList.isEmpty = true := by rw [TE]; rfl
  have HX : Hid (m.token t = m) := by unfold Hid Bt.token; rw [if_pos HT.out, if_pos ((Um.empty _).1 TE)]
  clear hy
  go_wp2_with fail
  refine bodyPost_ret (v := .tuple #[]) (by simp [results, Tryz.results46, go_sem]) rfl ⟨rfl, _, _, by rw [HX.out]; exact HA.out, HK.out⟩
 have e1 : (t.text.toList == []) = false := beq_eq_false_iff_ne.2 TE
 have e2 : t.text.toList.isEmpty = false := by cases hq : t.text.toList with | nil => exact absurd hq TE | cons _ _ => rfl
 have HTE : Hid (¬ t.text = Ts.e) := fun q => TE ((Um.empty _).2 q)
 obtain ⟨avy, hcy⟩ := HA.out.out.cell hy
 have y0 : V.cell? ⟨og, (m.out.length - 1) * 5, none⟩ = some (.int .i64 y.kind) := hcy 0 _ rfl
 have y2 : V.cell? ⟨og, (m.out.length - 1) * 5 + 2, none⟩ = some (.string y.text) := hcy 2 _ rfl
 have y4 : V.cell? ⟨og, (m.out.length - 1) * 5 + 4, none⟩ = some (.int .i64 y.parent) := hcy 4 _ rfl
 have yf : ∀ j, V.frozen? ⟨og, j, none⟩ = false := by
  obtain ⟨xs, ho, _⟩ := HA.out.out
  exact fun j => ho.frozenAt j
 have HY := Lib.hid hy
 clear hy hcy
 by_cases hb : y.kind = 2 ∧ y.parent = (m.top : Int)
 ·
  have b1 : (y.kind == 2) = true := by rw [hb.1]; rfl
  have b2 : (y.parent == (m.top : Int)) = true := by rw [hb.2]; simp
  have HX : Hid (m.token t = { m with out := m.out.set (m.out.length - 1) { y with text := y.text ++ t.text } }) := by
   unfold Hid Bt.token
   rw [if_pos HT.out, if_neg HTE.out, HYN.out, if_pos hb]
   unfold Bt.put
   rw [HYN.out]
   rfl
  have hsz : (y.text ++ t.text).size = y.text.size + t.text.size := ByteArray.size_append
  have hz2 : y.text.size + t.text.size ≤ 9223372036854775807 := by have := HZ.out; rw [HYN.out] at this; exact this
  obtain ⟨s, hs'⟩ : ∃ s : ByteArray, y.text ++ t.text = s := ⟨_, rfl⟩
  rw [hs'] at hsz HX
  clear hb
  go_upto_region 7 with fail
  go_cut [] from 53 to 70 (fun wx => Hid (wx = (V.setCell ⟨og, (m.out.length - 1) * 5 + 2, none⟩ (.string s)).drew))
  case first =>
   go_region_with (fail)
   all_goals (try go_wp2_with fail)
   all_goals go_meet
   all_goals exact Lib.hid rfl
  case rest =>
   have hA2 := (HA.out.put HY.out s).1.drew
   have hK2 := (HA.out.put HY.out s).2
   have hwc := hcut.out
   clear hcut
   subst hwc
   have HA2 := Lib.hid hA2
   have HK2 := Lib.hid ((HK.out.trans hK2).trans (Um.Kept.of g _ _ (Below.refl _ _).drew))
   clear hA2 hK2
   go_wp2_with fail
   refine bodyPost_ret (v := .tuple #[]) (by simp [results, Tryz.results46, go_sem]) rfl ⟨rfl, _, _, by rw [HX.out]; exact HA2.out, HK2.out⟩
 ·
  have HX : Hid (m.token t = m.node ⟨2, Ts.e, t.text, [], 0⟩) := by unfold Hid Bt.token; rw [if_pos HT.out, if_neg HTE.out, HYN.out, if_neg hb]
  have hd : Hid ((y.kind == 2) = false ∨ ((y.kind == 2) = true ∧ (y.parent == (m.top : Int)) = false)) := by
   unfold Hid
   simp only [beq_iff_eq, beq_eq_false_iff_ne]
   omega
  have nod := Um.node base m ⟨2, Ts.e, t.text, [], 0⟩ none 0 0 V g _ _ HA.out hok hs (Ak.Lies.nil _ _)
  clear hb
  rcases hd.out with b1 | ⟨b1, b2⟩
  all_goals
   go_wp2_with (go_at_call 93; refine nod.mono ?_; rintro e w2 ⟨rfl, ov2, hA2, hK2⟩; have HA2 := Lib.hid hA2; have HK2 := Lib.hid (HK.out.trans hK2); clear nod hA2 hK2)
   go_end0
   exact ⟨rfl, _, _, by rw [HX.out]; exact HA2.out, HK2.out⟩
set_option maxRecDepth 100000 in
set_option maxHeartbeats 8000000 in
theorem Um.token1 (base : Nat) (m : Bt) (t : Tk) (aa : Option Addr) (an ad : Nat) (w : World) (g : Nat) (ov pv : Value) (h : Um.At base w g m ov pv) (hok : Bt.Ok m) (hs : m.out.length ≤ 1000000) (hk : t.kind = 1) (hat : Ak.Lies w (· < base) t.attrs (.slice aa an ad)) (hbs : base ≤ w.heap.size) (hal : t.attrs.length ≤ 32) :
  Calls Tryz.prog 46 #[.pointer (some ⟨g, 0, none⟩), .agg #[.int .i64 t.kind, .string t.name, .string t.text, .slice aa an ad, .bool t.self]] w fun e w' => e = .returned (.tuple #[]) ∧ ∃ ov' pv', Um.At base w' g (m.token t) ov' pv' ∧ Um.Kept w w' g ov pv ov' pv' := by
 have t0 : (t.kind == 0) = false := by rw [hk]; rfl
 have t3 : (t.kind == 3) = false := by rw [hk]; rfl
 have t1 : (t.kind == 1) = true := by rw [hk]; rfl
 have HT := Lib.hid hk
 have HKC : Hid (∀ u, Below w.heap.size w u → ∀ j y, (Ak.cells t.attrs)[j]? = some y → ∃ b, aa = some b ∧ u.cell? (b.add j) = some y) := fun u hu => (Um.attr_cells (hat.on (R' := fun _ => True) fun k (hk : k < base) => ⟨trivial, hu.block k (by omega)⟩)).2
 have han := (Um.attr_cells hat).1
 have HLN : Hid ((Ak.cells t.attrs).length = an * 2) := by unfold Hid; rw [Ak.cells_length, han]
 have han2 : an ≤ 32 := by omega
 have HAN := Lib.hid han
 clear hk hat han hal
 have hlt := h.lt
 obtain ⟨p, pd, rfl, hpd, ctop⟩ := Um.topCell h hok.opn
 obtain ⟨xs, hx⟩ := id h.out
 obtain ⟨og, od, rfl, hod, hod2⟩ := Um.form1 hx.1 hok.some
 have hp : p < w.heap.size := World.block_lt_of_cell? _ _ ctop
 have hl0 := hok.opn
 have hfew := hok.few
 have hsome := hok.some
 have n1 : w.heap.size ≠ g := by omega
 have n2 : g ≠ w.heap.size := by omega
 have hw1 : IntKind.i64.wrap ((m.opn.length : Int) - 1) = ((m.opn.length - 1 : Nat) : Int) := by rw [IntKind.wrap_i64]; omega
 have hw2 : IntKind.i64.wrap ((m.out.length : Int) - 1) = ((m.out.length - 1 : Nat) : Int) := by rw [IntKind.wrap_i64]; omega
 have hidx : m.opn.length - 1 < pd := by omega
 have hi63 : m.opn.length - 1 < m.opn.length := by omega
 have hod3 : m.out.length - 1 < od := by omega
 have ho63 : m.out.length - 1 < m.out.length := by omega
 go_enter Tryz.func46, Tryz.ntmps46
 go_upto_region 1 with fail
 obtain ⟨W, hW⟩ : ∃ W, w.alloc (.cells #[.int .i64 t.kind, .string t.name, .string t.text, .slice aa an ad, .bool t.self] 84) = W := ⟨_, rfl⟩
 have hbW : Below w.heap.size w W := by rw [← hW]; exact (Below.refl _ _).alloc (Nat.le_refl _) _
 have k0 : W.cell? ⟨w.heap.size, 0, none⟩ = some (.int .i64 t.kind) := by rw [← hW]; simp
 have k1 : W.cell? ⟨w.heap.size, 1, none⟩ = some (.string t.name) := by rw [← hW]; simp
 have k2 : W.cell? ⟨w.heap.size, 2, none⟩ = some (.string t.text) := by rw [← hW]; simp
 have k3 : W.cell? ⟨w.heap.size, 3, none⟩ = some (.slice aa an ad) := by rw [← hW]; simp
 have q1 := Tp.keep hbW h.c1
 have qt := Tp.keep hbW ctop
 have hA := h.on hbW
 rw [hW]
 have HA := Lib.hid hA
 have HBW := Lib.hid hbW
 have HW : Hid (Um.Free (.slice (some ⟨og, 0, none⟩) m.out.length od) (.slice (some ⟨p, 0, none⟩) m.opn.length pd) g w.heap.size) := ⟨n1, (fun e => by have := (h.ovLt e).2; omega), fun e => by have := (h.pvLt e).2; omega⟩
 clear hW hbW hA hx ctop
 go_quiet (fail)
 obtain ⟨V, hV⟩ : ∃ V, W.drewN nq = V := ⟨_, rfl⟩
 have hbV : Below W.heap.size W V := by rw [← hV]; exact ⟨rfl, rfl, rfl, Nat.le_refl _, fun _ _ => rfl⟩
 rw [hV]
 have hA := HA.out.on hbV
 have v0 := Tp.keep hbV k0
 have v1 := Tp.keep hbV k1
 have v2 := Tp.keep hbV k2
 have v3 := Tp.keep hbV k3
 have c0 := hA.c0
 have c1 := hA.c1
 have cf := hA.fz
 have hgV := hA.lt
 have HA := Lib.hid hA
 have HK := Lib.hid (Um.Kept.of g (.slice (some ⟨og, 0, none⟩) m.out.length od) (.slice (some ⟨p, 0, none⟩) m.opn.length pd) (HBW.out.trans (hbV.mono HBW.out.size)))
 have HBV : Hid (Below w.heap.size w V) := HBW.out.trans (hbV.mono HBW.out.size)
 clear hV hbV hA k0 k1 k2 k3 q1 qt HBW h
 have HFV : Hid (Um.Free (.slice (some ⟨og, 0, none⟩) m.out.length od) (.slice (some ⟨p, 0, none⟩) m.opn.length pd) g w.heap.size) := HW.out
 have HAF : Hid (g < V.heap.size ∧ og < V.heap.size ∧ p < V.heap.size ∧ base ≤ V.heap.size) := ⟨hgV, (HA.out.ovLt rfl).2, (HA.out.pvLt rfl).2, Nat.le_trans hbs HBV.out.size⟩
 have hgsV : w.heap.size < V.heap.size := World.block_lt_of_cell? _ _ v0
 have v1' : ∀ o, (V.alloc o).cell? ⟨w.heap.size, 1, none⟩ = _ := fun o => (World.cell?_alloc_lt _ _ _ hgsV).trans v1
 have v3' : ∀ o, (V.alloc o).cell? ⟨w.heap.size, 3, none⟩ = _ := fun o => (World.cell?_alloc_lt _ _ _ hgsV).trans v3
 have nod := fun u a4 n4 d4 hu ha4 => Um.node base m ⟨1, t.name, Ts.e, t.attrs, 0⟩ a4 n4 d4 u g (.slice (some ⟨og, 0, none⟩) m.out.length od) (.slice (some ⟨p, 0, none⟩) m.opn.length pd) hu hok hs ha4
 go_upto_region 12 with fail
 go_cut [] from 85 to 93 (fun wx => Hid (∃ ov2, Um.At base wx g (m.node ⟨1, t.name, Ts.e, t.attrs, 0⟩) ov2 (.slice (some ⟨p, 0, none⟩) m.opn.length pd) ∧ Um.Kept V wx g (.slice (some ⟨og, 0, none⟩) m.out.length od) (.slice (some ⟨p, 0, none⟩) m.opn.length pd) ov2 (.slice (some ⟨p, 0, none⟩) m.opn.length pd)))
 case first =>
  go_region_law (first | (refine Um.step_copy rfl (.tmp 88) (.tmp 90) 46 50 2 32 _ rfl Tryz.underlying46 Rm.infoA rfl (by decide) (base := V.heap.size) V.heap.size (by rfl) (Um.noAttrs _ _ (by first | exact Nat.le_refl _ | (simp; done))) an (Ak.cells t.attrs) aa ad (by rfl) (HKC.out _ (by first | exact HBV.out.drew.alloc HBV.out.size _ | exact (HBV.out.alloc HBV.out.size _).drew | exact HBV.out.alloc HBV.out.size _)) HLN.out (Ak.cells_one _) (by unfold maxLen; omega) (by omega) (by first | (simp; done) | (simp; omega)) ?_; intro v4 w4 R4 hg4 hf4; obtain ⟨a4, d4, rfl⟩ := Um.form R4; have hc4 := Um.copied (by first | exact (Below.refl V.heap.size V).drew.alloc (Nat.le_refl _) _ | exact ((Below.refl V.heap.size V).alloc (Nat.le_refl _) _).drew | exact (Below.refl V.heap.size V).alloc (Nat.le_refl _) _) hg4 R4 HAN.out HA.out HAF.out.2.2.2; have HL4 := Lib.hid hc4.2; have HB4 := Lib.hid hc4.1; have x1 := Tp.keep hc4.1 v1; clear R4 hg4 hf4 hc4) | (rw [if_pos (by simp [Region.wanted])]; go_simp; go_at_call 93; refine (nod _ a4 an d4 (HA.out.on HB4.out) HL4.out).mono ?_; rintro e w5 ⟨rfl, ov5, hA5, hK5⟩; have HA5 := Lib.hid hA5; have HK5 := Lib.hid ((Um.Kept.of g _ _ HB4.out).trans hK5); clear hA5 hK5))
  all_goals (try go_wp2_with fail)
  all_goals go_meet
  all_goals exact Lib.hid ⟨ov5, HA5.out, HK5.out⟩
 case rest =>
  obtain ⟨ov2, hA2, hK2⟩ := hcut.out
  have z1 := hK2.cell HFV.out v1
  have hlen2 : (m.node ⟨1, t.name, Ts.e, t.attrs, 0⟩).out.length = m.out.length + 1 := by show (m.out ++ _).length = _; rw [List.length_append]; rfl
  obtain ⟨xs2, hx2⟩ := id hA2.out
  obtain ⟨oa2, od2, rfl⟩ := Um.form hx2.1
  have d0 := hA2.c0
  have d1 := hA2.c1
  have df := hA2.fz
  rw [hlen2] at d0
  have HA2 := Lib.hid hA2
  have HK2 := Lib.hid (HK.out.trans hK2)
  have elm := fun u => Rs.elem t.name u
  clear hcut hA2 hK2 hx2 nod v0 v1 v2 v3 v1' v3' c0 c1 cf HKC
  by_cases hq : Ts.kind t.name ≠ 1 ∧ m.opn.length ≤ 32
  ·
   have HX : Hid (m.token t = { m.node ⟨1, t.name, Ts.e, t.attrs, 0⟩ with opn := m.opn ++ [m.out.length] }) := by unfold Hid Bt.token; rw [if_neg (by rw [HT.out]; decide), if_neg (by rw [HT.out]; decide), if_pos HT.out, if_pos hq]
   have b1 : (Ts.kind t.name != 1) = true := bne_iff_ne.2 hq.1
   have b2 : decide ((m.opn.length : Int) ≤ 32) = true := decide_eq_true (by omega)
   have hw5 : IntKind.i64.wrap ((m.out.length : Int) + 1 - 1) = (m.out.length : Int) := by rw [IntKind.wrap_i64]; omega
   have hw6 : IntKind.i64.wrap (m.out.length : Int) = (m.out.length : Int) := by rw [IntKind.wrap_i64]; omega
   have HNI : Hid (m.opn.length + 1 ≤ maxLen ∧ (m.opn.length + 1) * 8 ≤ 140737488355328) := ⟨by unfold maxLen; omega, by omega⟩
   have HOP := Lib.hid HA2.out.opn
   have hgc : g < wc.heap.size := HA2.out.lt
   have n7 : wc.heap.size ≠ g := by omega
   have n8 : g ≠ wc.heap.size := by omega
   have d0' : ∀ o, (wc.alloc o).cell? ⟨g, 0, none⟩ = _ := fun o => (World.cell?_alloc_lt _ _ _ hgc).trans d0
   have d1' : ∀ o, (wc.alloc o).cell? ⟨g, 1, none⟩ = _ := fun o => (World.cell?_alloc_lt _ _ _ hgc).trans d1
   have hbc : base ≤ wc.heap.size := Nat.le_trans HA2.out.ge (Nat.le_of_lt hgc)
   clear hq
   go_upto_region 14 with ((go_at_call 91; refine (elm _).mono ?_; rintro e w' ⟨rfl, hw⟩; have hw := hw.symm; subst hw))
   go_region_law (first | (refine Ro.step_push rfl (.tmp 110) (.tmp 117) 52 3 1 8 _ rfl Tryz.underlying52 Um.infoI rfl (by decide) (.slice (some ⟨p, 0, none⟩) m.opn.length pd) (by simp [Act.eval]) (HOP.out.alloc _) wc.heap.size [.int .i64 (m.out.length : Int)] (by simp [Act.eval]) (Um.one_int _ _ _ (by first | rfl | omega | (simp; omega))) rfl (by simp [Value.oneCell']) HNI.out.1 HNI.out.2 (by first | omega | (simp; omega)) ?_; intro v4 w4 R4 hg4 hf4; obtain ⟨a4, d4, rfl⟩ := Um.form R4; have B4 : w4.heap[g]? = wc.heap[g]? := ((hg4.block g (by first | omega | (simp; omega)) (fun e => HA2.out.pg e.symm)).trans (Below.heap_alloc _ _ _ (by first | omega | (simp; omega)))); have f1 := (World.cell?_of_block (a := ⟨g, 1, none⟩) B4).trans d1; have ff : ∀ i, w4.frozen? ⟨g, i, none⟩ = false := (fun i => by have := df i; unfold World.frozen? at this ⊢; rw [B4]; exact this); clear B4; have HR4 := Lib.hid R4; have HG4 := Lib.hid hg4; have HF4 := Lib.hid hf4; clear R4 hg4 hf4))
   all_goals go_wp2
   all_goals go_end0
   all_goals
    have hq4 : Below wc.heap.size wc (wc.drew.alloc (.cells #[.int .i64 (m.out.length : Int)] 3)) := (Below.refl _ _).drew.alloc (Nat.le_refl _) _
    have hl4 : (m.opn ++ [m.out.length]).length = m.opn.length + 1 := by rw [List.length_append]; rfl
    obtain ⟨y1, y2⟩ := Um.At.open (l := m.opn ++ [m.out.length]) HA2.out hq4 (.inl rfl) (by rw [hl4, Um.ints_append]; exact HR4.out) HG4.out (by
     rcases HF4.out with q | q
     ·
      exact .inl q
     ·
      exact .inr ⟨_, q, by show wc.heap.size ≤ (wc.drew.alloc _).heap.size; simp⟩)
    exact ⟨rfl, _, _, by rw [HX.out]; exact y1, HK2.out.trans y2⟩
  ·
   have HX : Hid (m.token t = m.node ⟨1, t.name, Ts.e, t.attrs, 0⟩) := by unfold Hid Bt.token; rw [if_neg (by rw [HT.out]; decide), if_neg (by rw [HT.out]; decide), if_pos HT.out, if_neg hq]
   have hd : Hid ((Ts.kind t.name != 1) = false ∨ ((Ts.kind t.name != 1) = true ∧ decide ((m.opn.length : Int) ≤ 32) = false)) := by
    unfold Hid
    by_cases q : Ts.kind t.name = 1
    ·
     exact .inl (by rw [q]; rfl)
    ·
     exact .inr ⟨bne_iff_ne.2 q, decide_eq_false (by omega)⟩
   clear hq
   rcases hd.out with b1 | ⟨b1, b2⟩
   all_goals
    go_wp2_with (go_at_call 91; refine (elm _).mono ?_; rintro e w' ⟨rfl, hw⟩; have hw := hw.symm; subst hw)
    go_end0
    exact ⟨rfl, _, _, by rw [HX.out]; exact HA2.out, HK2.out⟩
end Go.Proofs.YtblpkjlodncpeaaGreatDoor

/-
  THE WALK of tok.Tokens.
-/
import Derived.Test.YtblpkjlodncpeaaGreatDoorATRead
import Derived.Test.YtblpkjlodncpeaaGreatDoorATPretoRDig
import Derived.Test.YtblpkjlodncpeaaGreatDoorAKPlaintoNorm
import Derived.Test.YtblpkjlodncpeaaGreatDoorATRowA
import Derived.OwnWalk
import Derived.CellFam
import Derived.Test.YtblpkjlodncpeaaGreatDoorALowertoTLow
import Derived.Test.YtblpkjlodncpeaaGreatDoorATMemtoUNd
import Derived.Test.YtblpkjlodncpeaaGreatDoorAUMay
import Derived.Test.YtblpkjlodncpeaaGreatDoorANReftoTTag
import Derived.Deep.RegionLaw
import Derived.Test.YtblpkjlodncpeaaGreatDoorAKShifttoTAny
import Derived.Test.YtblpkjlodncpeaaGreatDoorATSimtoShelf8
import Derived.Test.YtblpkjlodncpeaaGreatDoorATDectoPSee
import Derived.Deep.QuietTactic
import Derived.BigQuiet
import Derived.Deep.RegionHeld
import Derived.Test.YtblpkjlodncpeaaGreatDoorATFittoTSc2
namespace Go.Proofs.YtblpkjlodncpeaaGreatDoor
open Go.RowKit
/-- the reader's cells at the start -/
def Rm.cells (P : ByteArray) (B C : Nat) : Array Value := #[.string P, Tp.fn 52, Tp.fn 53, Tp.fn 54, Tp.fn 55, Tp.fn 56, Tp.fn 57, Tp.fn 58, Tp.fn 59, Tp.quote B, Tp.quote C, Tp.fn 61, Tp.fn 62, Tp.fn 63, Tp.fn 64, Tp.fn 65, Tp.fn 66, Tp.fn 67, Tp.fn 68, Tp.fn 69, Tp.fn 70, Tp.fn 71, Tp.fn 72, Tp.fn 73, .int .i64 0, .string ⟨#[]⟩, .bool false, .string ⟨#[]⟩, .string ⟨#[]⟩, .int .i64 0, .slice none 0 0, .int .i64 0, .int .i64 0, .int .i64 0, .slice none 0 0, .bool false]
def Rm.zeros : Array Value := #[.string ⟨#[]⟩, .nilFunc, .nilFunc, .nilFunc, .nilFunc, .nilFunc, .nilFunc, .nilFunc, .nilFunc, .nilFunc, .nilFunc, .nilFunc, .nilFunc, .nilFunc, .nilFunc, .nilFunc, .nilFunc, .nilFunc, .nilFunc, .nilFunc, .nilFunc, .nilFunc, .nilFunc, .nilFunc, .int .i64 0, .string ⟨#[]⟩, .bool false, .string ⟨#[]⟩, .string ⟨#[]⟩, .int .i64 0, .slice none 0 0, .int .i64 0, .int .i64 0, .int .i64 0, .slice none 0 0, .bool false]
theorem Rm.infoR : (Tryz.prog.info? 79).map (·.size) = some 36 := by kernel_rfl
theorem Rm.cells_one (P : ByteArray) (B C : Nat) : (Rm.cells P B C).all (·.oneCell') = true := by simp [Rm.cells, Tp.fn, Tp.quote, Value.oneCell']
theorem Rm.cells_len (P : ByteArray) (B C : Nat) : (Rm.cells P B C).toList.length = 36 := rfl
theorem Rm.cells_get (P : ByteArray) (B C : Nat) (k : Nat) (v : Value) (h : (Tp.table B C)[k]? = some v) : (Rm.cells P B C).toList[1 + k]? = some v := by
  have hlt : k < 23 := by
    have := (Array.getElem?_eq_some_iff.1 h).1
    simpa [Tp.table] using this
  have : ∀ k, k < 23 → (Rm.cells P B C).toList[1 + k]? = (Tp.table B C).toList[k]? := by
    intro k hk
    have e : (Rm.cells P B C).toList = [.string P] ++ ((Tp.table B C).toList ++ [.int .i64 0, .string ⟨#[]⟩, .bool false, .string ⟨#[]⟩, .string ⟨#[]⟩, .int .i64 0, .slice none 0 0, .int .i64 0, .int .i64 0, .int .i64 0, .slice none 0 0, .bool false]) := rfl
    rw [e, List.getElem?_append_right (by simp), List.getElem?_append_left (by show _ < 23; simp; omega)]
    simp
  rw [this k hlt, Array.getElem?_toList]
  exact h
/-- the reader laid into a new variable -/
theorem Rm.At.laid {W : World} {g B C : Nat} {P : ByteArray} (hg : g < W.heap.size) (ht : W.there g 0 36) (hz : ∀ i, W.frozen? ⟨g, i, none⟩ = false) (hB : B < g) (hC : C < g) (h1 : W.cell? ⟨B, 0, none⟩ = some (.int .u8 34)) (h2 : W.cell? ⟨C, 0, none⟩ = some (.int .u8 39)) :
    Rm.At (W.setCells g 0 (Rm.cells P B C).toList) g P Rd.start (.slice none 0 0) (.slice none 0 0) := by
  have hr := World.rangeAt_setCells_same W g 0 (Rm.cells P B C).toList (by rw [Rm.cells_len]; exact ht)
  have hs := Tp.setCells_size g (Rm.cells P B C).toList 0 W
  have hf : ∀ i, (W.setCells g 0 (Rm.cells P B C).toList).frozen? ⟨g, i, none⟩ = W.frozen? ⟨g, i, none⟩ := fun i => World.frozen?_setCells _ _ _ _ _
  have h34 := (World.cell?_setCells_out g (Rm.cells P B C).toList 0 W ⟨B, 0, none⟩ (fun e => by have e' : B = g := e; omega)).trans h1
  have h39 := (World.cell?_setCells_out g (Rm.cells P B C).toList 0 W ⟨C, 0, none⟩ (fun e => by have e' : C = g := e; omega)).trans h2
  have hq : ∀ o v, (Rm.cells P B C).toList[o]? = some v → (W.setCells g 0 (Rm.cells P B C).toList).cell? ⟨g, o, none⟩ = some v := fun o v hv => by have := hr o v hv; rwa [Nat.zero_add] at this
  refine ⟨⟨hq 0 _ rfl, ⟨by omega, B, C, by omega, by omega, h34, h39, fun k v hv => hq _ _ (Rm.cells_get P B C k v hv)⟩, hq 24 _ rfl, hq 25 _ rfl, hq 26 _ rfl, hq 27 _ rfl, hq 28 _ rfl, hq 29 _ rfl, hq 30 _ rfl, hq 31 _ rfl, hq 32 _ rfl, hq 33 _ rfl, hq 34 _ rfl, hq 35 _ rfl, ?_, ?_⟩, ?_, World.ownsRow_nil _ _ _ _, fun k _ e => by cases e⟩
  · intro i
    rw [hf]
    exact hz i
  · intro B' C' e1 e2
    rw [hq 9 _ rfl] at e1
    rw [hq 10 _ rfl] at e2
    have b1 : Tp.quote B = Tp.quote B' := Option.some.inj e1
    have b2 : Tp.quote C = Tp.quote C' := Option.some.inj e2
    unfold Tp.quote at b1 b2
    simp at b1 b2
    omega
  · exact ⟨[], World.ownsRow_nil _ _ _ _, fun i t h => by simp [Rd.start] at h⟩
end Go.Proofs.YtblpkjlodncpeaaGreatDoor
/-
  THE WALK of tok.Tokens, whole.
-/
namespace Go.Proofs.YtblpkjlodncpeaaGreatDoor
open Go.RowKit
theorem Rm.Kept.below {w wr w' : World} {g : Nat} {P : ByteArray} {r : Rd} {tv av tv' av' : Value} (hK : Rm.Kept wr w' g tv av tv' av') (hA : Rm.At wr g P r tv av) (hb : Below w.heap.size w wr) (hg : w.heap.size ≤ g) : Below w.heap.size w w' :=
  ⟨hK.os.trans hb.os, hK.tape.trans hb.tape, hK.output.trans hb.output, Nat.le_trans hb.size hK.size, fun k hk => (hK.block k (Nat.lt_of_lt_of_le hk hb.size) ⟨by omega, fun e => by have := (hA.tvLt e).1; omega, fun e => by have := (hA.avLt e).1; omega⟩).1.trans (hb.block k hk)⟩
theorem Tk.long (page : ByteArray) (w : World) (h : 65536 < page.size) (hs : page.size ≤ maxLen) : Calls Tryz.prog 19 #[.string page] w fun e w' => e = .returned (.tuple #[.slice none 0 0, .int .i64 500]) ∧ w' = w := by
  unfold maxLen at hs
  have t : decide ((65536 : Int) < (page.size : Int)) = true := decide_eq_true (by omega)
  go_enter Tryz.func19, Tryz.ntmps19
  go_wp2
  go_ret2
  exact ⟨rfl, rfl⟩
set_option maxHeartbeats 4000000 in
theorem Tk.shortU (page : ByteArray) (m : Int) (w : World) (h : page.size ≤ 65536) (hm : w.cell? ⟨1, 0, none⟩ = some (.int .i64 m)) :
    Calls Tryz.prog 19 #[.string page] w fun e w' => ∃ v, e = .returned (.tuple #[v, .int .i64 0]) ∧ Tk.Lies w' (fun k => w.heap.size ≤ k ∧ k < w'.heap.size ∧ Rm.Ub w' k) (Rd.tokens page) v ∧ Below w.heap.size w w' := by
  have t : decide ((65536 : Int) < (page.size : Int)) = false := decide_eq_false (by omega)
  have hone := Tp.oneLineEnd page m w h hm
  have HTok : Hid (Rd.tokens page = Rd.done (Rd.page page) (Rd.run (Rd.page page) Rd.start 0 (Rd.page page).data.toList)) := by
    unfold Hid Rd.tokens
    rw [show (Rd.page page).data.toList = Rd.lines page.data.toList by unfold Rd.page; exact List.toList_toArray]
  have hPs : (Rd.page page).size ≤ 65536 := by
    have := Li.lines_len page.data.toList
    rw [Wk.len_data] at this
    rw [← Wk.len_data, show (Rd.page page).data.toList = Rd.lines page.data.toList by unfold Rd.page; exact List.toList_toArray]
    omega
  generalize Rd.page page = P at *
  generalize Rd.tokens page = TS at *
  clear hm h
  go_enter Tryz.func19, Tryz.ntmps19
  go_wp2_with (first | (go_at_call 31; refine hone.mono ?_; rintro e w1 ⟨rfl, hb1⟩; clear hone) | (go_at_call 32; refine (Tp.steppers _).mono ?_; rintro e w2 ⟨B, C, rfl, hB, hC, hB0, hC0, h34, h39, hb2⟩) | (go_at_call 33; refine (Tp.Start _).mono ?_; rintro e w3 ⟨rfl, hb3⟩) | refine Vm.stop 13 ?_)
  have b2 : Below w.heap.size w w2 := hb1.trans (hb2.mono hb1.size)
  have b3 : Below w.heap.size w w3 := b2.trans (hb3.mono b2.size)
  have k34 := Tp.keep hb3 h34
  have k39 := Tp.keep hb3 h39
  have hs3 := hb3.size
  clear h34 h39 hb1 hb2 hb3 b2
  refine ⟨?_⟩
  refine wpList_buildTo rfl 79 _ rfl (some 13) rfl (Rm.cells P B C) (by kernel_rfl) ?_
  go_wp2_with (refine Vm.stopS 79 ?_)
  refine ⟨?_⟩
  obtain ⟨W, hW⟩ : ∃ W, w3.alloc (.cells Rm.zeros 79) = W := ⟨_, rfl⟩
  have hsz : W.heap.size = w3.heap.size + 1 := by rw [← hW]; simp
  have hbW : Below w3.heap.size w3 W := by rw [← hW]; exact (Below.refl _ _).alloc (Nat.le_refl _) _
  have hnew : W.heap[w3.heap.size]? = some (.cells Rm.zeros 79) := by rw [← hW]; exact heap_alloc_new w3 _
  have hth : W.there w3.heap.size 0 36 := Tp.there W w3.heap.size Rm.zeros 79 hnew 0 36 (by decide)
  have hz : ∀ i, W.frozen? ⟨w3.heap.size, i, none⟩ = false := fun i => by unfold World.frozen?; rw [hnew]; simp
  have hA0 := Rm.At.laid (W := W) (g := w3.heap.size) (B := B) (C := C) (P := P) (by omega) hth hz (by omega) (by omega) (Tp.keep hbW k34) (Tp.keep hbW k39)
  have hb4 := Tp.setCells (B := w.heap.size) (a := w) w3.heap.size b3.size (Rm.cells P B C).toList 0 W (b3.trans (hbW.mono b3.size))
  unfold Rm.zeros at hW
  rw [hW]
  refine wpList_store_mid rfl 79 _ _ rfl w3.heap.size 0 (Rm.cells P B C) rfl rfl hth Rm.infoR (Rm.cells_one _ _ _) ?_
  generalize W.setCells w3.heap.size 0 (Rm.cells P B C).toList = V at *
  have hgw : w.heap.size ≤ w3.heap.size := b3.size
  generalize w3.heap.size = g at *
  clear hW hth hz hnew hbW k34 k39 hB hC hB0 hC0 b3 hs3 hsz
  have z0 := hA0.box.page
  have HA0 := Lib.hid hA0
  have HB4 := Lib.hid hb4
  clear hA0 hb4
  go_wp2
  go_loopw [17] (fun i wr => ∃ (k : Nat) (tv av : Value), k ≤ P.size ∧ i = .int .i64 (k : Int) ∧ Hid (Rm.At wr g P (Rd.run P Rd.start 0 (P.data.toList.take k)) tv av) ∧ Hid (Below w.heap.size w wr)) (fun i _ => P.size - (intOf i).toNat)
  case atStart => exact ⟨0, _, _, Nat.zero_le _, rfl, HA0.out, HB4.out⟩
  case round =>
    clear HA0 HB4 z0
    obtain ⟨k, tv, av, hk, rfl, HA, HB⟩ := hrel
    have hlen : (P.data.toList.take k).length = k := by rw [List.length_take, Wk.len_data]; omega
    have hOk := Rd.Ok.run (P := P) (P.data.toList.take k) Rd.Ok.start
    rw [hlen, Nat.zero_add] at hOk
    by_cases hlt : k < P.size
    · have HR : Hid (Rd.run P Rd.start 0 (P.data.toList.take (k + 1)) = Rd.read P (Rd.run P Rd.start 0 (P.data.toList.take k)) k P[k]) := by
        unfold Hid
        have e : P.data.toList.take (k + 1) = P.data.toList.take k ++ [P[k]] := by
          rw [List.take_succ_eq_append_getElem (by rw [Wk.len_data]; exact hlt)]; rfl
        rw [e, Rd.run_snoc, hlen, Nat.zero_add]
      obtain ⟨RR, hRR⟩ : ∃ RR, Rd.run P Rd.start 0 (P.data.toList.take (k + 1)) = RR := ⟨_, rfl⟩
      have HRR := Lib.hid hRR
      rw [hRR] at HR
      clear hRR
      generalize Rd.run P Rd.start 0 (P.data.toList.take k) = r at *
      obtain ⟨q, hq⟩ : ∃ q : Nat, r.st.pl = (q : Int) := ⟨r.st.pl.toNat, by have := hOk.lo; omega⟩
      have hnx := Ts.step_next r.st P[k] q hq (by have := hOk.hi; omega)
      have hrd := Rm.read r k P[k] (r.st.step P[k]) _ wr g P tv av HA.out hPs hlt rfl ⟨by have := hOk.small.1; unfold maxLen; omega, by have := hOk.small.2.1; unfold maxLen; omega, by have := hOk.small.2.2; unfold maxLen; omega⟩ rfl rfl (fun hc => by have := hOk.tx q hq hnx rfl hc; omega) (fun h1 h2 h3 => hOk.cm q hq hnx rfl h1 h2 h3) hOk.value (fun h1 h2 => hOk.taken (by omega) (by omega) h2) hOk.attrs (by have := hOk.toks; omega)
      rw [← HR.out] at hrd
      clear hnx hq hOk HR
      go_wp2_with (go_at_call 34; refine hrd.mono ?_; rintro e w4 ⟨rfl, tv4, av4, hA4, hK4⟩; clear hrd)
      go_roundw
      case rel => exact ⟨k + 1, tv4, av4, by omega, by go_num, by unfold Hid; rw [HRR.out]; exact hA4, hK4.below HA.out HB.out hgw⟩
      case measure => simp [intOf]; omega
    · have hke : k = P.size := by omega
      subst hke
      rw [show P.data.toList.take P.size = P.data.toList by rw [← Wk.len_data]; exact List.take_length] at HA hOk
      generalize Rd.run P Rd.start 0 P.data.toList = r at *
      have x0 := HA.out.box.page
      have x24 := HA.out.box.s0
      have x28 := HA.out.box.s4
      have x30 := HA.out.box.toks
      have htx := hOk.text
      have htk := hOk.toks
      cases lw : Rd.loose r.st.pl with
      | true =>
        have HT : Hid (TS = (Rd.tellText P r P.size r.st.held).toks) := by unfold Hid; rw [HTok.out]; unfold Rd.done; rw [if_pos lw]
        have htt := Rm.tellText r P.size r.st.held wr g P tv av HA.out hPs htx (Nat.le_refl _) (by omega)
        clear hOk HTok
        go_wp2_with (first | (go_at_call 35; refine (Tp.isLoose _ _).mono ?_; rintro e w' ⟨rfl, rfl⟩) | (go_at_call 36; refine htt.mono ?_; rintro e w5 ⟨rfl, tv5, av5, hA5, hK5⟩; have y30 := hA5.box.toks; have HA5 := Lib.hid hA5; have HK5 := Lib.hid hK5; clear hA5 hK5 htt))
        go_ret2
        refine ⟨tv5, rfl, ?_, HK5.out.below HA.out HB.out hgw⟩
        rw [HT.out]
        exact HA5.out.toks.liesU.on fun k hk => ⟨⟨by omega, hk.2⟩, rfl⟩
      | false =>
        have HT : Hid (TS = r.toks) := by unfold Hid; rw [HTok.out]; unfold Rd.done; rw [if_neg (by rw [lw]; decide)]
        clear hOk HTok
        go_wp2_with (first | (go_at_call 35; refine (Tp.isLoose _ _).mono ?_; rintro e w' ⟨rfl, rfl⟩))
        go_ret2
        refine ⟨tv, rfl, ?_, HB.out⟩
        rw [HT.out]
        exact HA.out.toks.liesU.on fun k hk => ⟨⟨by omega, hk.2⟩, rfl⟩
theorem Tk.short (page : ByteArray) (m : Int) (w : World) (h : page.size ≤ 65536) (hm : w.cell? ⟨1, 0, none⟩ = some (.int .i64 m)) :
    Calls Tryz.prog 19 #[.string page] w fun e w' => ∃ v, e = .returned (.tuple #[v, .int .i64 0]) ∧ Tk.Lies w' (fun k => w.heap.size ≤ k ∧ k < w'.heap.size) (Rd.tokens page) v ∧ Below w.heap.size w w' := by
  refine (Tk.shortU page m w h hm).mono ?_
  rintro e w' ⟨v, rfl, hl, hb⟩
  exact ⟨v, rfl, hl.on fun _ hk => ⟨⟨hk.1, hk.2.1⟩, rfl⟩, hb⟩
end Go.Proofs.YtblpkjlodncpeaaGreatDoor
/-
  THE WALKS of stoleref1.Elem, known.Kind, elem.Kind.
-/
namespace Go.Proofs.YtblpkjlodncpeaaGreatDoor
open Go.RowKit
theorem Tp.elemKind (n : ByteArray) (w : World) : Calls Tryz.prog 118 #[.string n] w fun e w' => e = .returned (.int .i64 (Ts.kind n)) ∧ w' = w := by
  go_enter Tryz.func118, Tryz.ntmps118
  go_wp2_with (go_at_call 80; refine (Tp.kind n _).mono ?_; rintro e w' ⟨rfl, rfl⟩)
  go_ret
  exact ⟨rfl, rfl⟩
end Go.Proofs.YtblpkjlodncpeaaGreatDoor
/-
  THE WALK of stoleref5.Build.
-/
namespace Go.Proofs.YtblpkjlodncpeaaGreatDoor
open Go.RowKit
theorem Um.bulk_take (ts : List Tk) (i : Nat) (hi : i < ts.length) : Bt.bulk (ts.take (i + 1)) = Bt.bulk (ts.take i) + ts[i].text.size := by
  unfold Bt.bulk
  rw [List.take_succ_eq_append_getElem hi, List.map_append, List.sum_append]
  simp
theorem Um.bulk_le (ts : List Tk) (i : Nat) : Bt.bulk (ts.take i) ≤ Bt.bulk ts := by
  have h : Bt.bulk ts = Bt.bulk (ts.take i) + Bt.bulk (ts.drop i) := by
    unfold Bt.bulk
    rw [← List.sum_append, ← List.map_append, List.take_append_drop]
  omega
/-- a token of the row, by its cells -/
theorem Um.tokAt {w : World} {R : Nat → Prop} {ts : List Tk} {a : Option Addr} {d : Nat} (h : Tk.Lies w R ts (.slice a ts.length d)) {i : Nat} (hi : i < ts.length) : ∃ b o aa ad, a = some ⟨b, o, none⟩ ∧ w.cell? ⟨b, o + i * 5, none⟩ = some (.int .i64 ts[i].kind) ∧ w.cell? ⟨b, o + i * 5 + 1, none⟩ = some (.string ts[i].name) ∧ w.cell? ⟨b, o + i * 5 + 2, none⟩ = some (.string ts[i].text) ∧ w.cell? ⟨b, o + i * 5 + 3, none⟩ = some (.slice aa ts[i].attrs.length ad) ∧ w.cell? ⟨b, o + i * 5 + 4, none⟩ = some (.bool ts[i].self) ∧ Ak.Lies w R ts[i].attrs (.slice aa ts[i].attrs.length ad) := by
  obtain ⟨a', d', e, h1, h2, hx⟩ := h
  injection e with e1 e2 e3
  subst e1
  obtain ⟨b, o, av, ea, hb, c0, c1, c2, c3, c4, hl⟩ := hx i ts[i] (List.getElem?_eq_getElem hi)
  obtain ⟨aa, ad, rfl, g1, g2, gx⟩ := id hl
  exact ⟨b, o, aa, ad, ea, c0, c1, c2, c3, c4, hl⟩
end Go.Proofs.YtblpkjlodncpeaaGreatDoor
/-
  THE WALKS of stoleref5.Parse and of stolelaw0.SameTexts.
-/
namespace Go.Proofs.YtblpkjlodncpeaaGreatDoor
open Go.RowKit
theorem Nm.nilNodes (w : World) (R : Nat → Prop) : Nd.Lies w R [] (.slice none 0 0) := ⟨none, 0, rfl, Nat.le_refl _, Nat.zero_le _, fun j x h => by simp at h⟩
theorem Nm.toksForm {w : World} {R : Nat → Prop} {ts : List Tk} {v : Value} (h : Tk.Lies w R ts v) : ∃ a d, v = .slice a ts.length d := by
  obtain ⟨a, d, e, _⟩ := h
  exact ⟨a, d, e⟩
set_option maxRecDepth 100000 in
set_option maxHeartbeats 4000000 in
theorem St.same (ss ts : List ByteArray) (a1 a2 : Option Addr) (d1 d2 : Nat) (R1 R2 : Nat → Prop) (w : World) (h1 : St.Lies w R1 ss (.slice a1 ss.length d1)) (h2 : St.Lies w R2 ts (.slice a2 ts.length d2)) (he : ss = ts) :
    Calls Tryz.prog 15 #[.slice a1 ss.length d1, .slice a2 ts.length d2] w fun e w' => e = .returned (.bool true) ∧ ∃ n, w' = w.drewN n := by
  subst he
  obtain ⟨x1, y1, e1, l1, m1, X1⟩ := h1
  injection e1 with e11 _ e13
  subst e11
  subst e13
  obtain ⟨x2, y2, e2, l2, m2, X2⟩ := h2
  injection e2 with e21 _ e23
  subst e21
  subst e23
  have hm63 : ss.length ≤ 9223372036854775807 := by unfold maxLen at m1; omega
  have H1 := Lib.hid X1
  have H2 := Lib.hid X2
  have t0 : ((ss.length : Int) != (ss.length : Int)) = false := by simp
  clear X1 X2 m1 m2
  go_enter Tryz.func15, Tryz.ntmps15
  go_wp2_with fail
  go_loopw [5] (fun ix wr => ∃ i n : Nat, i ≤ ss.length ∧ ix = .int .i64 (i : Int) ∧ wr = w.drewN n) (fun ix _ => ss.length - (intOf ix).toNat)
  case atStart => exact ⟨0, 0, Nat.zero_le _, rfl, rfl⟩
  case round =>
    obtain ⟨i, n, hi, rfl, rfl⟩ := hrel
    by_cases hlt : i < ss.length
    · have d0 : decide ((i : Int) < (ss.length : Int)) = true := decide_eq_true (by omega)
      obtain ⟨s, hs⟩ : ∃ s, ss[i]? = some s := ⟨_, List.getElem?_eq_getElem hlt⟩
      obtain ⟨b1, o1, rfl, _, c1⟩ := H1.out i s hs
      obtain ⟨b2, o2, rfl, _, c2⟩ := H2.out i s hs
      have t1 : (s.toList != s.toList) = false := by simp
      have i1 : i < d1 := by omega
      have i2 : i < d2 := by omega
      clear hs
      go_upto_region 6 with fail
      go_quiet (fail)
      go_wp2
      go_roundw
      case rel => exact ⟨i + 1, _, by omega, by go_num, rfl⟩
      case measure => simp [intOf]; omega
    · have e : i = ss.length := by omega
      subst e
      have d0 : decide ((ss.length : Int) < (ss.length : Int)) = false := decide_eq_false (by omega)
      go_wp2
      go_ret
      exact ⟨rfl, _, rfl⟩
end Go.Proofs.YtblpkjlodncpeaaGreatDoor
/-
  THE WALKS of the builder's innermost and endText.
-/
namespace Go.Proofs.YtblpkjlodncpeaaGreatDoor
open Go.RowKit
theorem Pm.topCell {base : Nat} {w : World} {g : Nat} {m : Bt} {bs : ByteArray} {ov pv tv : Value} (h : Pm.At base w g m bs ov pv tv) (hn : 0 < m.opn.length) : ∃ p d, pv = .slice (some ⟨p, 0, none⟩) m.opn.length d ∧ m.opn.length ≤ d ∧ w.cell? ⟨p, m.opn.length - 1, none⟩ = some (.int .i64 (m.top : Int)) := by
  obtain ⟨p, d, e, h1, h2⟩ := Um.form1 h.opn hn
  refine ⟨p, d, e, h1, ?_⟩
  have ho := h.opn
  rw [e] at ho
  rw [ho.cellAt (m.opn.length - 1) (by omega)]
  refine Um.ints_get ?_
  unfold Bt.top
  rw [List.getLastD_eq_getLast?, List.getLast?_eq_getElem?]
  rw [List.getElem?_eq_getElem (by omega)]
  rfl
set_option maxRecDepth 100000 in
set_option maxHeartbeats 4000000 in
theorem Pg.innermost (base : Nat) (m : Bt) (bs : ByteArray) (w : World) (g : Nat) (ov pv tv : Value) (h : Pm.At base w g m bs ov pv tv) (hok : Bt.Ok m) :
    Calls Tryz.prog 117 #[.pointer (some ⟨g, 0, none⟩)] w fun e w' => e = .returned (.int .i64 (m.top : Int)) ∧ ∃ n, w' = w.drewN n := by
  have hl0 := hok.opn
  have hfew := hok.few
  obtain ⟨p, pd, rfl, hpd, ctop⟩ := Pm.topCell h hl0
  have c1 := h.c1
  have hw1 : IntKind.i64.wrap ((m.opn.length : Int) - 1) = ((m.opn.length - 1 : Nat) : Int) := by rw [IntKind.wrap_i64]; omega
  have hidx : m.opn.length - 1 < pd := by omega
  have hi63 : m.opn.length - 1 < m.opn.length := by omega
  clear h hok
  go_enter Tryz.func117, Tryz.ntmps117
  go_wp2_with fail
  go_quiet (fail)
  go_wp2
  go_ret
  exact ⟨rfl, _, rfl⟩
theorem Pm.bytesNil {s : ByteArray} (h : s.size = 0) : s = Ts.e := by
  apply ByteArray.ext
  exact Array.eq_empty_of_size_eq_zero h
/-- the same cell turned in two worlds, the one an earlier one of the other -/
theorem Pm.setBoth {w0 w : World} {n : Nat} (h : Below n w0 w) (a : Addr) (v : Value) : Below n (w0.setCell a v) (w.setCell a v) := by
  refine ⟨h.os, h.tape, h.output, by simpa using h.size, fun k hk => ?_⟩
  simp only [World.setCell, Array.getElem?_modify]
  rw [h.block k hk]
theorem Pm.At.flush {base : Nat} {w : World} {g : Nat} {m : Bt} {bs : ByteArray} {og od tg td : Nat} {pv : Value} (h : Pm.At base w g m bs (.slice (some ⟨og, 0, none⟩) m.out.length od) pv (.slice (some ⟨tg, 0, none⟩) bs.size td)) (h0 : ¬ bs.size = 0) (hok : Bt.Ok m) :
    Pm.At base ((w.setCell ⟨og, (m.out.length - 1) * 5 + 2, none⟩ (.string bs)).drew.setCell ⟨g, 2, none⟩ (.slice (some ⟨tg, 0, none⟩) 0 td)) g (Pb.flush m bs) Ts.e (.slice (some ⟨og, 0, none⟩) m.out.length od) pv (.slice (some ⟨tg, 0, none⟩) 0 td) ∧
    Pm.Kept w ((w.setCell ⟨og, (m.out.length - 1) * 5 + 2, none⟩ (.string bs)).drew.setCell ⟨g, 2, none⟩ (.slice (some ⟨tg, 0, none⟩) 0 td)) (Pm.Mine g (.slice (some ⟨og, 0, none⟩) m.out.length od) pv (.slice (some ⟨tg, 0, none⟩) bs.size td)) (Pm.Mine g (.slice (some ⟨og, 0, none⟩) m.out.length od) pv (.slice (some ⟨tg, 0, none⟩) 0 td)) := by
  have hsome := hok.some
  obtain ⟨y, hy⟩ : ∃ y, m.out[m.out.length - 1]? = some y := ⟨_, List.getElem?_eq_getElem (by omega)⟩
  have HF : Pb.flush m bs = { m with out := m.out.set (m.out.length - 1) { y with text := bs } } := by
    unfold Pb.flush
    rw [if_neg h0]
    unfold Bt.nth Bt.last
    rw [hy]
    rfl
  obtain ⟨p1, p2⟩ := h.put hy bs
  have hA2 := p1.on (Below.refl _ _).drew
  have hK2 := p2.trans (Pm.Kept.of _ (Below.refl _ _).drew)
  obtain ⟨z1, z2⟩ := hA2.text (bs' := Ts.e) (Below.refl _ _) (.inl rfl) (Pm.short hA2.txt 0 (Nat.zero_le _)) (World.grownBy.refl _ _) (.inl rfl)
  exact ⟨by rw [HF]; exact z1, hK2.trans z2⟩
set_option maxRecDepth 100000 in
set_option maxHeartbeats 4000000 in
theorem Pg.endText (base : Nat) (m : Bt) (bs : ByteArray) (w0 w : World) (g : Nat) (ov pv tv : Value) (hW : Below w0.heap.size w0 w) (h : Pm.At base w0 g m bs ov pv tv) (hok : Bt.Ok m) (hs : m.out.length ≤ 1000000) (hz : bs.size ≤ 140737488355328) :
    Calls Tryz.prog 39 #[.pointer (some ⟨g, 0, none⟩)] w fun e w' => e = .returned (.tuple #[]) ∧ ∃ w1 tv', Pm.At base w1 g (Pb.flush m bs) Ts.e ov pv tv' ∧ Pm.Kept w0 w1 (Pm.Mine g ov pv tv) (Pm.Mine g ov pv tv') ∧ w1.heap.size = w0.heap.size ∧ Below w0.heap.size w1 w' ∧ Pm.Kept w w' (Pm.Mine g ov pv tv) (Pm.Mine g ov pv tv') := by
  by_cases h0 : bs.size = 0
  · have hb := Pm.bytesNil h0
    subst hb
    obtain ⟨ta, td, rfl⟩ := Um.form h.txt
    have c2 := (h.on hW).c2
    rw [h0] at c2
    have H := Lib.hid h
    have HW := Lib.hid hW
    clear h hW
    go_enter Tryz.func39, Tryz.ntmps39
    go_wp2
    go_end0
    exact ⟨rfl, _, _, by rw [Pb.flush_none]; exact H.out, Pm.Kept.refl _ _, rfl, HW.out, Pm.Kept.refl _ _⟩
  · obtain ⟨tg, td, rfl, htd, htm⟩ := Um.form1 h.txt (by omega)
    obtain ⟨xs, hx⟩ := id (h.on hW).out
    have hsome := hok.some
    obtain ⟨og, od, rfl, hod, hod2⟩ := Um.form1 hx.1 hok.some
    obtain ⟨y, hy⟩ : ∃ y, m.out[m.out.length - 1]? = some y := ⟨_, List.getElem?_eq_getElem (by omega)⟩
    obtain ⟨avy, hcy⟩ := (h.on hW).out.cell hy
    have y2 : w.cell? ⟨og, (m.out.length - 1) * 5 + 2, none⟩ = some (.string y.text) := hcy 2 _ rfl
    have yf : ∀ j, w.frozen? ⟨og, j, none⟩ = false := fun j => hx.1.frozenAt j
    have c0 := (h.on hW).c0
    have c2 := (h.on hW).c2
    have cf := (h.on hW).fz
    have d0 : decide ((0 : Int) < (bs.size : Int)) = true := decide_eq_true (by omega)
    have d1 : 0 < bs.size := by omega
    have conv0 := Pm.conv (h.on hW).txt
    have conv1 : (convert 43 9 (.slice (some ⟨tg, 0, none⟩) bs.size td)).run Tryz.prog w.drew = .ok (.string bs) w.drew := Pm.conv (wr := w.drew) (h.on hW).txt
    have hw2 : IntKind.i64.wrap ((m.out.length : Int) - 1) = ((m.out.length - 1 : Nat) : Int) := by rw [IntKind.wrap_i64]; omega
    have hod3 : m.out.length - 1 < od := by omega
    have ho63 : m.out.length - 1 < m.out.length := by omega
    have hne : og ≠ g := fun e => h.og (by rw [← e]; rfl)
    have hne2 : g ≠ og := fun e => hne e.symm
    have HP := Lib.hid (Pm.At.flush h h0 hok)
    have HP2 := Lib.hid (Pm.At.flush (h.on hW) h0 hok).2
    have HBB : Hid (Below w0.heap.size ((w0.setCell ⟨og, (m.out.length - 1) * 5 + 2, none⟩ (.string bs)).drew.setCell ⟨g, 2, none⟩ (.slice (some ⟨tg, 0, none⟩) 0 td)) ((w.setCell ⟨og, (m.out.length - 1) * 5 + 2, none⟩ (.string bs)).drew.setCell ⟨g, 2, none⟩ (.slice (some ⟨tg, 0, none⟩) 0 td))) := by
      have q := Pm.setBoth hW ⟨og, (m.out.length - 1) * 5 + 2, none⟩ (.string bs)
      exact Pm.setBoth (w0 := (w0.setCell ⟨og, (m.out.length - 1) * 5 + 2, none⟩ (.string bs)).drew) (w := (w.setCell ⟨og, (m.out.length - 1) * 5 + 2, none⟩ (.string bs)).drew) ⟨q.os, q.tape, q.output, q.size, q.block⟩ _ _
    clear hcy hx hy h0 h hW
    go_enter Tryz.func39, Tryz.ntmps39
    go_upto_region 1 with fail
    go_cut [] from 8 to 24 (fun wx => Hid (wx = (w.setCell ⟨og, (m.out.length - 1) * 5 + 2, none⟩ (.string bs)).drew))
    case first =>
      go_region_with (fail)
      all_goals (try go_wp2_with fail)
      all_goals go_meet
      all_goals exact Lib.hid rfl
    case rest =>
      have hwc := hcut.out
      have e2 : wc.cell? ⟨g, 2, none⟩ = some (.slice (some ⟨tg, 0, none⟩) bs.size td) := by
        rw [hwc]
        show (w.setCell ⟨og, (m.out.length - 1) * 5 + 2, none⟩ (.string bs)).cell? ⟨g, 2, none⟩ = _
        rw [World.cell?_setCell_other _ _ _ _ (fun e => by injection e with e1; exact hne e1)]
        exact c2
      have ef : ∀ i, wc.frozen? ⟨g, i, none⟩ = false := fun i => by
        rw [hwc]
        show (w.setCell ⟨og, (m.out.length - 1) * 5 + 2, none⟩ (.string bs)).frozen? ⟨g, i, none⟩ = _
        rw [World.frozen?_setCell]
        exact cf i
      have HWC := Lib.hid hwc
      clear hcut hwc c2 cf c0
      go_wp2
      go_end0
      refine ⟨rfl, _, _, HP.out.1, HP.out.2, by simp, ?_, ?_⟩
      · rw [HWC.out]; exact HBB.out
      · rw [HWC.out]; exact HP2.out
end Go.Proofs.YtblpkjlodncpeaaGreatDoor
/-
  THE WALK of the builder's addNode.
-/
namespace Go.Proofs.YtblpkjlodncpeaaGreatDoor
open Go.RowKit
set_option maxRecDepth 100000 in
set_option maxHeartbeats 4000000 in
theorem Pg.addNode (base : Nat) (m : Bt) (bs : ByteArray) (x : Nd) (aa : Option Addr) (an ad : Nat) (w : World) (g : Nat) (ov pv tv : Value) (h : Pm.At base w g m bs ov pv tv) (hok : Bt.Ok m) (hs : m.out.length ≤ 1000000) (hz : bs.size ≤ 140737488355328)
    (hat : Ak.Lies w (Pm.Off base w (Pm.Mine g ov pv tv)) x.attrs (.slice aa an ad)) :
    Calls Tryz.prog 84 #[.pointer (some ⟨g, 0, none⟩), .agg #[.int .i64 x.kind, .string x.name, .string x.text, .slice aa an ad, .int .i64 x.parent]] w fun e w' => e = .returned (.tuple #[]) ∧ ∃ ov' tv', Pm.At base w' g ((Pb.flush m bs).node x) Ts.e ov' pv tv' ∧ Pm.Kept w w' (Pm.Mine g ov pv tv) (Pm.Mine g ov' pv tv') := by
  have hlt := h.lt
  have HN0 : Hid (¬ Pm.Mine g ov pv tv w.heap.size) := fun q => Nat.lt_irrefl _ (h.mine q).2
  have et := fun u hu => Pg.endText base m bs w u g ov pv tv hu h hok hs hz
  have hokF := Pb.Ok.flush hok bs
  have htop : (Pb.flush m bs).top = m.top := Pb.flush_top m bs
  have hlen : (Pb.flush m bs).out.length = m.out.length := Pb.flush_len m bs
  have HAT := Lib.hid hat
  have HM : Hid ((Pb.flush m bs).out.length ≤ 1000000) := by unfold Hid; rw [hlen]; exact hs
  clear h hat hok hz hs hlen
  generalize Pb.flush m bs = mf at *
  go_enter Tryz.func84, Tryz.ntmps84
  go_upto_region 1 with fail
  obtain ⟨W, hW⟩ : ∃ W, w.alloc (.cells #[.int .i64 x.kind, .string x.name, .string x.text, .slice aa an ad, .int .i64 x.parent] 48) = W := ⟨_, rfl⟩
  have hbW : Below w.heap.size w W := by rw [← hW]; exact (Below.refl _ _).alloc (Nat.le_refl _) _
  have HQ : Hid (∀ j u, (Nd.five x (.slice aa an ad))[j]? = some u → W.cell? ⟨w.heap.size, j, none⟩ = some u) := by unfold Hid; rw [← hW]; exact Um.five_cells w x _ _ rfl
  have HQF : Hid (∀ i, W.frozen? ⟨w.heap.size, i, none⟩ = false) := fun i => by rw [← hW]; simp
  have hWs : w.heap.size < W.heap.size := by rw [← hW]; simp
  rw [hW]
  have et := et W hbW
  clear hW hbW
  go_upto_region 2 with (go_at_call 39; refine et.mono ?_; rintro e w2 ⟨rfl, w1, tv', hA1, hK1, hs1, hB1, hK2⟩; clear et)
  have HL1 := Lib.hid (hK1.attrs HAT.out)
  have hB1' : Below w1.heap.size w1 w2 := by rw [hs1]; exact hB1
  have hA2 := hA1.on hB1'
  have inn := Pg.innermost base mf Ts.e w2 g ov pv tv' hA2 hokF
  rw [htop] at inn
  have hbb := (hK2.block w.heap.size hWs HN0.out).1
  have HQ2 : Hid (∀ j u, (Nd.five x (.slice aa an ad))[j]? = some u → w2.cell? ⟨w.heap.size, j, none⟩ = some u) := fun j u hj => hK2.cell HN0.out (HQ.out j u hj)
  have qf : ∀ i, w2.frozen? ⟨w.heap.size, i, none⟩ = false := Pm.frozenOn hbb HQF.out
  have q4 := HQ2.out 4 _ rfl
  have HA1 := Lib.hid hA1
  have HK1 := Lib.hid hK1
  have HB1 : Hid (∀ n, Below w1.heap.size w1 ((w2.drewN n).setCell ⟨w.heap.size, 4, none⟩ (.int .i64 (m.top : Int)))) := fun n => by
    have q : Below w1.heap.size w1 (w2.drewN n) := ⟨hB1'.os, hB1'.tape, hB1'.output, hB1'.size, hB1'.block⟩
    exact q.setCell (by rw [hs1]; exact Nat.le_refl _) _
  have HQ3 : Hid (∀ n j u, (Nd.five { x with parent := (m.top : Int) } (.slice aa an ad))[j]? = some u → ((w2.drewN n).setCell ⟨w.heap.size, 4, none⟩ (.int .i64 (m.top : Int))).cell? ⟨w.heap.size, j, none⟩ = some u) := fun n => Um.five_set (W := w2.drewN n) HQ2.out (m.top : Int)
  have HS1 := Lib.hid hs1
  clear hA1 hK1 hB1 hB1' hK2 hA2 HQ HQ2 HQF hbb hs1
  go_upto_region 3 with (go_at_call 117; refine inn.mono ?_; rintro e w3 ⟨rfl, n3, rfl⟩; clear inn)
  have hbc := HB1.out n3
  have hfc := HQ3.out n3
  generalize (w2.drewN n3).setCell ⟨w.heap.size, 4, none⟩ (.int .i64 (m.top : Int)) = wc at *
  have hA := HA1.out.on hbc
  obtain ⟨xs, hx⟩ := id HA1.out.out
  obtain ⟨oa, od, rfl⟩ := Um.form hx.1
  have e0 := hA.c0
  have ef := hA.fz
  have f0 := hfc 0 _ rfl
  have f1 := hfc 1 _ rfl
  have f2 := hfc 2 _ rfl
  have f3 := hfc 3 _ rfl
  have f4 := hfc 4 _ rfl
  have HX := Lib.hid hx
  have HBC := Lib.hid hbc
  have HO : Hid (wc.ownsRow base 48 5 (.slice oa mf.out.length od) mf.out.length xs) := Rm.own_on hx.1 fun k hk => hbc.block k (hx.1.lt k hk).2
  have hgs : w.heap.size < wc.heap.size := World.block_lt_of_cell? _ _ f0
  have n4 : wc.heap.size ≠ g := by omega
  have n5 : wc.heap.size ≠ w.heap.size := by omega
  have hbase := HA1.out.ge
  have hgc : g < wc.heap.size := by omega
  have hog := hA.og
  have HOG := Lib.hid hog
  have e0' : ∀ o, (wc.alloc o).cell? ⟨g, 0, none⟩ = _ := fun o => (World.cell?_alloc_lt _ _ _ hgc).trans e0
  have HN : Hid (mf.out.length + 1 ≤ maxLen ∧ (mf.out.length + 1) * 72 ≤ 140737488355328) := ⟨by unfold maxLen; have := HM.out; omega, by have := HM.out; omega⟩
  clear hx hbc hfc hA HB1 HQ3 q4 qf hog
  go_region_law (first | (refine Ro.step_push rfl (.tmp 13) (.tmp 15) 22 48 5 72 _ rfl Tryz.underlying22 Um.infoN rfl (by decide) (.slice oa mf.out.length od) (by simp [Act.eval]) (HO.out.alloc _) wc.heap.size (Nd.five { x with parent := (m.top : Int) } (.slice aa an ad)) (by simp [Act.eval]) (Um.five_cells _ { x with parent := (m.top : Int) } _ _ (by first | rfl | omega | (simp; omega))) rfl (Um.five_one _ _ _ _) HN.out.1 HN.out.2 (by first | omega | (simp; omega)) ?_; intro v4 w4 R4 hg4 hf4; obtain ⟨a4, d4, rfl⟩ := Um.form R4; have B4 : w4.heap[g]? = wc.heap[g]? := ((hg4.block g (by first | omega | (simp; omega)) (fun e => HOG.out e.symm)).trans (Below.heap_alloc _ _ _ (by first | omega | (simp; omega)))); have d0 := (World.cell?_of_block (a := ⟨g, 0, none⟩) B4).trans e0; have df : ∀ i, w4.frozen? ⟨g, i, none⟩ = false := (fun i => by have := ef i; unfold World.frozen? at this ⊢; rw [B4]; exact this); clear B4; have HR4 := Lib.hid R4; have HG4 := Lib.hid hg4; have HF4 := Lib.hid hf4; clear R4 hg4 hf4))
  all_goals go_wp2
  all_goals go_end0
  all_goals
    have hq : Below w1.heap.size w1 (wc.drew.alloc (.cells #[.int .i64 x.kind, .string x.name, .string x.text, .slice aa an ad, .int .i64 (m.top : Int)] 48)) := HBC.out.drew.alloc HBC.out.size _
    obtain ⟨z1, z2⟩ := Pm.At.push (x := { x with parent := (m.top : Int) }) HA1.out hq xs HX.out HL1.out HR4.out HG4.out HF4.out
    refine ⟨rfl, _, _, ?_, HK1.out.trans z2⟩
    unfold Bt.node
    rw [htop]
    exact z1
end Go.Proofs.YtblpkjlodncpeaaGreatDoor

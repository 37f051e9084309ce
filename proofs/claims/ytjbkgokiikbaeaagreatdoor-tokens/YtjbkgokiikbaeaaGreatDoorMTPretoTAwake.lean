/-
  PLAIN: what the walk of the reader's read asks, from what its parts keep to; the run over a page, byte by byte.
-/
import Derived.Test.YtjbkgokiikbaeaaGreatDoorTInv
import Derived.Test.YtjbkgokiikbaeaaGreatDoorTRead
import Derived.Test.YtjbkgokiikbaeaaGreatDoorMTSteptoTMem
import Derived.Deep.QuietTactic
import Derived.BigQuiet
import Derived.Test.YtjbkgokiikbaeaaGreatDoorMRToktoNorm
import Derived.Test.YtjbkgokiikbaeaaGreatDoorMTBoxtoShelf5
namespace Go.Proofs.YtjbkgokiikbaeaaGreatDoor
theorem Rd.Ok.tx {r : Rd} {i : Nat} {N : Ts} {o : Nat} (h : Rd.Ok r i) (k : Nat) (hk : r.st.pl = (k : Int)) (hN : N.pl ∈ Ts.nexts k) (ho : (if N.pl = 1 ∨ N.pl = 20 then i else r.opn) = o)
    (hc : (r.st.pl = 22 ∧ N.pl = 0) ∨ (Rd.loose r.st.pl = true ∧ Rd.loose N.pl = false)) : r.text ≤ o ∧ o ≤ i := by
  have hn : ¬ (N.pl = 1 ∨ N.pl = 20) := by
    rintro (e | e) <;> rcases hc with ⟨_, q⟩ | ⟨_, q⟩
    · omega
    · rw [e] at q; exact absurd q (by decide)
    · omega
    · rw [e] at q; exact absurd q (by decide)
  rw [if_neg hn] at ho
  subst ho
  have h3 : r.st.pl = 1 ∨ r.st.pl = 2 ∨ r.st.pl = 22 := by
    rcases hc with ⟨q, _⟩ | ⟨q1, q2⟩
    · exact .inr (.inr q)
    · have hlt := h.hi
      unfold Rd.loose at q1
      simp only [Bool.or_eq_true, decide_eq_true_eq] at q1
      have hcase : k = 0 ∨ k = 1 ∨ k = 2 ∨ k = 19 ∨ k = 20 ∨ k = 21 ∨ k = 22 := by omega
      rcases hcase with e | e | e | e | e | e | e
      all_goals subst e
      all_goals simp only [Ts.nexts, List.mem_cons, List.not_mem_nil, or_false] at hN
      · rcases hN with e | e <;> (rw [e] at q2; exact absurd q2 (by decide))
      · exact .inl hk
      · exact .inr (.inl hk)
      · rcases hN with e | e <;> (rw [e] at q2; exact absurd q2 (by decide))
      · rcases hN with e | e | e <;> (rw [e] at q2; exact absurd q2 (by decide))
      · rcases hN with e | e | e <;> (rw [e] at q2; exact absurd q2 (by decide))
      · exact .inr (.inr hk)
  have := h.opn (by omega)
  omega
theorem Rd.Ok.cm {r : Rd} {i : Nat} {N : Ts} {o : Nat} (h : Rd.Ok r i) (k : Nat) (hk : r.st.pl = (k : Int)) (hN : N.pl ∈ Ts.nexts k) (ho : (if N.pl = 1 ∨ N.pl = 20 then i else r.opn) = o)
    (h1 : Ts.inTag r.st.pl = false) (h2 : Rd.loose r.st.pl = false) (_h3 : Rd.loose N.pl = true) : (r.st.pl ≠ 17 → o + 2 ≤ i) ∧ (r.st.pl = 17 → o + 6 ≤ i) := by
  have hlt := h.hi
  have hlo := h.lo
  have hr : 13 ≤ r.st.pl ∧ r.st.pl ≤ 18 := by
    unfold Rd.loose at h2
    unfold Ts.inTag at h1
    rw [Bool.and_eq_false_iff, decide_eq_false_iff_not, decide_eq_false_iff_not] at h1
    rw [Bool.or_eq_false_iff, decide_eq_false_iff_not, decide_eq_false_iff_not] at h2
    omega
  have hn : ¬ (N.pl = 1 ∨ N.pl = 20) := by
    have hcase : k = 13 ∨ k = 14 ∨ k = 15 ∨ k = 16 ∨ k = 17 ∨ k = 18 := by omega
    rcases hcase with e | e | e | e | e | e
    all_goals subst e
    all_goals simp only [Ts.nexts, List.mem_cons, List.not_mem_nil, or_false] at hN
    all_goals omega
  rw [if_neg hn] at ho
  subst ho
  exact ⟨fun _ => h.bang hr.1 hr.2, fun q => h.c17 q⟩
theorem Rd.run_snoc (P : ByteArray) : ∀ (l : List UInt8) (r : Rd) (i : Nat) (c : UInt8), Rd.run P r i (l ++ [c]) = Rd.read P (Rd.run P r i l) (i + l.length) c := by
  intro l
  induction l with
  | nil => intro r i c; rfl
  | cons a l ih =>
    intro r i c
    show Rd.run P (Rd.read P r i a) (i + 1) (l ++ [c]) = _
    rw [ih]
    show Rd.read P (Rd.run P (Rd.read P r i a) (i + 1) l) (i + 1 + l.length) c = Rd.read P (Rd.run P (Rd.read P r i a) (i + 1) l) (i + (l.length + 1)) c
    rw [Nat.add_assoc, Nat.add_comm 1]
theorem Rd.run_append (P : ByteArray) : ∀ (l l' : List UInt8) (r : Rd) (i : Nat), Rd.run P r i (l ++ l') = Rd.run P (Rd.run P r i l) (i + l.length) l' := by
  intro l
  induction l with
  | nil => intro l' r i; rfl
  | cons a l ih =>
    intro l' r i
    show Rd.run P (Rd.read P r i a) (i + 1) (l ++ l') = _
    rw [ih]
    show Rd.run P (Rd.run P (Rd.read P r i a) (i + 1) l) (i + 1 + l.length) l' = Rd.run P (Rd.run P (Rd.read P r i a) (i + 1) l) (i + (l.length + 1)) l'
    rw [Nat.add_assoc, Nat.add_comm 1]
theorem Rd.Ok.run {P : ByteArray} : ∀ (l : List UInt8) {r : Rd} {i : Nat}, Rd.Ok r i → Rd.Ok (Rd.run P r i l) (i + l.length) := by
  intro l
  induction l with
  | nil => intro r i h; exact h
  | cons a l ih =>
    intro r i h
    have := ih (h.read a (P := P))
    rw [List.length_cons, show i + (l.length + 1) = i + 1 + l.length by omega]
    exact this
end Go.Proofs.YtjbkgokiikbaeaaGreatDoor
/-
  THE WALK of tok.Tokens.
-/
namespace Go.Proofs.YtjbkgokiikbaeaaGreatDoor
open Go.RowKit
/-- the reader's cells at the start -/
def Rm.cells (P : ByteArray) (B C : Nat) : Array Value := #[.string P, Tp.fn 45, Tp.fn 46, Tp.fn 47, Tp.fn 48, Tp.fn 49, Tp.fn 50, Tp.fn 51, Tp.fn 52, Tp.quote B, Tp.quote C, Tp.fn 54, Tp.fn 55, Tp.fn 56, Tp.fn 57, Tp.fn 58, Tp.fn 59, Tp.fn 60, Tp.fn 61, Tp.fn 62, Tp.fn 63, Tp.fn 64, Tp.fn 65, Tp.fn 66, .int .i64 0, .string ⟨#[]⟩, .bool false, .string ⟨#[]⟩, .string ⟨#[]⟩, .int .i64 0, .slice none 0 0, .int .i64 0, .int .i64 0, .int .i64 0, .slice none 0 0, .bool false]
def Rm.zeros : Array Value := #[.string ⟨#[]⟩, .nilFunc, .nilFunc, .nilFunc, .nilFunc, .nilFunc, .nilFunc, .nilFunc, .nilFunc, .nilFunc, .nilFunc, .nilFunc, .nilFunc, .nilFunc, .nilFunc, .nilFunc, .nilFunc, .nilFunc, .nilFunc, .nilFunc, .nilFunc, .nilFunc, .nilFunc, .nilFunc, .int .i64 0, .string ⟨#[]⟩, .bool false, .string ⟨#[]⟩, .string ⟨#[]⟩, .int .i64 0, .slice none 0 0, .int .i64 0, .int .i64 0, .int .i64 0, .slice none 0 0, .bool false]
theorem Rm.infoR : (Tryz.prog.info? 62).map (·.size) = some 36 := by kernel_rfl
theorem Rm.cells_one (P : ByteArray) (B C : Nat) : (Rm.cells P B C).all (·.oneCell') = true := by simp [Rm.cells, Tp.fn, Tp.quote, Value.oneCell']
theorem Rm.cells_len (P : ByteArray) (B C : Nat) : (Rm.cells P B C).toList.length = 36 := rfl
theorem Rm.cells_get (P : ByteArray) (B C : Nat) (k : Nat) (v : Value) (h : (Tp.table B C)[k]? = some v) : (Rm.cells P B C).toList[1 + k]? = some v := by
  have hlt : k < 23 := by
    have := (Array.getElem?_eq_some_iff.1 h).1
    simpa [Tp.table] using this
  have : ∀ k, k < 23 → (Rm.cells P B C).toList[1 + k]? = (Tp.table B C).toList[k]? := by
    intro k hk
    have e : (Rm.cells P B C).toList = [.string P] ++ ((Tp.table B C).toList ++ [.int .i64 0, .string ⟨#[]⟩, .bool false, .string ⟨#[]⟩, .string ⟨#[]⟩, .int .i64 0, .slice none 0 0, .int .i64 0, .int .i64 0, .int .i64 0, .slice none 0 0, .bool false]) := rfl
    rw [e, List.getElem?_append_right (by simp), List.getElem?_append_left (by show _ < 23; simp; omega)]
    simp
  rw [this k hlt, Array.getElem?_toList]
  exact h
/-- the reader laid into a new variable -/
theorem Rm.At.laid {W : World} {g B C : Nat} {P : ByteArray} (hg : g < W.heap.size) (ht : W.there g 0 36) (hz : ∀ i, W.frozen? ⟨g, i, none⟩ = false) (hB : B < g) (hC : C < g) (h1 : W.cell? ⟨B, 0, none⟩ = some (.int .u8 34)) (h2 : W.cell? ⟨C, 0, none⟩ = some (.int .u8 39)) :
    Rm.At (W.setCells g 0 (Rm.cells P B C).toList) g P Rd.start (.slice none 0 0) (.slice none 0 0) := by
  have hr := World.rangeAt_setCells_same W g 0 (Rm.cells P B C).toList (by rw [Rm.cells_len]; exact ht)
  have hs := Tp.setCells_size g (Rm.cells P B C).toList 0 W
  have hf : ∀ i, (W.setCells g 0 (Rm.cells P B C).toList).frozen? ⟨g, i, none⟩ = W.frozen? ⟨g, i, none⟩ := fun i => World.frozen?_setCells _ _ _ _ _
  have h34 := (World.cell?_setCells_out g (Rm.cells P B C).toList 0 W ⟨B, 0, none⟩ (fun e => by have e' : B = g := e; omega)).trans h1
  have h39 := (World.cell?_setCells_out g (Rm.cells P B C).toList 0 W ⟨C, 0, none⟩ (fun e => by have e' : C = g := e; omega)).trans h2
  have hq : ∀ o v, (Rm.cells P B C).toList[o]? = some v → (W.setCells g 0 (Rm.cells P B C).toList).cell? ⟨g, o, none⟩ = some v := fun o v hv => by have := hr o v hv; rwa [Nat.zero_add] at this
  refine ⟨⟨hq 0 _ rfl, ⟨by omega, B, C, by omega, by omega, h34, h39, fun k v hv => hq _ _ (Rm.cells_get P B C k v hv)⟩, hq 24 _ rfl, hq 25 _ rfl, hq 26 _ rfl, hq 27 _ rfl, hq 28 _ rfl, hq 29 _ rfl, hq 30 _ rfl, hq 31 _ rfl, hq 32 _ rfl, hq 33 _ rfl, hq 34 _ rfl, hq 35 _ rfl, ?_, ?_⟩, ?_, World.ownsRow_nil _ _ _ _, fun k _ e => by cases e⟩
  · intro i
    rw [hf]
    exact hz i
  · intro B' C' e1 e2
    rw [hq 9 _ rfl] at e1
    rw [hq 10 _ rfl] at e2
    have b1 : Tp.quote B = Tp.quote B' := Option.some.inj e1
    have b2 : Tp.quote C = Tp.quote C' := Option.some.inj e2
    unfold Tp.quote at b1 b2
    simp at b1 b2
    omega
  · exact ⟨[], World.ownsRow_nil _ _ _ _, fun i t h => by simp [Rd.start] at h⟩
end Go.Proofs.YtjbkgokiikbaeaaGreatDoor
/-
  THE WALK of tok.Tokens, whole.
-/
namespace Go.Proofs.YtjbkgokiikbaeaaGreatDoor
open Go.RowKit
theorem Rm.Kept.below {w wr w' : World} {g : Nat} {P : ByteArray} {r : Rd} {tv av tv' av' : Value} (hK : Rm.Kept wr w' g tv av tv' av') (hA : Rm.At wr g P r tv av) (hb : Below w.heap.size w wr) (hg : w.heap.size ≤ g) : Below w.heap.size w w' :=
  ⟨hK.os.trans hb.os, hK.tape.trans hb.tape, hK.output.trans hb.output, Nat.le_trans hb.size hK.size, fun k hk => (hK.block k (Nat.lt_of_lt_of_le hk hb.size) ⟨by omega, fun e => by have := (hA.tvLt e).1; omega, fun e => by have := (hA.avLt e).1; omega⟩).1.trans (hb.block k hk)⟩
theorem Tk.long (page : ByteArray) (w : World) (h : 65536 < page.size) (hs : page.size ≤ maxLen) : Calls Tryz.prog 11 #[.string page] w fun e w' => e = .returned (.tuple #[.slice none 0 0, .int .i64 500]) ∧ w' = w := by
  unfold maxLen at hs
  have t : decide ((65536 : Int) < (page.size : Int)) = true := decide_eq_true (by omega)
  go_enter Tryz.func11, Tryz.ntmps11
  go_wp2
  go_ret2
  exact ⟨rfl, rfl⟩
set_option maxHeartbeats 4000000 in
theorem Tk.shortU (page : ByteArray) (m : Int) (w : World) (h : page.size ≤ 65536) (hm : w.cell? ⟨0, 0, none⟩ = some (.int .i64 m)) :
    Calls Tryz.prog 11 #[.string page] w fun e w' => ∃ v, e = .returned (.tuple #[v, .int .i64 0]) ∧ Tk.Lies w' (fun k => w.heap.size ≤ k ∧ k < w'.heap.size ∧ Rm.Ub w' k) (Rd.tokens page) v ∧ Below w.heap.size w w' := by
  have t : decide ((65536 : Int) < (page.size : Int)) = false := decide_eq_false (by omega)
  have hone := Tp.oneLineEnd page m w h hm
  have HTok : Hid (Rd.tokens page = Rd.done (Rd.page page) (Rd.run (Rd.page page) Rd.start 0 (Rd.page page).data.toList)) := by
    unfold Hid Rd.tokens
    rw [show (Rd.page page).data.toList = Rd.lines page.data.toList by unfold Rd.page; exact List.toList_toArray]
  have hPs : (Rd.page page).size ≤ 65536 := by
    have := Li.lines_len page.data.toList
    rw [Wk.len_data] at this
    rw [← Wk.len_data, show (Rd.page page).data.toList = Rd.lines page.data.toList by unfold Rd.page; exact List.toList_toArray]
    omega
  generalize Rd.page page = P at *
  generalize Rd.tokens page = TS at *
  clear hm h
  go_enter Tryz.func11, Tryz.ntmps11
  go_wp2_with (first | (go_at_call 29; refine hone.mono ?_; rintro e w1 ⟨rfl, hb1⟩; clear hone) | (go_at_call 22; refine (Tp.steppers _).mono ?_; rintro e w2 ⟨B, C, rfl, hB, hC, hB0, hC0, h34, h39, hb2⟩) | (go_at_call 10; refine (Tp.Start _).mono ?_; rintro e w3 ⟨rfl, hb3⟩) | refine Vm.stop 13 ?_)
  have b2 : Below w.heap.size w w2 := hb1.trans (hb2.mono hb1.size)
  have b3 : Below w.heap.size w w3 := b2.trans (hb3.mono b2.size)
  have k34 := Tp.keep hb3 h34
  have k39 := Tp.keep hb3 h39
  have hs3 := hb3.size
  clear h34 h39 hb1 hb2 hb3 b2
  refine ⟨?_⟩
  refine wpList_buildTo rfl 62 _ rfl (some 13) rfl (Rm.cells P B C) (by kernel_rfl) ?_
  go_wp2_with (refine Vm.stopS 62 ?_)
  refine ⟨?_⟩
  obtain ⟨W, hW⟩ : ∃ W, w3.alloc (.cells Rm.zeros 62) = W := ⟨_, rfl⟩
  have hsz : W.heap.size = w3.heap.size + 1 := by rw [← hW]; simp
  have hbW : Below w3.heap.size w3 W := by rw [← hW]; exact (Below.refl _ _).alloc (Nat.le_refl _) _
  have hnew : W.heap[w3.heap.size]? = some (.cells Rm.zeros 62) := by rw [← hW]; exact heap_alloc_new w3 _
  have hth : W.there w3.heap.size 0 36 := Tp.there W w3.heap.size Rm.zeros 62 hnew 0 36 (by decide)
  have hz : ∀ i, W.frozen? ⟨w3.heap.size, i, none⟩ = false := fun i => by unfold World.frozen?; rw [hnew]; simp
  have hA0 := Rm.At.laid (W := W) (g := w3.heap.size) (B := B) (C := C) (P := P) (by omega) hth hz (by omega) (by omega) (Tp.keep hbW k34) (Tp.keep hbW k39)
  have hb4 := Tp.setCells (B := w.heap.size) (a := w) w3.heap.size b3.size (Rm.cells P B C).toList 0 W (b3.trans (hbW.mono b3.size))
  unfold Rm.zeros at hW
  rw [hW]
  refine wpList_store_mid rfl 62 _ _ rfl w3.heap.size 0 (Rm.cells P B C) rfl rfl hth Rm.infoR (Rm.cells_one _ _ _) ?_
  generalize W.setCells w3.heap.size 0 (Rm.cells P B C).toList = V at *
  have hgw : w.heap.size ≤ w3.heap.size := b3.size
  generalize w3.heap.size = g at *
  clear hW hth hz hnew hbW k34 k39 hB hC hB0 hC0 b3 hs3 hsz
  have z0 := hA0.box.page
  have HA0 := Lib.hid hA0
  have HB4 := Lib.hid hb4
  clear hA0 hb4
  go_wp2
  go_loopw [17] (fun i wr => ∃ (k : Nat) (tv av : Value), k ≤ P.size ∧ i = .int .i64 (k : Int) ∧ Hid (Rm.At wr g P (Rd.run P Rd.start 0 (P.data.toList.take k)) tv av) ∧ Hid (Below w.heap.size w wr)) (fun i _ => P.size - (intOf i).toNat)
  case atStart => exact ⟨0, _, _, Nat.zero_le _, rfl, HA0.out, HB4.out⟩
  case round =>
    clear HA0 HB4 z0
    obtain ⟨k, tv, av, hk, rfl, HA, HB⟩ := hrel
    have hlen : (P.data.toList.take k).length = k := by rw [List.length_take, Wk.len_data]; omega
    have hOk := Rd.Ok.run (P := P) (P.data.toList.take k) Rd.Ok.start
    rw [hlen, Nat.zero_add] at hOk
    by_cases hlt : k < P.size
    · have HR : Hid (Rd.run P Rd.start 0 (P.data.toList.take (k + 1)) = Rd.read P (Rd.run P Rd.start 0 (P.data.toList.take k)) k P[k]) := by
        unfold Hid
        have e : P.data.toList.take (k + 1) = P.data.toList.take k ++ [P[k]] := by
          rw [List.take_succ_eq_append_getElem (by rw [Wk.len_data]; exact hlt)]; rfl
        rw [e, Rd.run_snoc, hlen, Nat.zero_add]
      obtain ⟨RR, hRR⟩ : ∃ RR, Rd.run P Rd.start 0 (P.data.toList.take (k + 1)) = RR := ⟨_, rfl⟩
      have HRR := Lib.hid hRR
      rw [hRR] at HR
      clear hRR
      generalize Rd.run P Rd.start 0 (P.data.toList.take k) = r at *
      obtain ⟨q, hq⟩ : ∃ q : Nat, r.st.pl = (q : Int) := ⟨r.st.pl.toNat, by have := hOk.lo; omega⟩
      have hnx := Ts.step_next r.st P[k] q hq (by have := hOk.hi; omega)
      have hrd := Rm.read r k P[k] (r.st.step P[k]) _ wr g P tv av HA.out hPs hlt rfl ⟨by have := hOk.small.1; unfold maxLen; omega, by have := hOk.small.2.1; unfold maxLen; omega, by have := hOk.small.2.2; unfold maxLen; omega⟩ rfl rfl (fun hc => by have := hOk.tx q hq hnx rfl hc; omega) (fun h1 h2 h3 => hOk.cm q hq hnx rfl h1 h2 h3) hOk.value (fun h1 h2 => hOk.taken (by omega) (by omega) h2) hOk.attrs (by have := hOk.toks; omega)
      rw [← HR.out] at hrd
      clear hnx hq hOk HR
      go_wp2_with (go_at_call 30; refine hrd.mono ?_; rintro e w4 ⟨rfl, tv4, av4, hA4, hK4⟩; clear hrd)
      go_roundw
      case rel => exact ⟨k + 1, tv4, av4, by omega, by go_num, by unfold Hid; rw [HRR.out]; exact hA4, hK4.below HA.out HB.out hgw⟩
      case measure => simp [intOf]; omega
    · have hke : k = P.size := by omega
      subst hke
      rw [show P.data.toList.take P.size = P.data.toList by rw [← Wk.len_data]; exact List.take_length] at HA hOk
      generalize Rd.run P Rd.start 0 P.data.toList = r at *
      have x0 := HA.out.box.page
      have x24 := HA.out.box.s0
      have x28 := HA.out.box.s4
      have x30 := HA.out.box.toks
      have htx := hOk.text
      have htk := hOk.toks
      cases lw : Rd.loose r.st.pl with
      | true =>
        have HT : Hid (TS = (Rd.tellText P r P.size r.st.held).toks) := by unfold Hid; rw [HTok.out]; unfold Rd.done; rw [if_pos lw]
        have htt := Rm.tellText r P.size r.st.held wr g P tv av HA.out hPs htx (Nat.le_refl _) (by omega)
        clear hOk HTok
        go_wp2_with (first | (go_at_call 31; refine (Tp.isLoose _ _).mono ?_; rintro e w' ⟨rfl, rfl⟩) | (go_at_call 32; refine htt.mono ?_; rintro e w5 ⟨rfl, tv5, av5, hA5, hK5⟩; have y30 := hA5.box.toks; have HA5 := Lib.hid hA5; have HK5 := Lib.hid hK5; clear hA5 hK5 htt))
        go_ret2
        refine ⟨tv5, rfl, ?_, HK5.out.below HA.out HB.out hgw⟩
        rw [HT.out]
        exact HA5.out.toks.liesU.on fun k hk => ⟨⟨by omega, hk.2⟩, rfl⟩
      | false =>
        have HT : Hid (TS = r.toks) := by unfold Hid; rw [HTok.out]; unfold Rd.done; rw [if_neg (by rw [lw]; decide)]
        clear hOk HTok
        go_wp2_with (first | (go_at_call 31; refine (Tp.isLoose _ _).mono ?_; rintro e w' ⟨rfl, rfl⟩))
        go_ret2
        refine ⟨tv, rfl, ?_, HB.out⟩
        rw [HT.out]
        exact HA.out.toks.liesU.on fun k hk => ⟨⟨by omega, hk.2⟩, rfl⟩
theorem Tk.short (page : ByteArray) (m : Int) (w : World) (h : page.size ≤ 65536) (hm : w.cell? ⟨0, 0, none⟩ = some (.int .i64 m)) :
    Calls Tryz.prog 11 #[.string page] w fun e w' => ∃ v, e = .returned (.tuple #[v, .int .i64 0]) ∧ Tk.Lies w' (fun k => w.heap.size ≤ k ∧ k < w'.heap.size) (Rd.tokens page) v ∧ Below w.heap.size w w' := by
  refine (Tk.shortU page m w h hm).mono ?_
  rintro e w' ⟨v, rfl, hl, hb⟩
  exact ⟨v, rfl, hl.on fun _ hk => ⟨⟨hk.1, hk.2.1⟩, rfl⟩, hb⟩
end Go.Proofs.YtjbkgokiikbaeaaGreatDoor
/-
  THE WALKS of stolelaw0.SameAttrs and stolelaw0.SameTokens at the same attributes, the same tokens.
-/
namespace Go.Proofs.YtjbkgokiikbaeaaGreatDoor
open Go.RowKit
theorem Sa.drews {B : Nat} {a w : World} (h : Below B a w) (n : Nat) : Below B a (w.drewN n) := ⟨h.os, h.tape, h.output, h.size, h.block⟩
theorem Sa.lies {w : World} {R : Nat → Prop} {al : List (ByteArray × ByteArray)} {v : Value} (h : Ak.Lies w R al v) (n : Nat) : Ak.Lies (w.drewN n) R al v := h
set_option maxHeartbeats 2000000 in
theorem Sa.attrs (al : List (ByteArray × ByteArray)) (v1 v2 : Value) (R R' : Nat → Prop) (w : World) (h1 : Ak.Lies w R al v1) (h2 : Ak.Lies w R' al v2) :
    Calls Tryz.prog 38 #[v1, v2] w fun e w' => e = .returned (.bool true) ∧ ∃ n, w' = w.drewN n := by
  obtain ⟨a1, d1, rfl, l1, m1, x1⟩ := h1
  obtain ⟨a2, d2, rfl, l2, m2, x2⟩ := h2
  have hm : al.length ≤ 9223372036854775807 := by unfold maxLen at m1; omega
  have X1 := Lib.hid x1
  have X2 := Lib.hid x2
  clear x1 x2
  go_enter Tryz.func38, Tryz.ntmps38
  go_wp2
  go_loopw [5] (fun i wr => ∃ j n : Nat, j ≤ al.length ∧ i = .int .i64 (j : Int) ∧ wr = w.drewN n) (fun i _ => al.length - (intOf i).toNat)
  case atStart => exact ⟨0, 0, Nat.zero_le _, rfl, rfl⟩
  case round =>
    obtain ⟨j, n, hj, rfl, rfl⟩ := hrel
    by_cases hlt : j < al.length
    · obtain ⟨b1, o1, rfl, _, c1, c1'⟩ := X1.out j al[j] (List.getElem?_eq_getElem hlt)
      obtain ⟨b2, o2, rfl, _, c2, c2'⟩ := X2.out j al[j] (List.getElem?_eq_getElem hlt)
      generalize al[j] = y at *
      obtain ⟨yn, yv⟩ := y
      have hd1 : j < d1 := by omega
      have hd2 : j < d2 := by omega
      simp only at c1 c1' c2 c2'
      go_wp2_with fail
      go_quiet (fail)
      go_wp2
      go_roundw
      case rel => exact ⟨j + 1, _, by omega, by go_num, rfl⟩
      case measure => simp [intOf]; omega
    · have e : j = al.length := by omega
      subst e
      go_wp2
      go_ret
      exact ⟨rfl, n, rfl⟩
set_option maxRecDepth 100000 in
set_option maxHeartbeats 4000000 in
theorem Sa.tokens (ts : List Tk) (v1 v2 : Value) (R R' : Nat → Prop) (w : World) (h1 : Tk.Lies w R ts v1) (h2 : Tk.Lies w R' ts v2) :
    Calls Tryz.prog 13 #[v1, v2] w fun e w' => e = .returned (.bool true) ∧ ∃ n, w' = w.drewN n := by
  obtain ⟨a1, d1, rfl, l1, m1, x1⟩ := h1
  obtain ⟨a2, d2, rfl, l2, m2, x2⟩ := h2
  have hm : ts.length ≤ 9223372036854775807 := by unfold maxLen at m1; omega
  have X1 := Lib.hid x1
  have X2 := Lib.hid x2
  clear x1 x2
  go_enter Tryz.func13, Tryz.ntmps13
  go_wp2
  go_loopw [5] (fun i wr => ∃ j : Nat, j ≤ ts.length ∧ i = .int .i64 (j : Int) ∧ Hid (∃ n, wr = w.drewN n)) (fun i _ => ts.length - (intOf i).toNat)
  case atStart => exact ⟨0, Nat.zero_le _, rfl, 0, rfl⟩
  case round =>
    obtain ⟨j, hj, rfl, HW⟩ := hrel
    by_cases hlt : j < ts.length
    · obtain ⟨b1, o1, av1, rfl, _, p0, p1, p2, p3, p4, pl⟩ := X1.out j ts[j] (List.getElem?_eq_getElem hlt)
      obtain ⟨b2, o2, av2, rfl, _, q0, q1, q2, q3, q4, ql⟩ := X2.out j ts[j] (List.getElem?_eq_getElem hlt)
      generalize ts[j] = y at *
      obtain ⟨yk, yn, yt, ya, ys⟩ := y
      have hd1 : j < d1 := by omega
      have hd2 : j < d2 := by omega
      simp only at p0 p1 p2 p3 p4 q0 q1 q2 q3 q4
      have hcell : ∀ a v, w.cell? a = some v → wr.cell? a = some v := fun a v h => by obtain ⟨n, hn⟩ := HW.out; rw [hn]; exact h
      have hli : ∀ R v, Ak.Lies w R ya v → Ak.Lies wr R ya v := fun R v h => by obtain ⟨n, hn⟩ := HW.out; rw [hn]; exact h
      replace p0 := hcell _ _ p0
      replace p1 := hcell _ _ p1
      replace p2 := hcell _ _ p2
      replace p3 := hcell _ _ p3
      replace p4 := hcell _ _ p4
      replace q0 := hcell _ _ q0
      replace q1 := hcell _ _ q1
      replace q2 := hcell _ _ q2
      replace q3 := hcell _ _ q3
      replace q4 := hcell _ _ q4
      have hat := fun (k : Nat) => Sa.attrs ya av1 av2 R R' (wr.drewN k) (Sa.lies (hli _ _ pl) k) (Sa.lies (hli _ _ ql) k)
      clear hcell hli
      obtain ⟨aa1, dd1, rfl, _⟩ := pl
      obtain ⟨aa2, dd2, rfl, _⟩ := ql
      clear X1 X2
      have s0 : (yk != yk) = false := by simp
      have s1 : (yn.toList != yn.toList) = false := by simp
      have s2 : (yt.toList != yt.toList) = false := by simp
      have s3 : (ys != ys) = false := by simp
      go_wp2_with fail
      go_quiet ((go_at_call 38; exact Calls.quiet_of (hat _)))
      go_wp2
      go_roundw
      case rel => exact ⟨j + 1, by omega, by go_num, by obtain ⟨n, hn⟩ := HW.out; rw [hn]; exact ⟨_, World.drewN_drewN _ _ _⟩⟩
      case measure => simp [intOf]; omega
    · have e : j = ts.length := by omega
      subst e
      go_wp2
      go_ret
      exact ⟨rfl, HW.out⟩
end Go.Proofs.YtjbkgokiikbaeaaGreatDoor
/-
  THE PAGE that every law of layer 5 asks first, plain.
-/
namespace Go.Proofs.YtjbkgokiikbaeaaGreatDoor
def Tw.str (l : List UInt8) : ByteArray := ⟨l.toArray⟩
def Tw.page : ByteArray := ⟨#[97, 60, 80, 32, 120, 61, 39, 49, 39, 32, 88, 61, 50, 32, 121, 62, 98, 38, 108, 116, 59, 60, 98, 114, 47, 62, 60, 47, 112, 62, 60, 33, 45, 45, 99, 45, 45, 62, 60, 116, 105, 116, 108, 101, 62, 60, 47, 116, 105, 116, 60, 47, 84, 73, 84, 76, 69, 62]⟩
def Tw.want : List Tk := [⟨0, Ts.e, ⟨#[97]⟩, [], false⟩, ⟨1, ⟨#[112]⟩, Ts.e, [(⟨#[120]⟩, ⟨#[49]⟩), (⟨#[121]⟩, Ts.e)], false⟩, ⟨0, Ts.e, ⟨#[98, 60]⟩, [], false⟩, ⟨1, ⟨#[98, 114]⟩, Ts.e, [], true⟩, ⟨2, ⟨#[112]⟩, Ts.e, [], false⟩, ⟨3, Ts.e, ⟨#[99]⟩, [], false⟩, ⟨1, ⟨#[116, 105, 116, 108, 101]⟩, Ts.e, [], false⟩, ⟨0, Ts.e, ⟨#[60, 47, 116, 105, 116]⟩, [], false⟩, ⟨2, ⟨#[116, 105, 116, 108, 101]⟩, Ts.e, [], false⟩]
theorem Tw.tokens : Rd.tokens Tw.page = Tw.want := by decide +kernel
end Go.Proofs.YtjbkgokiikbaeaaGreatDoor
/-
  THE WALK of stolelaw5.at: the state behind a text.
-/
namespace Go.Proofs.YtjbkgokiikbaeaaGreatDoor
open Go.RowKit
def Ts.all (l : List UInt8) : Ts := l.foldl Ts.step Ts.start
theorem Ts.all_small (l : List UInt8) : (Ts.all l).Small := by
  unfold Ts.all
  have : ∀ (l : List UInt8) (s : Ts), s.Small → (l.foldl Ts.step s).Small := by
    intro l
    induction l with
    | nil => intro s h; exact h
    | cons c l ih => intro s h; exact ih _ (Ts.step_small h c)
  exact this l _ ⟨by decide, by decide, by decide⟩
theorem Ts.Small.fits {s : Ts} (h : s.Small) : s.Fits := ⟨by have := h.1; unfold maxLen; omega, by have := h.2.1; unfold maxLen; omega, by have := h.2.2; unfold maxLen; omega⟩
set_option maxHeartbeats 4000000 in
theorem Aw.at (s : ByteArray) (w : World) (hs : s.size ≤ 1000000) : Calls Tryz.prog 18 #[.string s] w fun e w' => e = .returned (.agg #[.int .i64 (Ts.all s.data.toList).pl, .string (Ts.all s.data.toList).name, .bool (Ts.all s.data.toList).fin, .string (Ts.all s.data.toList).attr, .string (Ts.all s.data.toList).held, .int .i64 (Ts.all s.data.toList).read]) ∧ Below w.heap.size w w' := by
  go_enter Tryz.func18, Tryz.ntmps18
  go_wp2_with (go_at_call 10; refine (Tp.Start _).mono ?_; rintro e w1 ⟨rfl, hb1⟩)
  have z0 := Tp.keep hb1 (b := w.heap.size) (o := 0) (v := .int .i64 0) (by simp)
  have z1 := Tp.keep hb1 (b := w.heap.size) (o := 1) (v := .string ⟨#[]⟩) (by simp)
  have z2 := Tp.keep hb1 (b := w.heap.size) (o := 2) (v := .bool false) (by simp)
  have z3 := Tp.keep hb1 (b := w.heap.size) (o := 3) (v := .string ⟨#[]⟩) (by simp)
  have z4 := Tp.keep hb1 (b := w.heap.size) (o := 4) (v := .string ⟨#[]⟩) (by simp)
  have z5 := Tp.keep hb1 (b := w.heap.size) (o := 5) (v := .int .i64 0) (by simp)
  have zf := Tp.keepF hb1 (b := w.heap.size) (by simp) (fun i => by simp)
  have hs1 := hb1.size
  simp at hs1
  have q1 : Below w.heap.size w w1 := ((Below.refl _ _).alloc (Nat.le_refl _) _).trans (hb1.mono (by simp))
  clear hb1
  have hS0 : Rm.Six (w1.alloc (.cells #[.int .i64 Ts.start.pl, .string Ts.start.name, .bool Ts.start.fin, .string Ts.start.attr, .string Ts.start.held, .int .i64 Ts.start.read] 23)) w1.heap.size Ts.start := Rm.Six.new w1 Ts.start _ rfl
  have hbA := (Below.refl w1.heap.size w1).alloc (Nat.le_refl _) (.cells #[.int .i64 Ts.start.pl, .string Ts.start.name, .bool Ts.start.fin, .string Ts.start.attr, .string Ts.start.held, .int .i64 Ts.start.read] 23)
  have hfS0 : ∀ i, (w1.alloc (.cells #[.int .i64 Ts.start.pl, .string Ts.start.name, .bool Ts.start.fin, .string Ts.start.attr, .string Ts.start.held, .int .i64 Ts.start.read] 23)).frozen? ⟨w1.heap.size, i, none⟩ = false := fun i => by simp
  have y0 := Tp.keep hbA z0
  have y1 := Tp.keep hbA z1
  have y2 := Tp.keep hbA z2
  have y3 := Tp.keep hbA z3
  have y4 := Tp.keep hbA z4
  have y5 := Tp.keep hbA z5
  have yf := Tp.keepF hbA (by omega) zf
  have qA := q1.trans (hbA.mono q1.size)
  clear z0 z1 z2 z3 z4 z5 zf q1 hbA
  generalize w1.heap.size = g at *
  go_loopw [4] (fun i wr => ∃ k : Nat, k ≤ s.size ∧ i = .int .i64 (k : Int) ∧ Rm.Six wr g (Ts.all (s.data.toList.take k)) ∧ (∀ i, wr.frozen? ⟨g, i, none⟩ = false) ∧ (wr.cell? ⟨w.heap.size, 0, none⟩ = some (.int .i64 0) ∧ wr.cell? ⟨w.heap.size, 1, none⟩ = some (.string ⟨#[]⟩) ∧ wr.cell? ⟨w.heap.size, 2, none⟩ = some (.bool false) ∧ wr.cell? ⟨w.heap.size, 3, none⟩ = some (.string ⟨#[]⟩) ∧ wr.cell? ⟨w.heap.size, 4, none⟩ = some (.string ⟨#[]⟩) ∧ wr.cell? ⟨w.heap.size, 5, none⟩ = some (.int .i64 0)) ∧ (∀ i, wr.frozen? ⟨w.heap.size, i, none⟩ = false) ∧ Below w.heap.size w wr) (fun i _ => s.size - (intOf i).toNat)
  case atStart =>
    exact ⟨0, Nat.zero_le _, rfl, hS0, hfS0, ⟨y0, y1, y2, y3, y4, y5⟩, yf, qA⟩
  case round =>
    clear hS0 hfS0 y0 y1 y2 y3 y4 y5 yf qA
    obtain ⟨k, hk, rfl, hS, hfS, ⟨z0, z1, z2, z3, z4, z5⟩, zf, hb⟩ := hrel
    by_cases hlt : k < s.size
    · have HA : Hid (Ts.all (s.data.toList.take (k + 1)) = (Ts.all (s.data.toList.take k)).step s[k]) := by
        unfold Hid Ts.all
        have e : s.data.toList.take (k + 1) = s.data.toList.take k ++ [s[k]] := by
          rw [List.take_succ_eq_append_getElem (by rw [Wk.len_data]; exact hlt)]; rfl
        rw [e, List.foldl_append]
        rfl
      have hfit := (Ts.all_small (s.data.toList.take k)).fits
      obtain ⟨Y, hY⟩ : ∃ Y, Ts.all (s.data.toList.take (k + 1)) = Y := ⟨_, rfl⟩
      have HY := Lib.hid hY
      rw [hY] at HA
      clear hY
      generalize Ts.all (s.data.toList.take k) = X at *
      have hst := fun u => Tp.Step X s[k] u hfit
      rw [← HA.out] at hst
      have c0 := hS.c0
      have c1 := hS.c1
      have c2 := hS.c2
      have c3 := hS.c3
      have c4 := hS.c4
      have c5 := hS.c5
      have hglt := hS.lt
      have hwg : w.heap.size ≠ g := by omega
      clear hS HA hfit
      go_wp2_with fail
      go_region_with (go_at_call 8; refine (hst _).mono ?_; rintro e w4 ⟨rfl, hb4⟩; have d0 := Tp.keep hb4 c0; have d1 := Tp.keep hb4 c1; have d2 := Tp.keep hb4 c2; have d3 := Tp.keep hb4 c3; have d4 := Tp.keep hb4 c4; have d5 := Tp.keep hb4 c5; have df := Tp.keepF hb4 hglt hfS; have e0 := Tp.keep hb4 z0; have e1 := Tp.keep hb4 z1; have e2 := Tp.keep hb4 z2; have e3 := Tp.keep hb4 z3; have e4 := Tp.keep hb4 z4; have e5 := Tp.keep hb4 z5; have ef := Tp.keepF hb4 (b := w.heap.size) (by first | omega | (simp; omega)) zf; have q4 : Below w.heap.size w w4 := hb.drew.trans (hb4.mono (by first | exact hb.size | (simp; exact hb.size))); clear hb4)
      all_goals
        obtain ⟨V, hV, v0, v1, v2, v3, v4, v5, vf, vo, vfo, vs, vb⟩ := Tp.six w4 g (.int .i64 Y.pl) (.string Y.name) (.bool Y.fin) (.string Y.attr) (.string Y.held) (.int .i64 Y.read) d0 d1 d2 d3 d4 d5 df
        rw [hV]
        have y0 := (vo w.heap.size 0 hwg).trans e0
        have y1 := (vo w.heap.size 1 hwg).trans e1
        have y2 := (vo w.heap.size 2 hwg).trans e2
        have y3 := (vo w.heap.size 3 hwg).trans e3
        have y4 := (vo w.heap.size 4 hwg).trans e4
        have y5 := (vo w.heap.size 5 hwg).trans e5
        have yf : ∀ i, V.frozen? ⟨w.heap.size, i, none⟩ = false := fun i => (vfo _ i).trans (ef i)
        have qV := vb w.heap.size w (by omega) q4
        clear hV vo vfo vs vb d0 d1 d2 d3 d4 d5 df e0 e1 e2 e3 e4 e5 ef q4 c0 c1 c2 c3 c4 c5 z0 z1 z2 z3 z4 z5 zf hb hfS
        go_wp2
        go_roundw
        case rel => exact ⟨k + 1, by omega, by go_num, by rw [HY.out]; exact ⟨v0, v1, v2, v3, v4, v5⟩, vf, ⟨y0, y1, y2, y3, y4, y5⟩, yf, qV⟩
        case measure => simp [intOf]; omega
    · have hke : k = s.size := by omega
      subst hke
      rw [show s.data.toList.take s.size = s.data.toList by rw [← Wk.len_data]; exact List.take_length] at hS
      have hglt := hS.lt
      have hwg : w.heap.size ≠ g := by omega
      obtain ⟨X, hX⟩ : ∃ X, Ts.all s.data.toList = X := ⟨_, rfl⟩
      have HX := Lib.hid hX
      rw [hX] at hS
      clear hX
      have c0 := hS.c0
      have c1 := hS.c1
      have c2 := hS.c2
      have c3 := hS.c3
      have c4 := hS.c4
      have c5 := hS.c5
      go_wp2
      refine bodyPost_ret (v := .agg #[.int .i64 X.pl, .string X.name, .bool X.fin, .string X.attr, .string X.held, .int .i64 X.read]) (by simp [results, Tryz.results18, go_sem, *]) rfl ⟨Tp.ret HX.out.symm, ?_⟩
      repeat (refine Below.setCell ?_ (by simp) _)
      exact hb
end Go.Proofs.YtjbkgokiikbaeaaGreatDoor
/-
  TOKENS THAT A TEXT LAYS DOWN, in memory: a literal's block is a row of tokens.
-/
namespace Go.Proofs.YtjbkgokiikbaeaaGreatDoor
open Go.RowKit
/-- the cells of tokens, their attributes' slices given -/
def Tk.rows : List Tk → List Value → List Value
  | t :: ts, a :: avs => Rm.five t a ++ Tk.rows ts avs
  | _, _ => []
theorem Tk.rows_get : ∀ (ts : List Tk) (avs : List Value), avs.length = ts.length → ∀ (i : Nat) (t : Tk), ts[i]? = some t → ∃ av, avs[i]? = some av ∧ ∀ r, r < 5 → (Tk.rows ts avs)[i * 5 + r]? = (Rm.five t av)[r]? := by
  intro ts
  induction ts with
  | nil => intro avs _ i t h; simp at h
  | cons u ts ih =>
    intro avs hl i t h
    cases avs with
    | nil => simp at hl
    | cons a avs =>
      cases i with
      | zero =>
        simp only [List.getElem?_cons_zero, Option.some.injEq] at h
        subst h
        refine ⟨a, rfl, fun r hr => ?_⟩
        rw [Tk.rows, List.getElem?_append_left (by simp [Rm.five]; omega), Nat.zero_mul, Nat.zero_add]
      | succ i =>
        rw [List.getElem?_cons_succ] at h
        obtain ⟨av, h1, h2⟩ := ih avs (by simpa using hl) i t h
        refine ⟨av, h1, fun r hr => ?_⟩
        rw [Tk.rows, List.getElem?_append_right (by simp [Rm.five]; omega)]
        show (Tk.rows ts avs)[(i + 1) * 5 + r - 5]? = _
        rw [show (i + 1) * 5 + r - 5 = i * 5 + r by omega]
        exact h2 r hr
/-- each token's attributes lie where its slice says -/
def Tk.fits (w : World) (R : Nat → Prop) : List Tk → List Value → Prop
  | [], [] => True
  | t :: ts, a :: avs => Ak.Lies w R t.attrs a ∧ Tk.fits w R ts avs
  | _, _ => False
theorem Tk.fits_len {w : World} {R : Nat → Prop} : ∀ {ts : List Tk} {avs : List Value}, Tk.fits w R ts avs → avs.length = ts.length := by
  intro ts
  induction ts with
  | nil => intro avs h; cases avs with
    | nil => rfl
    | cons a avs => exact h.elim
  | cons t ts ih => intro avs h; cases avs with
    | nil => exact h.elim
    | cons a avs => simp [ih h.2]
theorem Tk.fits_get {w : World} {R : Nat → Prop} : ∀ {ts : List Tk} {avs : List Value}, Tk.fits w R ts avs → ∀ (i : Nat) (t : Tk) (av : Value), ts[i]? = some t → avs[i]? = some av → Ak.Lies w R t.attrs av := by
  intro ts
  induction ts with
  | nil => intro avs h i t av h1; simp at h1
  | cons u ts ih => intro avs h i t av h1 h2; cases avs with
    | nil => exact h.elim
    | cons a avs =>
      cases i with
      | zero =>
        simp only [List.getElem?_cons_zero, Option.some.injEq] at h1 h2
        subst h1 h2
        exact h.1
      | succ i =>
        rw [List.getElem?_cons_succ] at h1 h2
        exact ih h.2 i t av h1 h2
theorem Tk.Lies.lit {w : World} {g : Nat} {R : Nat → Prop} (ts : List Tk) (avs : List Value) (cs : Array Value) (hg : w.heap[g]? = some (.cells cs 47)) (hcs : cs.toList = Tk.rows ts avs) (hR : R g) (hm : ts.length ≤ maxLen)
    (ha : Tk.fits w R ts avs) : Tk.Lies w R ts (.slice (some ⟨g, 0, none⟩) ts.length ts.length) := by
  refine ⟨some ⟨g, 0, none⟩, ts.length, rfl, Nat.le_refl _, hm, fun i t hi => ?_⟩
  obtain ⟨av, h1, h2⟩ := Tk.rows_get ts avs (Tk.fits_len ha) i t hi
  have hc : ∀ r v, r < 5 → (Rm.five t av)[r]? = some v → w.cell? ⟨g, 0 + i * 5 + r, none⟩ = some v := fun r v hr hv => by
    unfold World.cell?
    rw [hg]
    show cs[0 + i * 5 + r]? = some v
    rw [← Array.getElem?_toList, hcs, Nat.zero_add, h2 r hr]
    exact hv
  exact ⟨g, 0, av, rfl, hR, hc 0 _ (by decide) rfl, hc 1 _ (by decide) rfl, hc 2 _ (by decide) rfl, hc 3 _ (by decide) rfl, hc 4 _ (by decide) rfl, Tk.fits_get ha i t av hi h1⟩
theorem Ak.Lies.lit {w : World} {g : Nat} {R : Nat → Prop} (al : List (ByteArray × ByteArray)) (cs : Array Value) (hg : w.heap[g]? = some (.cells cs 45)) (hcs : cs.toList = Ak.cells al) (hR : R g) (hm : al.length ≤ maxLen) : Ak.Lies w R al (.slice (some ⟨g, 0, none⟩) al.length al.length) := by
  refine ⟨some ⟨g, 0, none⟩, al.length, rfl, Nat.le_refl _, hm, fun j x hj => ?_⟩
  obtain ⟨h1, h2⟩ := Ak.cells_get al j x hj
  have hc : ∀ r v, (Ak.cells al)[r]? = some v → w.cell? ⟨g, 0 + r, none⟩ = some v := fun r v hv => by
    unfold World.cell?
    rw [hg]
    show cs[0 + r]? = some v
    rw [← Array.getElem?_toList, hcs, Nat.zero_add]
    exact hv
  exact ⟨g, 0, rfl, hR, hc _ _ h1, hc _ _ h2⟩
end Go.Proofs.YtjbkgokiikbaeaaGreatDoor
/-
  THE WALK of stolelaw5.awake.
-/
namespace Go.Proofs.YtjbkgokiikbaeaaGreatDoor
open Go.RowKit
theorem Aw.num (a : Int) (w : World) : Calls Tryz.prog 14 #[.int .i64 a] w fun e w' => e = .returned (.int .i64 a) ∧ w' = w := by
  go_enter Tryz.func14, Tryz.ntmps14
  go_wp2
  go_ret
  exact ⟨rfl, rfl⟩
theorem Aw.at1 (w : World) : Calls Tryz.prog 18 #[.string ⟨#[60, 97, 32, 98, 61, 34, 99]⟩] w fun e w' => e = .returned (.agg #[.int .i64 8, .string ⟨#[97]⟩, .bool false, .string ⟨#[98]⟩, .string ⟨#[]⟩, .int .i64 0]) ∧ Below w.heap.size w w' := by
  have h := Aw.at ⟨#[60, 97, 32, 98, 61, 34, 99]⟩ w (by decide)
  rw [show Ts.all (⟨#[60, 97, 32, 98, 61, 34, 99]⟩ : ByteArray).data.toList = ⟨8, ⟨#[97]⟩, false, ⟨#[98]⟩, ⟨#[]⟩, 0⟩ by decide +kernel] at h
  exact h
theorem Aw.at2 (w : World) : Calls Tryz.prog 18 #[.string ⟨#[60, 115, 116, 121, 108, 101, 62, 60, 47, 115, 84]⟩] w fun e w' => e = .returned (.agg #[.int .i64 22, .string ⟨#[]⟩, .bool false, .string ⟨#[]⟩, .string ⟨#[115, 116, 121, 108, 101]⟩, .int .i64 2]) ∧ Below w.heap.size w w' := by
  have h := Aw.at ⟨#[60, 115, 116, 121, 108, 101, 62, 60, 47, 115, 84]⟩ w (by decide)
  rw [show Ts.all (⟨#[60, 115, 116, 121, 108, 101, 62, 60, 47, 115, 84]⟩ : ByteArray).data.toList = ⟨22, ⟨#[]⟩, false, ⟨#[]⟩, ⟨#[115, 116, 121, 108, 101]⟩, 2⟩ by decide +kernel] at h
  exact h
theorem Aw.page (m : Int) (w : World) (hm : w.cell? ⟨0, 0, none⟩ = some (.int .i64 m)) :
    Calls Tryz.prog 11 #[.string ⟨#[97, 60, 80, 32, 120, 61, 39, 49, 39, 32, 88, 61, 50, 32, 121, 62, 98, 38, 108, 116, 59, 60, 98, 114, 47, 62, 60, 47, 112, 62, 60, 33, 45, 45, 99, 45, 45, 62, 60, 116, 105, 116, 108, 101, 62, 60, 47, 116, 105, 116, 60, 47, 84, 73, 84, 76, 69, 62]⟩] w fun e w' => ∃ a d, e = .returned (.tuple #[.slice a 9 d, .int .i64 0]) ∧ Tk.Lies w' (fun k => w.heap.size ≤ k ∧ k < w'.heap.size) Tw.want (.slice a 9 d) ∧ Below w.heap.size w w' := by
  refine (Tk.short ⟨#[97, 60, 80, 32, 120, 61, 39, 49, 39, 32, 88, 61, 50, 32, 121, 62, 98, 38, 108, 116, 59, 60, 98, 114, 47, 62, 60, 47, 112, 62, 60, 33, 45, 45, 99, 45, 45, 62, 60, 116, 105, 116, 108, 101, 62, 60, 47, 116, 105, 116, 60, 47, 84, 73, 84, 76, 69, 62]⟩ m w (by decide) hm).mono ?_
  rintro e w' ⟨v, rfl, hl, hb⟩
  rw [show Rd.tokens ⟨#[97, 60, 80, 32, 120, 61, 39, 49, 39, 32, 88, 61, 50, 32, 121, 62, 98, 38, 108, 116, 59, 60, 98, 114, 47, 62, 60, 47, 112, 62, 60, 33, 45, 45, 99, 45, 45, 62, 60, 116, 105, 116, 108, 101, 62, 60, 47, 116, 105, 116, 60, 47, 84, 73, 84, 76, 69, 62]⟩ = Tw.want from Tw.tokens] at hl
  obtain ⟨a, d, rfl, r⟩ := id hl
  exact ⟨a, d, rfl, hl, hb⟩
/-- a text of zeros -/
theorem Aw.zerosN (n : Nat) (hn : n ≤ 1000000) : ∃ (M : Array Value) (Z : ByteArray), Z.size = n ∧ (∀ u : World, (Instr.makeSlice 43 (.int .i64 (n : Int)) (.int .i64 (n : Int))).run Tryz.prog u = .ok (.slice (some ⟨u.heap.size, 0, none⟩) n n) (u.alloc (.cells M 5))) ∧
    (∀ u : World, (convert 43 9 (.slice (some ⟨u.heap.size, 0, none⟩) n n)).run Tryz.prog (u.alloc (.cells M 5)) = .ok (.string Z) (u.alloc (.cells M 5))) := by
  obtain ⟨i0, hi, hz0, hz1, hz2⟩ := info_parts Wk.info5
  refine ⟨madeCells #[.int .u8 0] n, ⟨(List.replicate n 0).toArray⟩, ?_, fun u => ?_, fun u => ?_⟩
  · rw [← Wk.len_data]
    show (List.replicate n (0 : UInt8)).toArray.toList.length = _
    rw [List.toList_toArray, List.length_replicate]
  · have h := run_make (P := Tryz.prog) u 43 5 i0 (.int .u8 0) Tryz.underlying43 hi hz0 .i64 .i64 (n : Int) (n : Int) (by omega) (Int.le_refl _) (by rw [hz2]; omega) (by omega)
    simpa [hz1, Value.cells] using h
  · have h := run_convert_bytes_back (P := Tryz.prog) (u.alloc (.cells (madeCells #[.int .u8 0] n) 5)) 43 9 5 ⟨u.heap.size, 0, none⟩ n (List.replicate n 0) Tryz.underlying43 Tryz.underlying5 Tryz.underlying9 (fun j hj => by
      rw [Ro.add, Nat.zero_add]
      have hj' : j < n := by simpa using hj
      unfold World.cell?
      rw [show (u.alloc (.cells (madeCells #[.int .u8 0] n) 5)).heap[u.heap.size]? = some _ from heap_alloc_new u _]
      show (madeCells #[.int .u8 0] n)[j]? = _
      rw [← Array.getElem?_toList, toList_madeCells_one, List.getElem?_replicate, if_pos hj', List.getElem_replicate]
      rfl)
    rw [List.length_replicate] at h
    exact h
theorem Aw.zeros : ∃ (M : Array Value) (Z : ByteArray), Z.size = 65537 ∧ (∀ u : World, (Instr.makeSlice 43 (.int .i64 65537) (.int .i64 65537)).run Tryz.prog u = .ok (.slice (some ⟨u.heap.size, 0, none⟩) 65537 65537) (u.alloc (.cells M 5))) ∧
    (∀ u : World, (convert 43 9 (.slice (some ⟨u.heap.size, 0, none⟩) 65537 65537)).run Tryz.prog (u.alloc (.cells M 5)) = .ok (.string Z) (u.alloc (.cells M 5))) := by
  obtain ⟨M, Z, h1, h2, h3⟩ := Aw.zerosN 65537 (by decide)
  exact ⟨M, Z, h1, h2, h3⟩
set_option maxRecDepth 100000 in
set_option maxHeartbeats 8000000 in
theorem Aw.awake (m : Int) (w : World) (hm : w.cell? ⟨0, 0, none⟩ = some (.int .i64 m)) : Calls Tryz.prog 7 #[] w fun e w' => e = .returned (.bool true) ∧ Below w.heap.size w w' := by
  obtain ⟨M, Z, hZ, hmk, hcv⟩ := Aw.zeros
  have hp := Aw.page m w hm
  have hlong := fun u => Tk.long Z u (by omega) (by unfold maxLen; omega)
  go_enter Tryz.func7, Tryz.ntmps7
  go_wp2_with (first | (go_at_call_of 11 Z; refine (hlong _).mono ?_; rintro e w' ⟨rfl, rfl⟩) | (go_at_call 11; refine hp.mono ?_; rintro e w1 ⟨a, d, rfl, hl, hb1⟩; clear hp))
  obtain ⟨W, hW⟩ : ∃ W, w1.alloc (.cells M 5) = W := ⟨_, rfl⟩
  have hbW : Below w.heap.size w W := by rw [← hW]; exact hb1.alloc hb1.size _
  have hlW : Tk.Lies W (· < W.heap.size) Tw.want (.slice a 9 d) := hl.on fun k hk => ⟨by rw [← hW]; simp; omega, by rw [← hW]; exact Below.heap_alloc _ _ _ hk.2⟩
  have hs1 : w1.heap.size + 1 = W.heap.size := by rw [← hW]; simp
  rw [hW, hs1]
  clear hW hl hb1 hmk hcv hlong hm
  generalize hg : W.heap.size = g at *
  obtain ⟨V, hV⟩ : ∃ V, W.alloc (.cells #[.string ⟨#[120]⟩, .string ⟨#[49]⟩, .string ⟨#[121]⟩, .string ⟨#[]⟩] 45) = V := ⟨_, rfl⟩
  have hbV : Below W.heap.size W V := by rw [← hV]; exact (Below.refl _ _).alloc (Nat.le_refl _) _
  have hgV : V.heap[g]? = some (.cells #[.string ⟨#[120]⟩, .string ⟨#[49]⟩, .string ⟨#[121]⟩, .string ⟨#[]⟩] 45) := by rw [← hV, ← hg]; exact heap_alloc_new W _
  have hsV : V.heap.size = g + 1 := by rw [← hV]; simp; omega
  rw [hV]
  clear hV
  have hlV : Tk.Lies V (· < V.heap.size) Tw.want (.slice a 9 d) := hlW.on fun k hk => ⟨Nat.lt_of_lt_of_le (by omega) hbV.size, hbV.block k (by omega)⟩
  have hAt : Ak.Lies V (· < V.heap.size) [(⟨#[120]⟩, ⟨#[49]⟩), (⟨#[121]⟩, Ts.e)] (.slice (some ⟨g, 0, none⟩) 2 2) := Ak.Lies.lit [(⟨#[120]⟩, ⟨#[49]⟩), (⟨#[121]⟩, Ts.e)] _ hgV rfl (by show g < V.heap.size; omega) (by decide)
  have q2 : Below w.heap.size w V := hbW.trans (hbV.mono (by have := hbW.size; omega))
  clear hlW hgV hbV hbW
  generalize hcs : (#[.int .i64 0, .string ⟨#[]⟩, .string ⟨#[97]⟩, .slice none 0 0, .bool false, .int .i64 1, .string ⟨#[112]⟩, .string ⟨#[]⟩, .slice (some ⟨g, 0, none⟩) 2 2, .bool false, .int .i64 0, .string ⟨#[]⟩, .string ⟨#[98, 60]⟩, .slice none 0 0, .bool false, .int .i64 1, .string ⟨#[98, 114]⟩, .string ⟨#[]⟩, .slice none 0 0, .bool true, .int .i64 2, .string ⟨#[112]⟩, .string ⟨#[]⟩, .slice none 0 0, .bool false, .int .i64 3, .string ⟨#[]⟩, .string ⟨#[99]⟩, .slice none 0 0, .bool false, .int .i64 1, .string ⟨#[116, 105, 116, 108, 101]⟩, .string ⟨#[]⟩, .slice none 0 0, .bool false, .int .i64 0, .string ⟨#[]⟩, .string ⟨#[60, 47, 116, 105, 116]⟩, .slice none 0 0, .bool false, .int .i64 2, .string ⟨#[116, 105, 116, 108, 101]⟩, .string ⟨#[]⟩, .slice none 0 0, .bool false] : Array Value) = cs
  have hrows : cs.toList = Tk.rows Tw.want [.slice none 0 0, .slice (some ⟨g, 0, none⟩) 2 2, .slice none 0 0, .slice none 0 0, .slice none 0 0, .slice none 0 0, .slice none 0 0, .slice none 0 0, .slice none 0 0] := by rw [← hcs]; rfl
  clear hcs
  have hbU : Below V.heap.size V (V.alloc (.cells cs 47)) := (Below.refl _ _).alloc (Nat.le_refl _) _
  have hnU : (V.alloc (.cells cs 47)).heap[g + 1]? = some (.cells cs 47) := by rw [← hsV]; exact heap_alloc_new V _
  have hsU : (V.alloc (.cells cs 47)).heap.size = g + 1 + 1 := by simp; omega
  generalize V.alloc (.cells cs 47) = U at *
  have hlU : Tk.Lies U (· < U.heap.size) Tw.want (.slice a 9 d) := hlV.on fun k hk => ⟨by omega, hbU.block k (by omega)⟩
  have hAU : Ak.Lies U (· < U.heap.size) [(⟨#[120]⟩, ⟨#[49]⟩), (⟨#[121]⟩, Ts.e)] (.slice (some ⟨g, 0, none⟩) 2 2) := hAt.on fun k hk => ⟨by omega, hbU.block k (by omega)⟩
  have hwU : Tk.Lies U (· < U.heap.size) Tw.want (.slice (some ⟨g + 1, 0, none⟩) 9 9) := Tk.Lies.lit Tw.want [.slice none 0 0, .slice (some ⟨g, 0, none⟩) 2 2, .slice none 0 0, .slice none 0 0, .slice none 0 0, .slice none 0 0, .slice none 0 0, .slice none 0 0, .slice none 0 0] cs hnU hrows (by show g + 1 < U.heap.size; omega) (by decide) ⟨Ak.Lies.nil _ _, hAU, Ak.Lies.nil _ _, Ak.Lies.nil _ _, Ak.Lies.nil _ _, Ak.Lies.nil _ _, Ak.Lies.nil _ _, Ak.Lies.nil _ _, Ak.Lies.nil _ _, trivial⟩
  have q3 : Below w.heap.size w U := q2.trans (hbU.mono (by have := q2.size; omega))
  clear hlV hAt hAU hrows hbU hnU q2
  refine (Sa.tokens Tw.want _ _ _ _ U hlU hwU).mono ?_
  rintro e w2 ⟨rfl, n2, rfl⟩
  have q4 : Below w.heap.size w (U.drewN n2) := Sa.drews q3 n2
  clear hlU hwU q3
  have t1 := fun u => Aw.at1 u
  have t2 := fun u => Aw.at2 u
  go_wp2_with (first | (go_at_call 14; refine (Aw.num _ _).mono ?_; rintro e w' ⟨rfl, rfl⟩) | (go_at_call 18; refine (t1 _).mono ?_; rintro e w5 ⟨rfl, hb5⟩; have q5 : Below w.heap.size w w5 := q4.trans (hb5.mono q4.size); clear hb5 t1) | (go_at_call 18; refine (t2 _).mono ?_; rintro e w6 ⟨rfl, hb6⟩; have q6 : Below w.heap.size w w6 := q5.trans (hb6.mono q5.size); clear hb6 t2))
  go_ret
  exact ⟨rfl, q6⟩
end Go.Proofs.YtjbkgokiikbaeaaGreatDoor

/-
  THE WALKS of stolelaw0.SpoilAttrs and SpoilTokens: a text in its cell becomes another text; nothing else turns.
-/
import Derived.Test.YtjbkgokiikbaeaaGreatDoorMTSteptoTMem
import Derived.Test.YtjbkgokiikbaeaaGreatDoorMTSe1toTSdB
import Derived.Test.YtjbkgokiikbaeaaGreatDoorMLowertoTLow
import Derived.Test.YtjbkgokiikbaeaaGreatDoorCards
import Derived.Test.YtjbkgokiikbaeaaGreatDoorTie
import Derived.Test.YtjbkgokiikbaeaaGreatDoorMTBoxtoShelf5
import Derived.Test.YtjbkgokiikbaeaaGreatDoorMRToktoNorm
import Derived.WalkKit
import Derived.ProofKit
import Derived.OpenShut
import Derived.ShutString
import Derived.SizedLaws
import Derived.Deep.DeepHandedRow
import Derived.Lib.LaidU8
import Derived.PinnedBridge
import Derived.Test.YtjbkgokiikbaeaaGreatDoorTSe3
import Derived.Test.YtjbkgokiikbaeaaGreatDoorMTPretoTAwake
namespace Go.Proofs.YtjbkgokiikbaeaaGreatDoor
open Go.RowKit
/-- texts of blocks of R have turned into texts of at most n bytes more; nothing else has turned -/
structure Sp.Rel (R : Nat → Prop) (n : Nat) (w w' : World) : Prop where
  os : w'.os = w.os
  tape : w'.tape = w.tape
  output : w'.output = w.output
  size : w'.heap.size = w.heap.size
  out : ∀ k, ¬ R k → w'.heap[k]? = w.heap[k]?
  str : ∀ b o (s : ByteArray), w.cell? ⟨b, o, none⟩ = some (.string s) → ∃ s' : ByteArray, w'.cell? ⟨b, o, none⟩ = some (.string s') ∧ s'.size ≤ s.size + n
  oth : ∀ b o v, w.cell? ⟨b, o, none⟩ = some v → (∀ s, v ≠ .string s) → w'.cell? ⟨b, o, none⟩ = some v
  fz : ∀ b o, w'.frozen? ⟨b, o, none⟩ = w.frozen? ⟨b, o, none⟩
theorem Sp.Rel.refl (R : Nat → Prop) (w : World) : Sp.Rel R 0 w w := ⟨rfl, rfl, rfl, rfl, fun _ _ => rfl, fun _ _ s h => ⟨s, h, Nat.le_refl _⟩, fun _ _ _ h _ => h, fun _ _ => rfl⟩
theorem Sp.Rel.trans {R : Nat → Prop} {n m : Nat} {w w1 w2 : World} (h : Sp.Rel R n w w1) (g : Sp.Rel R m w1 w2) : Sp.Rel R (n + m) w w2 :=
  ⟨g.os.trans h.os, g.tape.trans h.tape, g.output.trans h.output, g.size.trans h.size, fun k hk => (g.out k hk).trans (h.out k hk), fun b o s hs => by
    obtain ⟨s1, h1, l1⟩ := h.str b o s hs
    obtain ⟨s2, h2, l2⟩ := g.str b o s1 h1
    exact ⟨s2, h2, by omega⟩, fun b o v hv hn => g.oth b o v (h.oth b o v hv hn) hn, fun b o => (g.fz b o).trans (h.fz b o)⟩
theorem Sp.Rel.wide {R : Nat → Prop} {n m : Nat} {w w1 : World} (h : Sp.Rel R n w w1) (hm : n ≤ m) : Sp.Rel R m w w1 :=
  ⟨h.os, h.tape, h.output, h.size, h.out, fun b o s hs => by
    obtain ⟨s1, h1, l1⟩ := h.str b o s hs
    exact ⟨s1, h1, by omega⟩, h.oth, h.fz⟩
theorem Sp.Rel.drew {R : Nat → Prop} {n : Nat} {w w1 : World} (h : Sp.Rel R n w w1) : Sp.Rel R n w w1.drew := ⟨h.os, h.tape, h.output, h.size, h.out, h.str, h.oth, h.fz⟩
theorem Sp.set {R : Nat → Prop} {w : World} {b o : Nat} {s s' : ByteArray} (hb : R b) (hc : w.cell? ⟨b, o, none⟩ = some (.string s)) (hs : s'.size ≤ s.size + 1) : Sp.Rel R 1 w (w.setCell ⟨b, o, none⟩ (.string s')) := by
  have hother : ∀ b1 o1, (¬ (b1 = b ∧ o1 = o)) → (w.setCell ⟨b, o, none⟩ (.string s')).cell? ⟨b1, o1, none⟩ = w.cell? ⟨b1, o1, none⟩ := fun b1 o1 hn => by
    exact World.cell?_setCell_other _ _ _ _ (fun e => hn (by injection e with e1 e2 e3; exact ⟨e1.symm, e2.symm⟩))
  have hself : (w.setCell ⟨b, o, none⟩ (.string s')).cell? ⟨b, o, none⟩ = some (.string s') := by simp [go_sem, hc]
  refine ⟨rfl, rfl, rfl, by simp, fun k hk => Below.heap_setCell _ _ _ _ (fun e => hk (by rw [e]; exact hb)), fun b1 o1 s1 h1 => ?_, fun b1 o1 v h1 hn => ?_, fun _ _ => by rw [World.frozen?_setCell]⟩
  · by_cases e : b1 = b ∧ o1 = o
    · obtain ⟨rfl, rfl⟩ := e
      rw [hc] at h1
      injection h1 with h1
      injection h1 with h1
      exact ⟨s', hself, by rw [← h1]; exact hs⟩
    · exact ⟨s1, (hother b1 o1 e).trans h1, by omega⟩
  · by_cases e : b1 = b ∧ o1 = o
    · obtain ⟨rfl, rfl⟩ := e
      rw [hc] at h1
      injection h1 with h1
      exact absurd h1.symm (hn s)
    · exact (hother b1 o1 e).trans h1
/-- a row's names: texts of at most L bytes that may be written -/
def Sp.Names (w : World) (R : Nat → Prop) (a : Option Addr) (m L : Nat) : Prop := ∀ j, j < m → ∃ b o, ∃ s : ByteArray, a = some ⟨b, o, none⟩ ∧ R b ∧ (∀ q, w.frozen? ⟨b, q, none⟩ = false) ∧ w.cell? ⟨b, o + j * 2, none⟩ = some (.string s) ∧ s.size ≤ L
theorem Sp.Names.on {w w' : World} {R : Nat → Prop} {a : Option Addr} {m L n : Nat} (h : Sp.Names w R a m L) (g : Sp.Rel R n w w') : Sp.Names w' R a m (L + n) := fun j hj => by
  obtain ⟨b, o, s, e, hb, hf, hc, hs⟩ := h j hj
  obtain ⟨s', hc', hs'⟩ := g.str _ _ _ hc
  exact ⟨b, o, s', e, hb, fun q => (g.fz _ _).trans (hf q), hc', by omega⟩
set_option maxHeartbeats 2000000 in
theorem Sp.attrs (R : Nat → Prop) (a : Option Addr) (m d L : Nat) (w : World) (h : Sp.Names w R a m L) (hm : m ≤ 1000000) (hd : m ≤ d) (hL : L ≤ 1000000000) :
    Calls Tryz.prog 39 #[.slice a m d] w fun e w' => e = .returned (.tuple #[]) ∧ Sp.Rel R m w w' := by
  have H := Lib.hid h
  clear h
  go_enter Tryz.func39, Tryz.ntmps39
  go_wp2
  go_loopw [2] (fun ix wr => ∃ j : Nat, j ≤ m ∧ ix = .int .i64 (j : Int) ∧ Hid (Sp.Rel R j w wr)) (fun ix _ => m - (intOf ix).toNat)
  case atStart => exact ⟨0, Nat.zero_le _, by go_num, Sp.Rel.refl _ _⟩
  case round =>
    obtain ⟨j, hj, rfl, HR⟩ := hrel
    by_cases hlt : j < m
    · obtain ⟨b, o, s, rfl, hb, hf, hc, hs⟩ := (H.out.on HR.out) j hlt
      have d1 : decide ((j : Int) < (m : Int)) = true := decide_eq_true (by omega)
      have hjd : j < d := by omega
      have hsz : (s ++ (⟨#[33]⟩ : ByteArray)).size = s.size + 1 := by rw [ByteArray.size_append]; rfl
      obtain ⟨s', hs'⟩ : ∃ s' : ByteArray, s ++ ⟨#[33]⟩ = s' := ⟨_, rfl⟩
      rw [hs'] at hsz
      have HN := Lib.hid (HR.out.trans (Sp.set (s' := s') hb hc (by omega)))
      have hz : s.size ≤ 1001000000 := by omega
      clear H hs
      go_wp2
      go_roundw
      case rel => exact ⟨j + 1, by omega, by go_num, HN.out⟩
      case measure => simp [intOf]; omega
    · have e : j = m := by omega
      subst e
      have d1 : decide ((j : Int) < (j : Int)) = false := decide_eq_false (by omega)
      go_wp2
      go_end0
      exact ⟨rfl, HR.out⟩
/-- a row of tokens whose names and whose attributes' names may be written -/
def Sp.Toks (w : World) (R : Nat → Prop) (a : Option Addr) (n L : Nat) : Prop := ∀ i, i < n → ∃ b o, ∃ s : ByteArray, ∃ aa am ad, a = some ⟨b, o, none⟩ ∧ R b ∧ (∀ q, w.frozen? ⟨b, q, none⟩ = false) ∧ w.cell? ⟨b, o + i * 5 + 1, none⟩ = some (.string s) ∧ s.size ≤ L ∧ w.cell? ⟨b, o + i * 5 + 3, none⟩ = some (.slice aa am ad) ∧ am ≤ 32 ∧ am ≤ ad ∧ Sp.Names w R aa am L
theorem Sp.Toks.on {w w' : World} {R : Nat → Prop} {a : Option Addr} {m L n : Nat} (h : Sp.Toks w R a m L) (g : Sp.Rel R n w w') : Sp.Toks w' R a m (L + n) := fun j hj => by
  obtain ⟨b, o, s, aa, am, ad, e, hb, hf, hc, hs, hc3, h1, h2, hn⟩ := h j hj
  obtain ⟨s', hc', hs'⟩ := g.str _ _ _ hc
  exact ⟨b, o, s', aa, am, ad, e, hb, fun q => (g.fz _ _).trans (hf q), hc', by omega, g.oth _ _ _ hc3 (fun s => by intro q; cases q), h1, h2, hn.on g⟩
set_option maxHeartbeats 2000000 in
theorem Sp.tokens (R : Nat → Prop) (a : Option Addr) (m d : Nat) (w : World) (h : Sp.Toks w R a m 100) (hm : m ≤ 1000000) (hd : m ≤ d) :
    Calls Tryz.prog 15 #[.slice a m d] w fun e w' => e = .returned (.tuple #[]) ∧ Sp.Rel R (m * 33) w w' := by
  have H := Lib.hid h
  clear h
  go_enter Tryz.func15, Tryz.ntmps15
  go_wp2
  go_loopw [2] (fun ix wr => ∃ j : Nat, j ≤ m ∧ ix = .int .i64 (j : Int) ∧ Hid (Sp.Rel R (j * 33) w wr)) (fun ix _ => m - (intOf ix).toNat)
  case atStart => exact ⟨0, Nat.zero_le _, by go_num, Sp.Rel.refl _ _⟩
  case round =>
    obtain ⟨j, hj, rfl, HR⟩ := hrel
    by_cases hlt : j < m
    · obtain ⟨b, o, s, aa, am, ad, rfl, hb, hf, hc, hs, hc3, h1, h2, hn⟩ := (H.out.on HR.out) j hlt
      have d1 : decide ((j : Int) < (m : Int)) = true := decide_eq_true (by omega)
      have hjd : j < d := by omega
      have sp := Sp.attrs R aa am ad (100 + j * 33) wr hn (by omega) h2 (by omega)
      have HS : Hid (s.size ≤ 100 + j * 33) := hs
      have HB := Lib.hid hb
      have HC := Lib.hid hc
      have HF := Lib.hid hf
      clear H hs hn hb hc hf h2
      go_wp2_with (go_at_call 39; refine sp.mono ?_; rintro e w2 ⟨rfl, hR2⟩; clear sp; obtain ⟨s2, c2, z2⟩ := hR2.str _ _ _ HC.out; have f2 : ∀ q, w2.frozen? ⟨b, q, none⟩ = false := (fun q => (hR2.fz _ _).trans (HF.out q)); have hz : s2.size ≤ 1000000000 := (by have := HS.out; omega); obtain ⟨s', hs'⟩ : ∃ s' : ByteArray, s2 ++ ⟨#[33]⟩ = s' := ⟨_, rfl⟩; have hsz : s'.size = s2.size + 1 := (by rw [← hs', ByteArray.size_append]; rfl); have HN : Hid (Sp.Rel R ((j + 1) * 33) w (w2.setCell ⟨b, o + j * 5 + 1, none⟩ (.string s'))) := (by unfold Hid; exact ((HR.out.trans hR2).trans (Sp.set (s' := s') HB.out c2 (by omega))).wide (by omega)); clear hR2)
      go_roundw
      case rel => exact ⟨j + 1, by omega, by go_num, HN.out⟩
      case measure => simp [intOf]; omega
    · have e : j = m := by omega
      subst e
      have d1 : decide ((j : Int) < (j : Int)) = false := decide_eq_false (by omega)
      go_wp2
      go_end0
      exact ⟨rfl, HR.out⟩
/-- tokens that lie in blocks of their own may be written -/
theorem Sp.Toks.of {w : World} {R : Nat → Prop} {ts : List Tk} {a : Option Addr} {d : Nat} (h : Tk.Lies w (fun k => R k ∧ Rm.Ub w k) ts (.slice a ts.length d)) (hn : ∀ t ∈ ts, t.Nice) : Sp.Toks w R a ts.length 100 := fun i hi => by
  obtain ⟨a', d', e, h1, h2, hx⟩ := h
  injection e with e1 e2 e3
  subst e1
  obtain ⟨b, o, av, ea, hb, c0, c1, c2, c3, c4, hl⟩ := hx i ts[i] (List.getElem?_eq_getElem hi)
  obtain ⟨n1, n2, n3⟩ := hn _ (List.getElem_mem hi)
  obtain ⟨aa, ad, rfl, g1, g2, gx⟩ := hl
  refine ⟨b, o, _, aa, _, ad, ea, hb.1, hb.2, c1, by omega, c3, n2, g1, fun j hj => ?_⟩
  obtain ⟨b', o', ea', hb', k1, k2⟩ := gx j ts[i].attrs[j] (List.getElem?_eq_getElem hj)
  exact ⟨b', o', _, ea', hb'.1, hb'.2, k1, by have := n3 _ (List.getElem_mem hj); omega⟩
theorem Sp.Rel.below {R : Nat → Prop} {n lo : Nat} {w w' : World} (h : Sp.Rel R n w w') (hR : ∀ k, R k → lo ≤ k) : Below lo w w' := ⟨h.os, h.tape, h.output, Nat.le_of_eq h.size.symm, fun k hk => h.out k (fun q => by have := hR k q; omega)⟩
end Go.Proofs.YtjbkgokiikbaeaaGreatDoor
/-
  WHAT ALL CARDS OF THIS SEAT SHARE: the cell of internal/bytealg.MaxLen in a world of the program's shape, and a world for the witness in which the listed tables lie.
-/
namespace Go.Proofs.YtjbkgokiikbaeaaGreatDoor
open Go.ChangeShapes Go.WideShapes Go.ChangeAt Go.RowKit

theorem Fr.own : ownKnob Tryz.prog.godebug = none := by kernel_rfl
/-- in a world of the program's shape MaxLen holds some int -/
theorem Fr.maxLen {W : World} (h : W.ShapedOpen Tryz.prog) : ∃ m, W.cell? ⟨0, 0, none⟩ = some (.int .i64 m) :=
  Go.Proofs.cell_of_shapedOpen_int (zero := #[.int .i64 0]) (t := 3) h (of_decide_eq_true (by kernel_rfl)) (by kernel_rfl) rfl (by kernel_rfl) (by kernel_rfl) Tryz.underlying3
/-- a block's cells, laid anew -/
def Fr.put (cs : List Nat) : Obj → Obj
  | .cells _ t frozen => .cells (cs.map fun z : Nat => Value.int .u8 z).toArray t frozen
  | o => o
def Fr.ranges : List Nat := [128, 191, 160, 191, 128, 159, 144, 191, 128, 143, 0, 0, 0, 0, 0, 0, 0, 0, 0, 0, 0, 0, 0, 0, 0, 0, 0, 0, 0, 0, 0, 0]
/-- FOR THE WITNESS's WORLD: the two tables holding what their initialisers lay. -/
def Fr.lay (w : World) : World := { w with heap := (w.heap.modify 1 (Fr.put Pinned.utf8FirstZ)).modify 2 (Fr.put Fr.ranges) }
/-- what an argument's kind says of it -/
theorem Fr.i64 {n : Int} (h : (Lit.int .i64 n).wf = true) : -9223372036854775808 ≤ n ∧ n ≤ 9223372036854775807 := by
  simp [Lit.wf, IntKind.min, IntKind.max, IntKind.signed, IntKind.bits] at h
  omega
end Go.Proofs.YtjbkgokiikbaeaaGreatDoor
/-
  THE WALK of stolelaw5.Tokens: whatever the page, the call returns true.
-/
namespace Go.Proofs.YtjbkgokiikbaeaaGreatDoor
open Go.RowKit
theorem Lt.nil (w : World) (R : Nat → Prop) : Tk.Lies w R [] (.slice none 0 0) := ⟨none, 0, rfl, Nat.le_refl _, Nat.zero_le _, fun j x h => by simp at h⟩
theorem Lt.cell {w w' : World} {g : Nat} {v : Value} (hb : Below w.heap.size w w') (hc : w.cell? ⟨g, 0, none⟩ = some v) : w'.cell? ⟨g, 0, none⟩ = some v := (hb.cell (p := ⟨g, 0, none⟩) (World.block_lt_of_cell? _ _ hc)).trans hc
set_option maxRecDepth 100000 in
set_option maxHeartbeats 4000000 in
theorem Law.tokensLong (page : ByteArray) (m : Int) (w : World) (hm : w.cell? ⟨0, 0, none⟩ = some (.int .i64 m)) (hs : page.size ≤ maxLen) (h : 65536 < page.size) :
    Calls Tryz.prog 4 #[.string page] w fun e w' => e = .returned (.bool true) ∧ Below w.heap.size w w' := by
  have c1 := fun u => Tk.long page u h hs
  have c2 := fun u => Rk.long page u h hs
  have c3 := fun u => Sa.tokens [] (.slice none 0 0) (.slice none 0 0) (fun _ => True) (fun _ => True) u (Lt.nil _ _) (Lt.nil _ _)
  have c5 := fun u => Sp.tokens (fun _ => False) none 0 0 u (fun i hi => absurd hi (Nat.not_lt_zero i)) (by decide) (Nat.le_refl _)
  have aw := fun (u : World) (hb : Below w.heap.size w u) => Aw.awake m u (Lt.cell hb hm)
  have q0 : Below w.heap.size w w := Below.refl _ _
  clear h hs hm
  go_enter Tryz.func4, Tryz.ntmps4
  go_wp2_with (first | (go_at_call 11; refine (c1 _).mono ?_; rintro e w' ⟨rfl, hw⟩; have hw := hw.symm; subst hw) | (go_at_call 12; refine (c2 _).mono ?_; rintro e w' ⟨rfl, hw⟩; have hw := hw.symm; subst hw; clear c2) | (go_at_call 14; refine (Aw.num _ _).mono ?_; rintro e w' ⟨rfl, hw⟩; have hw := hw.symm; subst hw) | (go_at_call 15; refine (c5 _).mono ?_; rintro e w5 ⟨rfl, hR5⟩; have q2 := q1.trans (hR5.below (lo := w.heap.size) (fun _ q => q.elim)); clear c5 hR5) | (go_at_call 13; refine (c3 _).mono ?_; (first | (have q3 := q2; rintro e w' ⟨rfl, n3, hw⟩; have hw := hw.symm; subst hw; have q4 := Sa.drews q2 n3; clear q3 q2) | (rintro e w' ⟨rfl, n1, hw⟩; have hw := hw.symm; subst hw; have q1 := Sa.drews q0 n1; clear q0))) | (go_at_call 7; refine (aw _ q4).mono ?_; rintro e w6 ⟨rfl, hb6⟩; have q6 := q4.trans (hb6.mono q4.size); clear hb6 aw))
  go_ret
  exact ⟨rfl, q6⟩
theorem Lt.form {w : World} {R : Nat → Prop} {ts : List Tk} {v : Value} (h : Tk.Lies w R ts v) : ∃ a d, v = .slice a ts.length d ∧ ts.length ≤ d := by
  obtain ⟨a, d, e, h1, h2, hx⟩ := h
  exact ⟨a, d, e, h1⟩
set_option maxRecDepth 100000 in
set_option maxHeartbeats 4000000 in
theorem Law.tokensShort (page : ByteArray) (m : Int) (w : World) (hm : w.cell? ⟨0, 0, none⟩ = some (.int .i64 m)) (h : page.size ≤ 65536) :
    Calls Tryz.prog 4 #[.string page] w fun e w' => e = .returned (.bool true) ∧ Below w.heap.size w w' := by
  have t1 := Tk.shortU page m w h hm
  have t2 := fun u => Rk.short page u h
  have t3 := fun (u : World) (hb : Below w.heap.size w u) => Tk.short page m u h (Lt.cell hb hm)
  have aw := fun (u : World) (hb : Below w.heap.size w u) => Aw.awake m u (Lt.cell hb hm)
  have hni := Rf.Nice.tokens page
  have hsm : (Rd.tokens page).length ≤ 1000000 := by
    have := Rf.tokens_small page
    have e : (Rd.page page).size ≤ 65536 := by
      have := Li.lines_len page.data.toList
      rw [Wk.len_data] at this
      rw [← Wk.len_data, show (Rd.page page).data.toList = Rd.lines page.data.toList by unfold Rd.page; exact List.toList_toArray]
      omega
    omega
  generalize Rd.tokens page = TS at *
  clear h hm
  go_enter Tryz.func4, Tryz.ntmps4
  go_wp2_with (first | (go_at_call 11; refine t1.mono ?_; rintro e w1 ⟨v1, rfl, l1, b1⟩; clear t1; obtain ⟨a1, d1, rfl, z1⟩ := Lt.form l1) | (go_at_call 12; refine (t2 _).mono ?_; rintro e w2 ⟨v2, rfl, l2, b2⟩; clear t2; obtain ⟨a2, d2, rfl, z2⟩ := Lt.form l2; have q2 : Below w.heap.size w w2 := b1.trans (b2.mono b1.size); have L1 : Tk.Lies w2 (fun k => (w.heap.size ≤ k ∧ k < w1.heap.size) ∧ Rm.Ub w2 k) TS (.slice a1 TS.length d1) := l1.on (fun k hk => ⟨⟨⟨hk.1, hk.2.1⟩, hk.2.2.on (b2.block k hk.2.1)⟩, b2.block k hk.2.1⟩); have s1 := Sa.tokens TS _ _ _ _ w2 L1 l2; clear l1 b1 b2) | (go_at_call 13; refine s1.mono ?_; rintro e w' ⟨rfl, n1, hw⟩; have hw := hw.symm; subst hw; clear s1; have q3 := Sa.drews q2 n1; have sp := Sp.tokens (fun k => w.heap.size ≤ k ∧ k < w1.heap.size) a1 TS.length d1 (w2.drewN n1) (Sp.Toks.of (w := w2.drewN n1) L1 hni) hsm z1; have L2 : Tk.Lies (w2.drewN n1) (fun k => w1.heap.size ≤ k ∧ k < w2.heap.size) TS (.slice a2 TS.length d2) := l2; clear L1 l2 q2) | (go_at_call 14; refine (Aw.num _ _).mono ?_; rintro e w' ⟨rfl, hw⟩; have hw := hw.symm; subst hw) | (go_at_call 15; refine sp.mono ?_; rintro e w4 ⟨rfl, hR4⟩; clear sp; have q4 : Below w.heap.size w w4 := q3.trans (hR4.below (fun _ q => q.1)); have L4 : Tk.Lies w4 (fun k => w1.heap.size ≤ k ∧ k < w4.heap.size) TS (.slice a2 TS.length d2) := L2.on (fun k hk => ⟨⟨hk.1, (by have e4 : w4.heap.size = w2.heap.size := hR4.size; omega)⟩, hR4.out k (fun q => by omega)⟩); have t4 := t3 w4 q4; clear t3 L2 q3 hR4) | (go_at_call 11; refine t4.mono ?_; rintro e w5 ⟨v5, rfl, l5, b5⟩; clear t4; have q5 : Below w.heap.size w w5 := q4.trans (b5.mono q4.size); have L5 : Tk.Lies w5 (fun k => w1.heap.size ≤ k ∧ k < w5.heap.size) TS (.slice a2 TS.length d2) := L4.on (fun k hk => ⟨⟨hk.1, Nat.lt_of_lt_of_le hk.2 b5.size⟩, b5.block k hk.2⟩); have s5 := Sa.tokens TS _ _ _ _ w5 l5 L5; obtain ⟨a5, d5, rfl, z5⟩ := Lt.form l5; clear l5 L4 L5 b5 q4) | (go_at_call 13; refine s5.mono ?_; rintro e w' ⟨rfl, n5, hw⟩; have hw := hw.symm; subst hw; clear s5; have q6 := Sa.drews q5 n5; have aw6 := aw _ q6; clear q5 aw) | (go_at_call 7; refine aw6.mono ?_; rintro e w6 ⟨rfl, hb6⟩; have q7 := q6.trans (hb6.mono q6.size); clear hb6 aw6))
  go_ret
  exact ⟨rfl, q7⟩
theorem Law.tokens (page : ByteArray) (m : Int) (w : World) (hm : w.cell? ⟨0, 0, none⟩ = some (.int .i64 m)) (hs : page.size ≤ reachBytes) :
    Calls Tryz.prog 4 #[.string page] w fun e w' => e = .returned (.bool true) ∧ Below w.heap.size w w' := by
  by_cases h : page.size ≤ 65536
  · exact Law.tokensShort page m w hm h
  · exact Law.tokensLong page m w hm (Nat.le_trans hs (by decide)) (by omega)
end Go.Proofs.YtjbkgokiikbaeaaGreatDoor

/-
  THE LANDED READER in memory; the walks of peek, skip, take, word, isDigit, digitOfSixteen.
-/
import Derived.Test.YtiajclmhimkpnaaDoorBJRd2toJRh
import Derived.Test.YtiajclmhimkpnaaDoorBQPlaintoNorm
import Derived.Test.YtiajclmhimkpnaaDoorBRPlaintoSign
import Derived.WalkLawsBesides
import Derived.Deep.QuietTactic
import Derived.Test.YtiajclmhimkpnaaDoorBShelf10toJEw
import Derived.Laws.Bits64b
import Derived.Deep.RegionWith
import Derived.Lib.Hide
namespace Go.Proofs.YtiajclmhimkpnaaDoor
open Go.RowKit
/-- what the reader throws -/
def Jr.fault : List PanicEntry := [{ v := .iface 30 (.int .i64 1000), recovered := false }]
/-- the reader's two cells: its text, and the place behind which l stands -/
def Jr.Rd (w : World) (g : Nat) (T : ByteArray) (l : List UInt8) : Prop :=
  ∃ i : Nat, i ≤ T.size ∧ T.data.toList.drop i = l ∧ T.size ≤ 65536 ∧ Bs.Box w g #[.string T, .int .i64 (i : Int)] 60
theorem Jr.grown_trans {a b c : World} {g : Option Nat} (h : a.grownBy b g) (k : b.grownBy c g) : a.grownBy c g :=
  ⟨k.os.trans h.os, k.tape.trans h.tape, k.output.trans h.output, Nat.le_trans h.size k.size, fun i hi hne => (k.block i (Nat.lt_of_lt_of_le hi h.size) hne).trans (h.block i hi hne)⟩
theorem Jr.grown_some {a b : World} (h : a.grownBy b none) (g : Option Nat) : a.grownBy b g := ⟨h.os, h.tape, h.output, h.size, fun i hi _ => h.block i hi (by simp)⟩
theorem Jr.grown_drew (w : World) : w.grownBy w.drew none := ⟨rfl, rfl, rfl, Nat.le_refl _, fun _ _ _ => rfl⟩
theorem Jr.grown_drewN (w : World) (n : Nat) : w.grownBy (w.drewN n) none := ⟨rfl, rfl, rfl, Nat.le_refl _, fun _ _ _ => rfl⟩
theorem Jr.grown_below {a b : World} (h : Below a.heap.size a b) : a.grownBy b none := ⟨h.os, h.tape, h.output, h.size, fun i hi _ => h.block i hi⟩
theorem Jr.below_grown {a b : World} (h : a.grownBy b none) : Below a.heap.size a b := ⟨h.os, h.tape, h.output, h.size, fun i hi => h.block i hi (by simp)⟩
theorem Jr.grown_set (w : World) (g i : Nat) (v : Value) : w.grownBy (w.setCell ⟨g, i, none⟩ v) (some g) :=
  ⟨rfl, rfl, rfl, by simp [World.setCell], fun k _ hk => Below.heap_setCell _ _ _ _ (fun q => hk (by rw [q]))⟩
theorem Jr.Rd.lt {w : World} {g : Nat} {T : ByteArray} {l : List UInt8} (h : Jr.Rd w g T l) : g < w.heap.size := by
  obtain ⟨i, _, _, _, hB⟩ := h
  exact hB.lt
theorem Jr.Rd.on {w w' : World} {g : Nat} {T : ByteArray} {l : List UInt8} (h : Jr.Rd w g T l) (hb : w.grownBy w' none) : Jr.Rd w' g T l := by
  obtain ⟨i, h1, h2, h3, hB⟩ := h
  exact ⟨i, h1, h2, h3, (hb.block g hB.lt (by simp)).trans hB⟩
theorem Jr.at_end {T : ByteArray} {i : Nat} (hi : i ≤ T.size) (h : T.data.toList.drop i = []) : i = T.size := by
  have := congrArg List.length h
  rw [List.length_drop, Wk.len_data] at this
  simp only [List.length_nil] at this
  omega
theorem Jr.at_byte {T : ByteArray} {i : Nat} {c : UInt8} {r : List UInt8} (h : T.data.toList.drop i = c :: r) : ∃ hlt : i < T.size, T[i] = c ∧ T.data.toList.drop (i + 1) = r := by
  have hl := congrArg List.length h
  rw [List.length_drop, Wk.len_data, List.length_cons] at hl
  have hlt : i < T.size := by omega
  refine ⟨hlt, ?_, ?_⟩
  · have e : (T.data.toList.drop i)[0]? = some c := by rw [h]; rfl
    rw [List.getElem?_drop, Nat.add_zero, List.getElem?_eq_getElem (by rw [Wk.len_data]; exact hlt)] at e
    injection e with e
  · rw [← List.drop_drop, h]
    rfl
set_option maxRecDepth 100000 in
set_option maxHeartbeats 1000000 in
theorem Jr.peek (l : List UInt8) (g : Nat) (T : ByteArray) (w : World) (h : Jr.Rd w g T l) :
    Calls Tryd.prog 39 #[.pointer (some ⟨g, 0, none⟩)] w fun e w' => e = .returned (.int .u8 ((l.headD 0).toNat : Int)) ∧ w.grownBy w' none := by
  obtain ⟨i, h1, h2, h3, hB⟩ := h
  have c0 : w.cell? ⟨g, 0, none⟩ = some (.string T) := hB.cell 0 rfl
  have c1 : w.cell? ⟨g, 1, none⟩ = some (.int .i64 (i : Int)) := hB.cell 1 rfl
  clear hB
  cases l with
  | nil =>
    have e := Jr.at_end h1 h2
    have d1 : ((i : Int) == (T.size : Int)) = true := beq_iff_eq.2 (by omega)
    clear h1 h2 e
    go_enter Tryd.func39, Tryd.ntmps39
    go_wp2
    go_quiet (fail)
    go_wp2
    go_ret
    exact ⟨rfl, Jr.grown_drewN _ _⟩
  | cons c r =>
    obtain ⟨hlt, e, -⟩ := Jr.at_byte h2
    have d1 : ((i : Int) == (T.size : Int)) = false := beq_eq_false_iff_ne.2 (by omega)
    rw [List.headD_cons, ← e]
    clear h1 h2 e
    go_enter Tryd.func39, Tryd.ntmps39
    go_wp2
    go_quiet (fail)
    go_wp2
    go_quiet (fail)
    go_wp2
    go_ret
    exact ⟨rfl, Jr.grown_trans (Jr.grown_drewN _ _) (Jr.grown_drewN _ _)⟩
/-- one byte on -/
theorem Jr.Rd.step {w w' : World} {g : Nat} {T : ByteArray} {i : Nat} (h3 : T.size ≤ 65536) (hB : Bs.Box w g #[.string T, .int .i64 (i : Int)] 60) (hb : w.grownBy w' none) (n : Nat) (hn : i + n ≤ T.size) {r' : List UInt8} (hr : r' = T.data.toList.drop (i + n)) : Jr.Rd (w'.setCell ⟨g, 1, none⟩ (.int .i64 ((i : Int) + n))) g T r' := by
  have hB2 : Bs.Box w' g #[.string T, .int .i64 (i : Int)] 60 := (hb.block g hB.lt (by simp)).trans hB
  refine ⟨i + n, hn, hr.symm, h3, ?_⟩
  have := hB2.set 1 (.int .i64 ((i : Int) + n))
  exact this
set_option maxRecDepth 100000 in
set_option maxHeartbeats 1000000 in
theorem Jr.skip_no (l : List UInt8) (c : UInt8) (hc : l.headD 0 ≠ c) (g : Nat) (T : ByteArray) (w : World) (h : Jr.Rd w g T l) :
    Calls Tryd.prog 45 #[.pointer (some ⟨g, 0, none⟩), .int .u8 (c.toNat : Int)] w fun e w' => e = .returned (.bool false) ∧ w.grownBy w' none := by
  have pk := Jr.peek l g T w h
  have d1 : (((l.headD 0).toNat : Int) != (c.toNat : Int)) = true := bne_iff_ne.2 (fun q => hc (UInt8.toNat_inj.1 (by omega)))
  clear h hc
  generalize ((l.headD 0).toNat : Int) = x at *
  generalize (c.toNat : Int) = y at *
  go_enter Tryd.func45, Tryd.ntmps45
  go_wp2_with (go_at_call 39; refine pk.mono ?_; rintro e w1 ⟨rfl, b1⟩)
  go_ret
  exact ⟨rfl, b1⟩
set_option maxRecDepth 100000 in
set_option maxHeartbeats 1000000 in
theorem Jr.skip_yes (c : UInt8) (r : List UInt8) (g : Nat) (T : ByteArray) (w : World) (h : Jr.Rd w g T (c :: r)) :
    Calls Tryd.prog 45 #[.pointer (some ⟨g, 0, none⟩), .int .u8 (c.toNat : Int)] w fun e w' => e = .returned (.bool true) ∧ w.grownBy w' (some g) ∧ Jr.Rd w' g T r := by
  have pk := Jr.peek (c :: r) g T w h
  rw [List.headD_cons] at pk
  obtain ⟨i, h1, h2, h3, hB⟩ := h
  obtain ⟨hlt, -, hr⟩ := Jr.at_byte h2
  generalize (c.toNat : Int) = y at *
  have HR := Lib.hid hr
  have HB := Lib.hid hB
  clear h1 h2 hr hB
  go_enter Tryd.func45, Tryd.ntmps45
  go_wp2_with (go_at_call 39; refine pk.mono ?_; rintro e w1 ⟨rfl, b1⟩; have hB1 : Bs.Box w1 g #[.string T, .int .i64 (i : Int)] 60 := (b1.block g HB.out.lt (by simp)).trans HB.out; have c1 : w1.cell? ⟨g, 1, none⟩ = some (.int .i64 (i : Int)) := hB1.cell 1 rfl; have f1 := hB1.frozen 1; have HB1 := Lib.hid b1; clear hB1 b1 pk)
  go_ret
  exact ⟨rfl, Jr.grown_trans (Jr.grown_some HB1.out _) (Jr.grown_set _ _ _ _), Jr.Rd.step h3 HB.out HB1.out 1 hlt HR.out.symm⟩
set_option maxRecDepth 100000 in
set_option maxHeartbeats 1000000 in
theorem Jr.take (c : UInt8) (r : List UInt8) (g : Nat) (T : ByteArray) (w : World) (h : Jr.Rd w g T (c :: r)) :
    Calls Tryd.prog 52 #[.pointer (some ⟨g, 0, none⟩)] w fun e w' => e = .returned (.int .u8 (c.toNat : Int)) ∧ w.grownBy w' (some g) ∧ Jr.Rd w' g T r := by
  obtain ⟨i, h1, h2, h3, hB⟩ := h
  obtain ⟨hlt, he, hr⟩ := Jr.at_byte h2
  have c0 : w.cell? ⟨g, 0, none⟩ = some (.string T) := hB.cell 0 rfl
  have c1 : w.cell? ⟨g, 1, none⟩ = some (.int .i64 (i : Int)) := hB.cell 1 rfl
  have f1 := hB.frozen 1
  have d1 : ((i : Int) == (T.size : Int)) = false := beq_eq_false_iff_ne.2 (by omega)
  rw [← he]
  have HR := Lib.hid hr
  have HB := Lib.hid hB
  clear h1 h2 hr hB he
  go_enter Tryd.func52, Tryd.ntmps52
  go_wp2
  go_quiet (fail)
  go_wp2
  go_quiet (fail)
  go_wp2
  go_ret
  exact ⟨rfl, Jr.grown_trans (Jr.grown_some (Jr.grown_drewN _ _) _) (Jr.grown_set _ _ _ _), Jr.Rd.step h3 HB.out (Jr.grown_drewN _ _) 1 hlt HR.out.symm⟩
set_option maxRecDepth 100000 in
set_option maxHeartbeats 1000000 in
theorem Jr.take_end (g : Nat) (T : ByteArray) (w : World) (h : Jr.Rd w g T []) :
    Calls Tryd.prog 52 #[.pointer (some ⟨g, 0, none⟩)] w fun e w' => e = .panicked Jr.fault ∧ w.grownBy w' (some g) := by
  obtain ⟨i, h1, h2, h3, hB⟩ := h
  have e := Jr.at_end h1 h2
  have c0 : w.cell? ⟨g, 0, none⟩ = some (.string T) := hB.cell 0 rfl
  have c1 : w.cell? ⟨g, 1, none⟩ = some (.int .i64 (i : Int)) := hB.cell 1 rfl
  have d1 : ((i : Int) == (T.size : Int)) = true := beq_iff_eq.2 (by omega)
  clear h1 h2 e hB
  go_enter Tryd.func52, Tryd.ntmps52
  go_wp2
  go_quiet (fail)
  go_wp2
  exact ⟨rfl, rfl, Jr.grown_some (Jr.grown_drewN _ _) _⟩
end Go.Proofs.YtiajclmhimkpnaaDoor
/-
  THE WALKS of the landed reader: word, isDigit, digitOfSixteen, skipBlanks, unit.
-/
namespace Go.Proofs.YtiajclmhimkpnaaDoor
open Go.RowKit
theorem Jr.run_from (w : World) (s : ByteArray) (l : Int) (h0 : 0 ≤ l) (h1 : l ≤ s.size) :
    (Instr.slice 9 (.string s) (some (.int .i64 l)) none none).run Tryd.prog w = .ok (.string (s.extract l.toNat s.size)) w := by
  simp [Instr.slice, run_underlying Tryd.underlying9, Instr.sliceBounds, run_sliceBound, h0, h1]
set_option maxRecDepth 100000 in
set_option maxHeartbeats 1000000 in
theorem Jr.word_no (p : ByteArray) (l : List UInt8) (hp : Pl.pre p.data.toList l = false) (g : Nat) (T : ByteArray) (w : World) (h : Jr.Rd w g T l) :
    Calls Tryd.prog 40 #[.pointer (some ⟨g, 0, none⟩), .string p] w fun e w' => e = .panicked Jr.fault ∧ w.grownBy w' (some g) := by
  obtain ⟨i, h1, h2, h3, hB⟩ := h
  have c0 : w.cell? ⟨g, 0, none⟩ = some (.string T) := hB.cell 0 rfl
  have c1 : w.cell? ⟨g, 1, none⟩ = some (.int .i64 (i : Int)) := hB.cell 1 rfl
  have hs := fun u => Jr.run_from u T (i : Int) (by omega) (by omega)
  have hpx : ∀ u, Calls Tryd.prog 51 #[.string (T.extract i T.size), .string p] u fun e w' => e = .returned (.bool false) ∧ w' = u := fun u => by
    have := Sh.strings_HasPrefix (T.extract i T.size) p u
    rw [Wk.rest_data, h2, show Lib.hasPrefix l p.data.toList = false from hp] at this
    exact this
  have ei : ((i : Int)).toNat = i := by omega
  rw [ei] at hs
  clear h2 hp hB
  generalize T.extract i T.size = X at *
  go_enter Tryd.func40, Tryd.ntmps40
  go_wp2_with fail
  go_quiet (first | (go_at_call 51; exact Calls.quiet_of_same (hpx _)))
  go_wp2
  exact ⟨rfl, rfl, Jr.grown_some (Jr.grown_drewN _ _) _⟩
set_option maxRecDepth 100000 in
set_option maxHeartbeats 1000000 in
theorem Jr.word (p : ByteArray) (l : List UInt8) (hp : Pl.pre p.data.toList l = true) (g : Nat) (T : ByteArray) (w : World) (h : Jr.Rd w g T l) :
    Calls Tryd.prog 40 #[.pointer (some ⟨g, 0, none⟩), .string p] w fun e w' => e = .returned (.tuple #[]) ∧ w.grownBy w' (some g) ∧ Jr.Rd w' g T (l.drop p.size) := by
  obtain ⟨i, h1, h2, h3, hB⟩ := h
  have c0 : w.cell? ⟨g, 0, none⟩ = some (.string T) := hB.cell 0 rfl
  have c1 : w.cell? ⟨g, 1, none⟩ = some (.int .i64 (i : Int)) := hB.cell 1 rfl
  have f1 := hB.frozen 1
  have hs := fun u => Jr.run_from u T (i : Int) (by omega) (by omega)
  have hpx : ∀ u, Calls Tryd.prog 51 #[.string (T.extract i T.size), .string p] u fun e w' => e = .returned (.bool true) ∧ w' = u := fun u => by
    have := Sh.strings_HasPrefix (T.extract i T.size) p u
    rw [Wk.rest_data, h2, show Lib.hasPrefix l p.data.toList = true from hp] at this
    exact this
  have ei : ((i : Int)).toNat = i := by omega
  have hle : i + p.size ≤ T.size := by
    obtain ⟨r, e⟩ := (Pl.pre_iff _ _).1 hp
    have q := congrArg List.length h2
    rw [List.length_drop, Wk.len_data, e, List.length_append, Wk.len_data] at q
    omega
  have HR : Hid (l.drop p.size = T.data.toList.drop (i + p.size)) := by
    unfold Hid
    rw [← h2, List.drop_drop]
  rw [ei] at hs
  have HB := Lib.hid hB
  clear h2 hp hB
  generalize T.extract i T.size = X at *
  go_enter Tryd.func40, Tryd.ntmps40
  go_wp2_with fail
  go_quiet (first | (go_at_call 51; exact Calls.quiet_of_same (hpx _)))
  go_wp2
  go_end0
  exact ⟨rfl, Jr.grown_trans (Jr.grown_some (Jr.grown_drewN _ _) _) (Jr.grown_set _ _ _ _), Jr.Rd.step h3 HB.out (Jr.grown_drewN _ _) p.size hle HR.out⟩
theorem Jr.isDigit (c : UInt8) (w : World) : Calls Tryd.prog 61 #[.int .u8 (c.toNat : Int)] w fun e w' => e = .returned (.bool (Pl.digit c)) ∧ w' = w := by
  unfold Pl.digit
  generalize c.toNat = m
  by_cases h1 : 48 ≤ m
  · by_cases h2 : m ≤ 57
    · rw [decide_eq_true h1, decide_eq_true h2]
      go_enter Tryd.func61, Tryd.ntmps61
      go_wp2
      go_ret
      exact ⟨by first | rfl | (simp; omega), rfl⟩
    · rw [decide_eq_true h1, decide_eq_false h2]
      go_enter Tryd.func61, Tryd.ntmps61
      go_wp2
      go_ret
      exact ⟨by first | rfl | (simp; omega), rfl⟩
  · rw [decide_eq_false h1]
    go_enter Tryd.func61, Tryd.ntmps61
    go_wp2
    go_ret
    exact ⟨by first | rfl | (simp; omega), rfl⟩
set_option maxRecDepth 100000 in
set_option maxHeartbeats 1000000 in
theorem Jr.sixteen (c : UInt8) (hc : Pl.dig c < 16) (w : World) : Calls Tryd.prog 63 #[.int .u8 (c.toNat : Int)] w fun e w' => e = .returned (.int .i32 (Pl.dig c : Int)) ∧ w' = w := by
  have di := Jr.isDigit c
  have hq : (Pl.digit c = true ∧ 48 ≤ c.toNat ∧ c.toNat ≤ 57 ∧ Pl.dig c = c.toNat - 48) ∨ (Pl.digit c = false ∧ 97 ≤ c.toNat ∧ c.toNat ≤ 102 ∧ Pl.dig c = c.toNat - 87) ∨ (Pl.digit c = false ∧ 65 ≤ c.toNat ∧ c.toNat ≤ 70 ∧ Pl.dig c = c.toNat - 55) := by
    have := Ug.all (p := fun c => !decide (Pl.dig c < 16) || decide ((Pl.digit c = true ∧ 48 ≤ c.toNat ∧ c.toNat ≤ 57 ∧ Pl.dig c = c.toNat - 48) ∨ (Pl.digit c = false ∧ 97 ≤ c.toNat ∧ c.toNat ≤ 102 ∧ Pl.dig c = c.toNat - 87) ∨ (Pl.digit c = false ∧ 65 ≤ c.toNat ∧ c.toNat ≤ 70 ∧ Pl.dig c = c.toNat - 55))) (by decide +kernel) c
    rw [decide_eq_true hc] at this
    simpa using this
  clear hc
  generalize Pl.dig c = D at *
  generalize Pl.digit c = b at *
  generalize c.toNat = m at *
  rcases hq with ⟨rfl, h1, h2, rfl⟩ | ⟨rfl, h1, h2, rfl⟩ | ⟨rfl, h1, h2, rfl⟩
  · have e1 : IntKind.u8.wrap ((m : Int) - 48) = (m : Int) - 48 := by rw [IntKind.wrap_u8]; omega
    have e2 : ((m - 48 : Nat) : Int) = (m : Int) - 48 := by omega
    go_enter Tryd.func63, Tryd.ntmps63
    go_wp2_with (go_at_call 61; refine (di _).mono ?_; rintro e w' ⟨rfl, hw⟩; have hw := hw.symm; subst hw)
    go_ret
    exact ⟨by rw [e2]; rfl, rfl⟩
  · have d1 : decide ((97 : Int) ≤ (m : Int)) = true := decide_eq_true (by omega)
    have d2 : decide ((m : Int) ≤ 102) = true := decide_eq_true (by omega)
    have e2 : ((m - 87 : Nat) : Int) = (m : Int) - 97 + 10 := by omega
    go_enter Tryd.func63, Tryd.ntmps63
    go_wp2_with (go_at_call 61; refine (di _).mono ?_; rintro e w' ⟨rfl, hw⟩; have hw := hw.symm; subst hw)
    go_ret
    exact ⟨by rw [e2]; rfl, rfl⟩
  · have d1 : decide ((97 : Int) ≤ (m : Int)) = false := decide_eq_false (by omega)
    have d3 : decide ((65 : Int) ≤ (m : Int)) = true := decide_eq_true (by omega)
    have d2 : decide ((m : Int) ≤ 70) = true := decide_eq_true (by omega)
    have e2 : ((m - 55 : Nat) : Int) = (m : Int) - 65 + 10 := by omega
    go_enter Tryd.func63, Tryd.ntmps63
    go_wp2_with (go_at_call 61; refine (di _).mono ?_; rintro e w' ⟨rfl, hw⟩; have hw := hw.symm; subst hw)
    go_ret
    exact ⟨by rw [e2]; rfl, rfl⟩
end Go.Proofs.YtiajclmhimkpnaaDoor
/-
  THE WALKS of the landed reader: skipBlanks, unit, numbered, escaped.
-/
namespace Go.Proofs.YtiajclmhimkpnaaDoor
open Go.RowKit
/-- what a reading function does: it gives what it read and stands behind it, or throws -/
def Jr.Out {α : Type} (o : Option (α × List UInt8)) (f : α → Value) (w : World) (g : Nat) (T : ByteArray) (e : Ending) (w' : World) : Prop :=
  match o with
  | none => e = .panicked Jr.fault ∧ w.grownBy w' (some g)
  | some (a, r) => e = .returned (f a) ∧ w.grownBy w' (some g) ∧ Jr.Rd w' g T r
set_option maxRecDepth 100000 in
set_option maxHeartbeats 1000000 in
theorem Jr.sixteen_no (c : UInt8) (hc : ¬ Pl.dig c < 16) (w : World) : Calls Tryd.prog 63 #[.int .u8 (c.toNat : Int)] w fun e w' => e = .panicked Jr.fault ∧ w' = w := by
  have di := Jr.isDigit c
  have hq : Pl.digit c = false ∧ (c.toNat < 97 ∨ 102 < c.toNat) ∧ (c.toNat < 65 ∨ 70 < c.toNat) := by
    have := Ug.all (p := fun c => decide (Pl.dig c < 16) || decide (Pl.digit c = false ∧ (c.toNat < 97 ∨ 102 < c.toNat) ∧ (c.toNat < 65 ∨ 70 < c.toNat))) (by decide +kernel) c
    rw [decide_eq_false hc] at this
    simpa using this
  clear hc
  obtain ⟨h0, h1, h2⟩ := hq
  rw [h0] at di
  clear h0
  generalize c.toNat = m at *
  by_cases q1 : 97 ≤ m
  · have d1 : decide ((97 : Int) ≤ (m : Int)) = true := decide_eq_true (by omega)
    have d2 : decide ((m : Int) ≤ 102) = false := decide_eq_false (by omega)
    have d3 : decide ((65 : Int) ≤ (m : Int)) = true := decide_eq_true (by omega)
    have d4 : decide ((m : Int) ≤ 70) = false := decide_eq_false (by omega)
    clear h1 h2
    go_enter Tryd.func63, Tryd.ntmps63
    go_wp2_with (go_at_call 61; refine (di _).mono ?_; rintro e w' ⟨rfl, hw⟩; have hw := hw.symm; subst hw)
    exact ⟨rfl, rfl, rfl⟩
  · have d1 : decide ((97 : Int) ≤ (m : Int)) = false := decide_eq_false (by omega)
    by_cases q2 : 65 ≤ m
    · have d3 : decide ((65 : Int) ≤ (m : Int)) = true := decide_eq_true (by omega)
      have d4 : decide ((m : Int) ≤ 70) = false := decide_eq_false (by omega)
      clear h1 h2
      go_enter Tryd.func63, Tryd.ntmps63
      go_wp2_with (go_at_call 61; refine (di _).mono ?_; rintro e w' ⟨rfl, hw⟩; have hw := hw.symm; subst hw)
      exact ⟨rfl, rfl, rfl⟩
    · have d3 : decide ((65 : Int) ≤ (m : Int)) = false := decide_eq_false (by omega)
      clear h1 h2
      go_enter Tryd.func63, Tryd.ntmps63
      go_wp2_with (go_at_call 61; refine (di _).mono ?_; rintro e w' ⟨rfl, hw⟩; have hw := hw.symm; subst hw)
      exact ⟨rfl, rfl, rfl⟩
theorem Jr.skip (c : UInt8) (hc : c ≠ 0) (l : List UInt8) (g : Nat) (T : ByteArray) (w : World) (h : Jr.Rd w g T l) :
    Calls Tryd.prog 45 #[.pointer (some ⟨g, 0, none⟩), .int .u8 (c.toNat : Int)] w fun e w' => e = .returned (.bool (decide (l.headD 0 = c))) ∧ w.grownBy w' (some g) ∧ Jr.Rd w' g T (if l.headD 0 = c then l.tail else l) := by
  by_cases hq : l.headD 0 = c
  · rw [decide_eq_true hq, if_pos hq]
    cases l with
    | nil => exact absurd hq.symm hc
    | cons d r =>
      have hq : d = c := hq
      subst hq
      exact Jr.skip_yes d r g T w h
  · rw [decide_eq_false hq, if_neg hq]
    exact (Jr.skip_no l c hq g T w h).mono fun e w' ⟨h1, h2⟩ => ⟨h1, Jr.grown_some h2 _, h.on h2⟩
theorem Jr.ws_skip {c : UInt8} {l : List UInt8} (h : l.headD 0 = c) (hb : Js.blank c = true) : Js.ws l.tail = Js.ws l ∧ l.tail.length < l.length := by
  cases l with
  | nil => subst h; exact absurd hb (by decide)
  | cons d r =>
    have h : d = c := h
    subst h
    refine ⟨?_, by simp⟩
    unfold Js.ws
    rw [List.dropWhile_cons, if_pos hb]
    rfl
theorem Jr.ws_stop {l : List UInt8} (h : l.headD 0 ≠ 32 ∧ l.headD 0 ≠ 10 ∧ l.headD 0 ≠ 9 ∧ l.headD 0 ≠ 13) : Js.ws l = l := by
  cases l with
  | nil => rfl
  | cons d r =>
    have h : d ≠ 32 ∧ d ≠ 10 ∧ d ≠ 9 ∧ d ≠ 13 := h
    unfold Js.ws
    rw [List.dropWhile_cons, if_neg]
    unfold Js.blank
    simp [h.1, h.2.1, h.2.2.1, h.2.2.2]
set_option maxRecDepth 100000 in
set_option maxHeartbeats 2000000 in
theorem Jr.blanks (l : List UInt8) (g : Nat) (T : ByteArray) (w : World) (h : Jr.Rd w g T l) :
    Calls Tryd.prog 32 #[.pointer (some ⟨g, 0, none⟩)] w fun e w' => e = .returned (.tuple #[]) ∧ w.grownBy w' (some g) ∧ Jr.Rd w' g T (Js.ws l) := by
  have s32 : ∀ l u, Jr.Rd u g T l → Calls Tryd.prog 45 #[.pointer (some ⟨g, 0, none⟩), .int .u8 32] u fun e w' => e = .returned (.bool (decide (l.headD 0 = 32))) ∧ u.grownBy w' (some g) ∧ Jr.Rd w' g T (if l.headD 0 = 32 then l.tail else l) := fun l u h => Jr.skip 32 (by decide) l g T u h
  have s10 : ∀ l u, Jr.Rd u g T l → Calls Tryd.prog 45 #[.pointer (some ⟨g, 0, none⟩), .int .u8 10] u fun e w' => e = .returned (.bool (decide (l.headD 0 = 10))) ∧ u.grownBy w' (some g) ∧ Jr.Rd w' g T (if l.headD 0 = 10 then l.tail else l) := fun l u h => Jr.skip 10 (by decide) l g T u h
  have s9 : ∀ l u, Jr.Rd u g T l → Calls Tryd.prog 45 #[.pointer (some ⟨g, 0, none⟩), .int .u8 9] u fun e w' => e = .returned (.bool (decide (l.headD 0 = 9))) ∧ u.grownBy w' (some g) ∧ Jr.Rd w' g T (if l.headD 0 = 9 then l.tail else l) := fun l u h => Jr.skip 9 (by decide) l g T u h
  have s13 : ∀ l u, Jr.Rd u g T l → Calls Tryd.prog 45 #[.pointer (some ⟨g, 0, none⟩), .int .u8 13] u fun e w' => e = .returned (.bool (decide (l.headD 0 = 13))) ∧ u.grownBy w' (some g) ∧ Jr.Rd w' g T (if l.headD 0 = 13 then l.tail else l) := fun l u h => Jr.skip 13 (by decide) l g T u h
  obtain ⟨W, hW⟩ : ∃ W, Js.ws l = W := ⟨_, rfl⟩
  rw [hW]
  have HW := Lib.hid hW
  have HR := Lib.hid h
  clear hW h
  obtain ⟨rem, hrem⟩ : ∃ rem : World → Nat, rem = fun u => T.size - (match u.cell? ⟨g, 1, none⟩ with | some v => (intOf v).toNat | none => 0) := ⟨_, rfl⟩
  have HM : Hid (∀ (u : World) (l : List UInt8), Jr.Rd u g T l → rem u = l.length) := by
    intro u l hR
    obtain ⟨i, h1, h2, h3, hB⟩ := hR
    have c1 : u.cell? ⟨g, 1, none⟩ = some (.int .i64 (i : Int)) := hB.cell 1 rfl
    rw [hrem, ← h2, List.length_drop, Wk.len_data]
    simp only [c1]
    simp [intOf]
  clear hrem
  go_enter Tryd.func32, Tryd.ntmps32
  go_wp2_with fail
  go_loopw [] (fun wr => ∃ l' : List UInt8, Hid (Js.ws l' = W) ∧ Hid (Jr.Rd wr g T l') ∧ Hid (w.grownBy wr (some g))) (fun wr => rem wr)
  case atStart => exact ⟨l, HW, HR, World.grownBy.refl _ _⟩
  case round =>
    clear HW HR
    obtain ⟨l', HW, HR, HG⟩ := hrel
    have HL := Lib.hid (HM.out _ _ HR.out)
    by_cases h32 : l'.headD 0 = 32
    · have t1 := s32 l' _ HR.out
      rw [decide_eq_true h32, if_pos h32] at t1
      have HS := Lib.hid (Jr.ws_skip h32 (by decide))
      clear h32 s32 s10 s9 s13
      go_wp2_with (go_at_call 45; refine t1.mono ?_; rintro e w1 ⟨rfl, b1, r1⟩; have HB1 := Lib.hid (Jr.grown_trans HG.out b1); have HR1 := Lib.hid r1; clear b1 r1)
      go_roundw
      case rel => exact ⟨l'.tail, HS.out.1.trans HW.out, HR1, HB1⟩
      case measure => rw [HM.out _ _ HR1.out, HL.out]; exact HS.out.2
    · have t1 := s32 l' _ HR.out
      rw [decide_eq_false h32, if_neg h32] at t1
      have t2 := s10 l'
      by_cases h10 : l'.headD 0 = 10
      · rw [decide_eq_true h10, if_pos h10] at t2
        have HS := Lib.hid (Jr.ws_skip h10 (by decide))
        clear h32 h10 s32 s10 s9 s13
        go_wp2_with (first | (go_at_call_of 45 (Value.int .u8 32); refine t1.mono ?_; rintro e w1 ⟨rfl, b1, r1⟩; have HB1 := Lib.hid (Jr.grown_trans HG.out b1); replace t2 := t2 _ r1; clear b1 r1) | (go_at_call_of 45 (Value.int .u8 10); refine t2.mono ?_; rintro e w2 ⟨rfl, b2, r2⟩; have HB2 := Lib.hid (Jr.grown_trans HB1.out b2); have HR2 := Lib.hid r2; clear b2 r2))
        go_roundw
        case rel => exact ⟨l'.tail, HS.out.1.trans HW.out, HR2, HB2⟩
        case measure => rw [HM.out _ _ HR2.out, HL.out]; exact HS.out.2
      · rw [decide_eq_false h10, if_neg h10] at t2
        have t3 := s9 l'
        by_cases h9 : l'.headD 0 = 9
        · rw [decide_eq_true h9, if_pos h9] at t3
          have HS := Lib.hid (Jr.ws_skip h9 (by decide))
          clear h32 h10 h9 s32 s10 s9 s13
          go_wp2_with (first | (go_at_call_of 45 (Value.int .u8 32); refine t1.mono ?_; rintro e w1 ⟨rfl, b1, r1⟩; have HB1 := Lib.hid (Jr.grown_trans HG.out b1); replace t2 := t2 _ r1; clear b1 r1) | (go_at_call_of 45 (Value.int .u8 10); refine t2.mono ?_; rintro e w2 ⟨rfl, b2, r2⟩; have HB2 := Lib.hid (Jr.grown_trans HB1.out b2); replace t3 := t3 _ r2; clear b2 r2) | (go_at_call_of 45 (Value.int .u8 9); refine t3.mono ?_; rintro e w3 ⟨rfl, b3, r3⟩; have HB3 := Lib.hid (Jr.grown_trans HB2.out b3); have HR3 := Lib.hid r3; clear b3 r3))
          go_roundw
          case rel => exact ⟨l'.tail, HS.out.1.trans HW.out, HR3, HB3⟩
          case measure => rw [HM.out _ _ HR3.out, HL.out]; exact HS.out.2
        · rw [decide_eq_false h9, if_neg h9] at t3
          have t4 := s13 l'
          by_cases h13 : l'.headD 0 = 13
          · rw [decide_eq_true h13, if_pos h13] at t4
            have HS := Lib.hid (Jr.ws_skip h13 (by decide))
            clear h32 h10 h9 h13 s32 s10 s9 s13
            go_wp2_with (first | (go_at_call_of 45 (Value.int .u8 32); refine t1.mono ?_; rintro e w1 ⟨rfl, b1, r1⟩; have HB1 := Lib.hid (Jr.grown_trans HG.out b1); replace t2 := t2 _ r1; clear b1 r1) | (go_at_call_of 45 (Value.int .u8 10); refine t2.mono ?_; rintro e w2 ⟨rfl, b2, r2⟩; have HB2 := Lib.hid (Jr.grown_trans HB1.out b2); replace t3 := t3 _ r2; clear b2 r2) | (go_at_call_of 45 (Value.int .u8 9); refine t3.mono ?_; rintro e w3 ⟨rfl, b3, r3⟩; have HB3 := Lib.hid (Jr.grown_trans HB2.out b3); replace t4 := t4 _ r3; clear b3 r3) | (go_at_call_of 45 (Value.int .u8 13); refine t4.mono ?_; rintro e w4 ⟨rfl, b4, r4⟩; have HB4 := Lib.hid (Jr.grown_trans HB3.out b4); have HR4 := Lib.hid r4; clear b4 r4))
            go_roundw
            case rel => exact ⟨l'.tail, HS.out.1.trans HW.out, HR4, HB4⟩
            case measure => rw [HM.out _ _ HR4.out, HL.out]; exact HS.out.2
          · rw [decide_eq_false h13, if_neg h13] at t4
            have HS := Lib.hid (Jr.ws_stop ⟨h32, h10, h9, h13⟩)
            clear h32 h10 h9 h13 s32 s10 s9 s13
            go_wp2_with (first | (go_at_call_of 45 (Value.int .u8 32); refine t1.mono ?_; rintro e w1 ⟨rfl, b1, r1⟩; have HB1 := Lib.hid (Jr.grown_trans HG.out b1); replace t2 := t2 _ r1; clear b1 r1) | (go_at_call_of 45 (Value.int .u8 10); refine t2.mono ?_; rintro e w2 ⟨rfl, b2, r2⟩; have HB2 := Lib.hid (Jr.grown_trans HB1.out b2); replace t3 := t3 _ r2; clear b2 r2) | (go_at_call_of 45 (Value.int .u8 9); refine t3.mono ?_; rintro e w3 ⟨rfl, b3, r3⟩; have HB3 := Lib.hid (Jr.grown_trans HB2.out b3); replace t4 := t4 _ r3; clear b3 r3) | (go_at_call_of 45 (Value.int .u8 13); refine t4.mono ?_; rintro e w4 ⟨rfl, b4, r4⟩; have HB4 := Lib.hid (Jr.grown_trans HB3.out b4); have HR4 := Lib.hid r4; clear b4 r4))
            go_end0
            refine ⟨rfl, HB4.out, ?_⟩
            rw [← HW.out, HS.out]
            exact HR4.out
end Go.Proofs.YtiajclmhimkpnaaDoor

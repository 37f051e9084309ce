/-
  A SET OF BYTES BY BITS: the walks of byteset.Of and Has.
-/
import Derived.Test.YtboalkfagfgnpaaGreatDoorProg
import Derived.WalkKit
import Derived.BigCall
import Derived.Lib.Hide
import Derived.Laws.OwnMore
import Derived.Deep.RegionLaw
import Derived.Test.YtboalkfagfgnpaaGreatDoorCJRd2toJRh
import Derived.Test.YtboalkfagfgnpaaGreatDoorCShelftoSign
import Derived.WalkLawsBesides
import Derived.Deep.QuietTactic
import Derived.Shelf.Strings.BuilderRune
import Derived.Shelf.Strings.Prefix
import Derived.Shelf.Strings.BuilderF
import Derived.Laws.Bits64b
namespace Go.Proofs.YtboalkfagfgnpaaGreatDoor
open Go.RowKit
def Bs.put (k : Nat) (a : Int) (c : UInt8) : Int := if c.toNat / 64 = k then bits .or .u64 a (IntKind.u64.wrap (2 ^ (c.toNat % 64))) else a
def Bs.word (l : List UInt8) (k : Nat) : Int := l.foldl (Bs.put k) 0
def Bs.has (l : List UInt8) (c : UInt8) : Bool := bits .and .u64 (Bs.word l (c.toNat / 64) / 2 ^ (c.toNat % 64)) 1 == 1
def Bs.val (l : List UInt8) : Value := .agg #[.int .u64 (Bs.word l 0), .int .u64 (Bs.word l 1), .int .u64 (Bs.word l 2), .int .u64 (Bs.word l 3)]
theorem Bs.word_take {l : List UInt8} {i : Nat} {c : UInt8} (h : l[i]? = some c) (k : Nat) : Bs.word (l.take (i + 1)) k = Bs.put k (Bs.word (l.take i) k) c := by
  have hl := (List.getElem?_eq_some_iff.1 h).1
  have hc := (List.getElem?_eq_some_iff.1 h).2
  rw [List.take_succ_eq_append_getElem hl, hc]
  simp [Bs.word]
theorem Bs.put_same {k : Nat} {a : Int} {c : UInt8} (h : c.toNat / 64 = k) : Bs.put k a c = bits .or .u64 a (IntKind.u64.wrap (2 ^ (c.toNat % 64))) := if_pos h
theorem Bs.put_other {k : Nat} {a : Int} {c : UInt8} (h : c.toNat / 64 ≠ k) : Bs.put k a c = a := if_neg h
set_option maxRecDepth 100000 in
set_option maxHeartbeats 4000000 in
theorem Bs.Has (l : List UInt8) (c : UInt8) (w : World) :
    Calls Tryz.prog 93 #[Bs.val l, .int .u8 (c.toNat : Int)] w fun e w' => e = .returned (.bool (Bs.has l c)) ∧ Below w.heap.size w w' := by
  have hc := c.toNat_lt
  unfold Bs.val Bs.has
  have hq : c.toNat / 64 = 0 ∨ c.toNat / 64 = 1 ∨ c.toNat / 64 = 2 ∨ c.toNat / 64 = 3 := by omega
  rcases hq with hq | hq | hq | hq
  all_goals
    rw [hq]
    generalize Bs.word l 0 = a0
    generalize Bs.word l 1 = a1
    generalize Bs.word l 2 = a2
    generalize Bs.word l 3 = a3
    have hz : (c.toNat : Int) / 64 = (c.toNat / 64 : Nat) := by omega
    rw [hq] at hz
    clear hq
    first | (have hz : (c.toNat : Int) / 64 = 0 := hz) | (have hz : (c.toNat : Int) / 64 = 1 := hz) | (have hz : (c.toNat : Int) / 64 = 2 := hz) | (have hz : (c.toNat : Int) / 64 = 3 := hz)
    go_enter Tryz.func93, Tryz.ntmps93
    go_wp2
    go_ret
    exact ⟨rfl, (Below.refl _ _).alloc (Nat.le_refl _) _⟩
/-- a block of memory -/
def Bs.Box (W : World) (g : Nat) (cs : Array Value) (ty : TypeId) : Prop := W.heap[g]? = some (.cells cs ty)
theorem Bs.Box.new (W : World) (cs : Array Value) (ty : TypeId) (g : Nat) (hg : g = W.heap.size) : Bs.Box (W.alloc (.cells cs ty)) g cs ty := by
  subst hg
  show (W.heap.push _)[W.heap.size]? = _
  simp
theorem Bs.Box.lt {W : World} {g : Nat} {cs : Array Value} {ty : TypeId} (h : Bs.Box W g cs ty) : g < W.heap.size := (Array.getElem?_eq_some_iff.1 h).1
theorem Bs.Box.alloc {W : World} {g : Nat} {cs : Array Value} {ty : TypeId} (h : Bs.Box W g cs ty) (o : Obj) : Bs.Box (W.alloc o) g cs ty := (Below.heap_alloc _ _ _ h.lt).trans h
theorem Bs.Box.on {W W' : World} {g b : Nat} {cs : Array Value} {ty : TypeId} (h : Bs.Box W g cs ty) (hb : Below b W W') (hg : g < b) : Bs.Box W' g cs ty := (hb.block g hg).trans h
theorem Bs.Box.set {W : World} {g : Nat} {cs : Array Value} {ty : TypeId} (h : Bs.Box W g cs ty) (i : Nat) (v : Value) : Bs.Box (W.setCell ⟨g, i, none⟩ v) g (cs.setIfInBounds i v) ty := by
  show (W.heap.modify g _)[g]? = _
  rw [Array.getElem?_modify, if_pos rfl, h]
  rfl
theorem Bs.Box.cell {W : World} {g : Nat} {cs : Array Value} {ty : TypeId} (h : Bs.Box W g cs ty) (i : Nat) {v : Value} (hv : cs[i]? = some v) : W.cell? ⟨g, i, none⟩ = some v := by
  unfold World.cell?
  rw [show W.heap[g]? = _ from h]
  exact hv
theorem Bs.Box.frozen {W : World} {g : Nat} {cs : Array Value} {ty : TypeId} (h : Bs.Box W g cs ty) (i : Nat) : W.frozen? ⟨g, i, none⟩ = false := by
  unfold World.frozen?
  rw [show W.heap[g]? = _ from h]
  simp
def Bs.row (l : List UInt8) : Array Value := #[.int .u64 (Bs.word l 0), .int .u64 (Bs.word l 1), .int .u64 (Bs.word l 2), .int .u64 (Bs.word l 3)]
theorem Bs.row_take {l : List UInt8} {i : Nat} {c : UInt8} (h : l[i]? = some c) {k : Nat} (hk : c.toNat / 64 = k) : (Bs.row (l.take i)).setIfInBounds k (.int .u64 (bits .or .u64 (Bs.word (l.take i) k) (IntKind.u64.wrap (2 ^ (c.toNat % 64))))) = Bs.row (l.take (i + 1)) := by
  have hc := c.toNat_lt
  unfold Bs.row
  rw [Bs.word_take h, Bs.word_take h, Bs.word_take h, Bs.word_take h, ← Bs.put_same hk]
  have hq : k = 0 ∨ k = 1 ∨ k = 2 ∨ k = 3 := by omega
  rcases hq with rfl | rfl | rfl | rfl
  · rw [Bs.put_other (k := 1) (by omega), Bs.put_other (k := 2) (by omega), Bs.put_other (k := 3) (by omega)]; rfl
  · rw [Bs.put_other (k := 0) (by omega), Bs.put_other (k := 2) (by omega), Bs.put_other (k := 3) (by omega)]; rfl
  · rw [Bs.put_other (k := 0) (by omega), Bs.put_other (k := 1) (by omega), Bs.put_other (k := 3) (by omega)]; rfl
  · rw [Bs.put_other (k := 0) (by omega), Bs.put_other (k := 1) (by omega), Bs.put_other (k := 2) (by omega)]; rfl
set_option maxRecDepth 100000 in
set_option maxHeartbeats 4000000 in
theorem Bs.Of (T : ByteArray) (w : World) (hT : T.size ≤ 1000) :
    Calls Tryz.prog 91 #[.string T] w fun e w' => e = .returned (Bs.val T.data.toList) ∧ Below w.heap.size w w' := by
  unfold Bs.val
  go_enter Tryz.func91, Tryz.ntmps91
  go_wp2_with fail
  go_loopw [7] (fun ix wr => ∃ i : Nat, i ≤ T.size ∧ ix = .int .i64 (i : Int) ∧ Hid (Bs.Box wr (w.heap.size + 1) (Bs.row (T.data.toList.take i)) 110) ∧ Hid (Below (w.heap.size + 1) (w.alloc (.cells #[.int .u64 0, .int .u64 0, .int .u64 0, .int .u64 0] 110)) wr)) (fun ix _ => T.size - (intOf ix).toNat)
  case atStart => exact ⟨0, Nat.zero_le _, rfl, Bs.Box.new _ _ _ _ (by simp), (Below.refl _ _).alloc (by simp) _⟩
  case round =>
    obtain ⟨i, hi, rfl, HX, HB⟩ := hrel
    by_cases hlt : i < T.size
    · have d1 : decide ((i : Int) < (T.size : Int)) = true := decide_eq_true (by omega)
      have hc := T[i].toNat_lt
      have HL : Hid (T.data.toList[i]? = some T[i]) := by
        unfold Hid
        rw [List.getElem?_eq_getElem (by rw [Array.length_toList]; exact hlt)]
        simp [ByteArray.getElem_eq_getElem_data]
      have hq : T[i].toNat / 64 = 0 ∨ T[i].toNat / 64 = 1 ∨ T[i].toNat / 64 = 2 ∨ T[i].toNat / 64 = 3 := by omega
      rcases hq with hq | hq | hq | hq
      all_goals
        have HT := Lib.hid (Bs.row_take HL.out hq)
        have hz : (T[i].toNat : Int) / 64 = (T[i].toNat / 64 : Nat) := by omega
        rw [hq] at hz
        have HS := Lib.hid (HX.out.set (T[i].toNat / 64) (.int .u64 (bits .or .u64 (Bs.word (T.data.toList.take i) (T[i].toNat / 64)) (IntKind.u64.wrap (2 ^ (T[i].toNat % 64))))))
        have hcell := HX.out.cell (T[i].toNat / 64) (v := .int .u64 (Bs.word (T.data.toList.take i) (T[i].toNat / 64))) (by rw [hq]; rfl)
        have hfz := HX.out.frozen (T[i].toNat / 64)
        rw [hq] at hcell hfz HS
        rw [HT.out] at HS
        clear hq HL HT
        first | (have hz : (T[i].toNat : Int) / 64 = 0 := hz) | (have hz : (T[i].toNat : Int) / 64 = 1 := hz) | (have hz : (T[i].toNat : Int) / 64 = 2 := hz) | (have hz : (T[i].toNat : Int) / 64 = 3 := hz)
        go_wp2
        go_region
        go_wp2
        go_roundw
        case rel => exact ⟨i + 1, by omega, by go_num, HS, (HB.out.setCell (Nat.le_refl _) _).drew⟩
        case measure => simp [intOf]; omega
    · have e : i = T.size := by omega
      subst e
      have d1 : decide ((T.size : Int) < (T.size : Int)) = false := decide_eq_false (by omega)
      have HTT : Hid (T.data.toList.take T.size = T.data.toList) := List.take_of_length_le (by rw [Array.length_toList]; exact Nat.le_refl _)
      rw [HTT.out] at HX
      have HZ := Lib.hid ((Bs.Box.new w #[.int .u64 0, .int .u64 0, .int .u64 0, .int .u64 0] 110 _ rfl).on HB.out (Nat.lt_succ_self _))
      have HE := Lib.hid ((((HZ.out.set 0 (.int .u64 (Bs.word T.data.toList 0))).set 1 (.int .u64 (Bs.word T.data.toList 1))).set 2 (.int .u64 (Bs.word T.data.toList 2))).set 3 (.int .u64 (Bs.word T.data.toList 3)))
      have x0 : wr.cell? ⟨w.heap.size + 1, 0, none⟩ = some (.int .u64 (Bs.word T.data.toList 0)) := HX.out.cell 0 rfl
      have x1 : wr.cell? ⟨w.heap.size + 1, 1, none⟩ = some (.int .u64 (Bs.word T.data.toList 1)) := HX.out.cell 1 rfl
      have x2 : wr.cell? ⟨w.heap.size + 1, 2, none⟩ = some (.int .u64 (Bs.word T.data.toList 2)) := HX.out.cell 2 rfl
      have x3 : wr.cell? ⟨w.heap.size + 1, 3, none⟩ = some (.int .u64 (Bs.word T.data.toList 3)) := HX.out.cell 3 rfl
      have z0 : wr.cell? ⟨w.heap.size, 0, none⟩ = some (.int .u64 0) := HZ.out.cell 0 rfl
      have z1 : wr.cell? ⟨w.heap.size, 1, none⟩ = some (.int .u64 0) := HZ.out.cell 1 rfl
      have z2 : wr.cell? ⟨w.heap.size, 2, none⟩ = some (.int .u64 0) := HZ.out.cell 2 rfl
      have z3 : wr.cell? ⟨w.heap.size, 3, none⟩ = some (.int .u64 0) := HZ.out.cell 3 rfl
      have f0 := HZ.out.frozen 0
      have f1 := HZ.out.frozen 1
      have f2 := HZ.out.frozen 2
      have f3 := HZ.out.frozen 3
      go_wp2
      have q0 := HE.out.cell 0 (v := .int .u64 (Bs.word T.data.toList 0)) rfl
      have q1 := HE.out.cell 1 (v := .int .u64 (Bs.word T.data.toList 1)) rfl
      have q2 := HE.out.cell 2 (v := .int .u64 (Bs.word T.data.toList 2)) rfl
      have q3 := HE.out.cell 3 (v := .int .u64 (Bs.word T.data.toList 3)) rfl
      refine bodyPost_ret (v := .agg #[.int .u64 (Bs.word T.data.toList 0), .int .u64 (Bs.word T.data.toList 1), .int .u64 (Bs.word T.data.toList 2), .int .u64 (Bs.word T.data.toList 3)]) (by simp [results, Tryz.results91, go_sem, q0, q1, q2, q3]) rfl ?_
      exact ⟨rfl, ((((((Below.refl _ _).alloc (Nat.le_refl _) _).trans (HB.out.mono (Nat.le_succ _))).setCell (Nat.le_refl _) _).setCell (Nat.le_refl _) _).setCell (Nat.le_refl _) _).setCell (Nat.le_refl _) _⟩
end Go.Proofs.YtboalkfagfgnpaaGreatDoor
/-
  THE LANDED READER in memory; the walks of peek, skip, take, word, isDigit, digitOfSixteen.
-/
namespace Go.Proofs.YtboalkfagfgnpaaGreatDoor
open Go.RowKit
/-- what the reader throws -/
def Jr.fault : List PanicEntry := [{ v := .iface 28 (.int .i64 1000), recovered := false }]
/-- the reader's two cells: its text, and the place behind which l stands -/
def Jr.Rd (w : World) (g : Nat) (T : ByteArray) (l : List UInt8) : Prop :=
  ∃ i : Nat, i ≤ T.size ∧ T.data.toList.drop i = l ∧ T.size ≤ 65536 ∧ Bs.Box w g #[.string T, .int .i64 (i : Int)] 83
theorem Jr.grown_trans {a b c : World} {g : Option Nat} (h : a.grownBy b g) (k : b.grownBy c g) : a.grownBy c g :=
  ⟨k.os.trans h.os, k.tape.trans h.tape, k.output.trans h.output, Nat.le_trans h.size k.size, fun i hi hne => (k.block i (Nat.lt_of_lt_of_le hi h.size) hne).trans (h.block i hi hne)⟩
theorem Jr.grown_some {a b : World} (h : a.grownBy b none) (g : Option Nat) : a.grownBy b g := ⟨h.os, h.tape, h.output, h.size, fun i hi _ => h.block i hi (by simp)⟩
theorem Jr.grown_drew (w : World) : w.grownBy w.drew none := ⟨rfl, rfl, rfl, Nat.le_refl _, fun _ _ _ => rfl⟩
theorem Jr.grown_drewN (w : World) (n : Nat) : w.grownBy (w.drewN n) none := ⟨rfl, rfl, rfl, Nat.le_refl _, fun _ _ _ => rfl⟩
theorem Jr.grown_below {a b : World} (h : Below a.heap.size a b) : a.grownBy b none := ⟨h.os, h.tape, h.output, h.size, fun i hi _ => h.block i hi⟩
theorem Jr.grown_set (w : World) (g i : Nat) (v : Value) : w.grownBy (w.setCell ⟨g, i, none⟩ v) (some g) :=
  ⟨rfl, rfl, rfl, by simp [World.setCell], fun k _ hk => Below.heap_setCell _ _ _ _ (fun q => hk (by rw [q]))⟩
theorem Jr.Rd.lt {w : World} {g : Nat} {T : ByteArray} {l : List UInt8} (h : Jr.Rd w g T l) : g < w.heap.size := by
  obtain ⟨i, _, _, _, hB⟩ := h
  exact hB.lt
theorem Jr.Rd.on {w w' : World} {g : Nat} {T : ByteArray} {l : List UInt8} (h : Jr.Rd w g T l) (hb : w.grownBy w' none) : Jr.Rd w' g T l := by
  obtain ⟨i, h1, h2, h3, hB⟩ := h
  exact ⟨i, h1, h2, h3, (hb.block g hB.lt (by simp)).trans hB⟩
theorem Jr.at_end {T : ByteArray} {i : Nat} (hi : i ≤ T.size) (h : T.data.toList.drop i = []) : i = T.size := by
  have := congrArg List.length h
  rw [List.length_drop, Wk.len_data] at this
  simp only [List.length_nil] at this
  omega
theorem Jr.at_byte {T : ByteArray} {i : Nat} {c : UInt8} {r : List UInt8} (h : T.data.toList.drop i = c :: r) : ∃ hlt : i < T.size, T[i] = c ∧ T.data.toList.drop (i + 1) = r := by
  have hl := congrArg List.length h
  rw [List.length_drop, Wk.len_data, List.length_cons] at hl
  have hlt : i < T.size := by omega
  refine ⟨hlt, ?_, ?_⟩
  · have e : (T.data.toList.drop i)[0]? = some c := by rw [h]; rfl
    rw [List.getElem?_drop, Nat.add_zero, List.getElem?_eq_getElem (by rw [Wk.len_data]; exact hlt)] at e
    injection e with e
  · rw [← List.drop_drop, h]
    rfl
set_option maxRecDepth 100000 in
set_option maxHeartbeats 1000000 in
theorem Jr.peek (l : List UInt8) (g : Nat) (T : ByteArray) (w : World) (h : Jr.Rd w g T l) :
    Calls Tryz.prog 69 #[.pointer (some ⟨g, 0, none⟩)] w fun e w' => e = .returned (.int .u8 ((l.headD 0).toNat : Int)) ∧ w.grownBy w' none := by
  obtain ⟨i, h1, h2, h3, hB⟩ := h
  have c0 : w.cell? ⟨g, 0, none⟩ = some (.string T) := hB.cell 0 rfl
  have c1 : w.cell? ⟨g, 1, none⟩ = some (.int .i64 (i : Int)) := hB.cell 1 rfl
  clear hB
  cases l with
  | nil =>
    have e := Jr.at_end h1 h2
    have d1 : ((i : Int) == (T.size : Int)) = true := beq_iff_eq.2 (by omega)
    clear h1 h2 e
    go_enter Tryz.func69, Tryz.ntmps69
    go_wp2
    go_quiet (fail)
    go_wp2
    go_ret
    exact ⟨rfl, Jr.grown_drewN _ _⟩
  | cons c r =>
    obtain ⟨hlt, e, -⟩ := Jr.at_byte h2
    have d1 : ((i : Int) == (T.size : Int)) = false := beq_eq_false_iff_ne.2 (by omega)
    rw [List.headD_cons, ← e]
    clear h1 h2 e
    go_enter Tryz.func69, Tryz.ntmps69
    go_wp2
    go_quiet (fail)
    go_wp2
    go_quiet (fail)
    go_wp2
    go_ret
    exact ⟨rfl, Jr.grown_trans (Jr.grown_drewN _ _) (Jr.grown_drewN _ _)⟩
/-- one byte on -/
theorem Jr.Rd.step {w w' : World} {g : Nat} {T : ByteArray} {i : Nat} (h3 : T.size ≤ 65536) (hB : Bs.Box w g #[.string T, .int .i64 (i : Int)] 83) (hb : w.grownBy w' none) (n : Nat) (hn : i + n ≤ T.size) {r' : List UInt8} (hr : r' = T.data.toList.drop (i + n)) : Jr.Rd (w'.setCell ⟨g, 1, none⟩ (.int .i64 ((i : Int) + n))) g T r' := by
  have hB2 : Bs.Box w' g #[.string T, .int .i64 (i : Int)] 83 := (hb.block g hB.lt (by simp)).trans hB
  refine ⟨i + n, hn, hr.symm, h3, ?_⟩
  have := hB2.set 1 (.int .i64 ((i : Int) + n))
  exact this
set_option maxRecDepth 100000 in
set_option maxHeartbeats 1000000 in
theorem Jr.skip_no (l : List UInt8) (c : UInt8) (hc : l.headD 0 ≠ c) (g : Nat) (T : ByteArray) (w : World) (h : Jr.Rd w g T l) :
    Calls Tryz.prog 75 #[.pointer (some ⟨g, 0, none⟩), .int .u8 (c.toNat : Int)] w fun e w' => e = .returned (.bool false) ∧ w.grownBy w' none := by
  have pk := Jr.peek l g T w h
  have d1 : (((l.headD 0).toNat : Int) != (c.toNat : Int)) = true := bne_iff_ne.2 (fun q => hc (UInt8.toNat_inj.1 (by omega)))
  clear h hc
  generalize ((l.headD 0).toNat : Int) = x at *
  generalize (c.toNat : Int) = y at *
  go_enter Tryz.func75, Tryz.ntmps75
  go_wp2_with (go_at_call 69; refine pk.mono ?_; rintro e w1 ⟨rfl, b1⟩)
  go_ret
  exact ⟨rfl, b1⟩
set_option maxRecDepth 100000 in
set_option maxHeartbeats 1000000 in
theorem Jr.skip_yes (c : UInt8) (r : List UInt8) (g : Nat) (T : ByteArray) (w : World) (h : Jr.Rd w g T (c :: r)) :
    Calls Tryz.prog 75 #[.pointer (some ⟨g, 0, none⟩), .int .u8 (c.toNat : Int)] w fun e w' => e = .returned (.bool true) ∧ w.grownBy w' (some g) ∧ Jr.Rd w' g T r := by
  have pk := Jr.peek (c :: r) g T w h
  rw [List.headD_cons] at pk
  obtain ⟨i, h1, h2, h3, hB⟩ := h
  obtain ⟨hlt, -, hr⟩ := Jr.at_byte h2
  generalize (c.toNat : Int) = y at *
  have HR := Lib.hid hr
  have HB := Lib.hid hB
  clear h1 h2 hr hB
  go_enter Tryz.func75, Tryz.ntmps75
  go_wp2_with (go_at_call 69; refine pk.mono ?_; rintro e w1 ⟨rfl, b1⟩; have hB1 : Bs.Box w1 g #[.string T, .int .i64 (i : Int)] 83 := (b1.block g HB.out.lt (by simp)).trans HB.out; have c1 : w1.cell? ⟨g, 1, none⟩ = some (.int .i64 (i : Int)) := hB1.cell 1 rfl; have f1 := hB1.frozen 1; have HB1 := Lib.hid b1; clear hB1 b1 pk)
  go_ret
  exact ⟨rfl, Jr.grown_trans (Jr.grown_some HB1.out _) (Jr.grown_set _ _ _ _), Jr.Rd.step h3 HB.out HB1.out 1 hlt HR.out.symm⟩
set_option maxRecDepth 100000 in
set_option maxHeartbeats 1000000 in
theorem Jr.take (c : UInt8) (r : List UInt8) (g : Nat) (T : ByteArray) (w : World) (h : Jr.Rd w g T (c :: r)) :
    Calls Tryz.prog 100 #[.pointer (some ⟨g, 0, none⟩)] w fun e w' => e = .returned (.int .u8 (c.toNat : Int)) ∧ w.grownBy w' (some g) ∧ Jr.Rd w' g T r := by
  obtain ⟨i, h1, h2, h3, hB⟩ := h
  obtain ⟨hlt, he, hr⟩ := Jr.at_byte h2
  have c0 : w.cell? ⟨g, 0, none⟩ = some (.string T) := hB.cell 0 rfl
  have c1 : w.cell? ⟨g, 1, none⟩ = some (.int .i64 (i : Int)) := hB.cell 1 rfl
  have f1 := hB.frozen 1
  have d1 : ((i : Int) == (T.size : Int)) = false := beq_eq_false_iff_ne.2 (by omega)
  rw [← he]
  have HR := Lib.hid hr
  have HB := Lib.hid hB
  clear h1 h2 hr hB he
  go_enter Tryz.func100, Tryz.ntmps100
  go_wp2
  go_quiet (fail)
  go_wp2
  go_quiet (fail)
  go_wp2
  go_ret
  exact ⟨rfl, Jr.grown_trans (Jr.grown_some (Jr.grown_drewN _ _) _) (Jr.grown_set _ _ _ _), Jr.Rd.step h3 HB.out (Jr.grown_drewN _ _) 1 hlt HR.out.symm⟩
set_option maxRecDepth 100000 in
set_option maxHeartbeats 1000000 in
theorem Jr.take_end (g : Nat) (T : ByteArray) (w : World) (h : Jr.Rd w g T []) :
    Calls Tryz.prog 100 #[.pointer (some ⟨g, 0, none⟩)] w fun e w' => e = .panicked Jr.fault ∧ w.grownBy w' (some g) := by
  obtain ⟨i, h1, h2, h3, hB⟩ := h
  have e := Jr.at_end h1 h2
  have c0 : w.cell? ⟨g, 0, none⟩ = some (.string T) := hB.cell 0 rfl
  have c1 : w.cell? ⟨g, 1, none⟩ = some (.int .i64 (i : Int)) := hB.cell 1 rfl
  have d1 : ((i : Int) == (T.size : Int)) = true := beq_iff_eq.2 (by omega)
  clear h1 h2 e hB
  go_enter Tryz.func100, Tryz.ntmps100
  go_wp2
  go_quiet (fail)
  go_wp2
  exact ⟨rfl, rfl, Jr.grown_some (Jr.grown_drewN _ _) _⟩
end Go.Proofs.YtboalkfagfgnpaaGreatDoor
/-
  The library's contracts that the walks lean on, laid at this program's own numbers: strings.Builder's WriteRune and Len, and strings.HasPrefix.
-/
namespace Go.Proofs.YtboalkfagfgnpaaGreatDoor
open Go.Shelf
def Sh.lays168_ren : Go.Shelf.Ren := ⟨fun | 168 => 95 | 240 => 60 | 242 => 117 | 276 => 81 | 278 => 129 | n => n, fun | 0 => 0 | 3 => 3 | 4 => 4 | 5 => 5 | 9 => 9 | 20 => 20 | 21 => 21 | 37 => 44 | 46 => 87 | 51 => 133 | 70 => 43 | 72 => 46 | 75 => 67 | 80 => 49 | 164 => 99 | n => n, fun | n => n⟩
theorem Sh.lays168 : Go.Proofs.Lays.n168 Tryz.prog Sh.lays168_ren := {
  mixed := by kernel_rfl
  f168 := Tryz.func95.trans (congrArg some (by kernel_rfl))
  f240 := Tryz.func60.trans (congrArg some (by kernel_rfl))
  f242 := Tryz.func117.trans (congrArg some (by kernel_rfl))
  f276 := Tryz.func81.trans (congrArg some (by kernel_rfl))
  f278 := Tryz.func129.trans (congrArg some (by kernel_rfl))
  t0 := Tryz.underlying0
  a0 := Tryz.isAgg0
  z0 := Tryz.sizeOf0
  v0 := Tryz.zeroValue0
  t3 := Tryz.underlying3
  a3 := Tryz.isAgg3
  z3 := Tryz.sizeOf3
  v3 := Tryz.zeroValue3
  t4 := Tryz.underlying4
  a4 := Tryz.isAgg4
  z4 := Tryz.sizeOf4
  v4 := Tryz.zeroValue4
  t5 := Tryz.underlying5
  a5 := Tryz.isAgg5
  z5 := Tryz.sizeOf5
  v5 := Tryz.zeroValue5
  t9 := Tryz.underlying9
  a9 := Tryz.isAgg9
  z9 := Tryz.sizeOf9
  v9 := Tryz.zeroValue9
  t20 := Tryz.underlying20
  a20 := Tryz.isAgg20
  z20 := Tryz.sizeOf20
  v20 := Tryz.zeroValue20
  t21 := Tryz.underlying21
  a21 := Tryz.isAgg21
  z21 := Tryz.sizeOf21
  v21 := Tryz.zeroValue21
  t37 := Tryz.underlying44
  a37 := Tryz.isAgg44
  z37 := Tryz.sizeOf44
  v37 := Tryz.zeroValue44
  t46 := Tryz.underlying87
  a46 := Tryz.isAgg87
  z46 := Tryz.sizeOf87
  v46 := Tryz.zeroValue87
  t51 := Tryz.underlying133
  a51 := Tryz.isAgg133
  z51 := Tryz.sizeOf133
  v51 := Tryz.zeroValue133
  t70 := Tryz.underlying43
  a70 := Tryz.isAgg43
  z70 := Tryz.sizeOf43
  v70 := Tryz.zeroValue43
  t72 := Tryz.underlying46
  a72 := Tryz.isAgg46
  z72 := Tryz.sizeOf46
  v72 := Tryz.zeroValue46
  t75 := Tryz.underlying67
  a75 := Tryz.isAgg67
  z75 := Tryz.sizeOf67
  v75 := Tryz.zeroValue67
  t164 := Tryz.underlying99
  a164 := Tryz.isAgg99
  z164 := Tryz.sizeOf99
  v164 := Tryz.zeroValue99 }
theorem Sh.Builder_Extra_168 : Builder.Extra Tryz.prog Sh.lays168_ren := {
  sizeBuilder := by kernel_rfl
  liesBuilder := by kernel_rfl
  t5 := Tryz.underlying5
  a5 := Tryz.isAgg5
  z5 := Tryz.sizeOf5
  v5 := Tryz.zeroValue5
  infoByte := by kernel_rfl
  cellsByte := by kernel_rfl
  sizeByte := by kernel_rfl
  neB5 := by decide }
open Go.RowKit in
theorem Sh.Builder_WriteRune_k (B b : Nat) (bs : List Value) (r : Int) (hr0 : -2147483648 ≤ r) (hr1 : r ≤ 2147483647) (w : World) (h : Lib.IsBuilderF 46 5 B b bs w) (hlen : bs.length + 4 ≤ 140737488355328) (hBw : B ≤ w.heap.size) :
    Calls Tryz.prog 95 #[.pointer (some ⟨b, 0, none⟩), .int .i32 r] w fun e w' => e = .returned (.tuple #[.int .i64 (Lib.runeCells r).length, .nilIface]) ∧ (Lib.BuilderAtF 46 5 B b (.pointer (some ⟨b, 0, none⟩)) (bs ++ Lib.runeCells r) w' ∧ Below B w w' ∧ Lib.OthersKept 5 (some b) w w') := Any.Builder_WriteRune_k Sh.lays168 Sh.Builder_Extra_168 B b bs r hr0 hr1 w h hlen hBw
def Sh.lays99_ren : Go.Shelf.Ren := ⟨fun | 99 => 99 | 206 => 118 | n => n, fun | 9 => 9 | 3 => 3 | 4 => 4 | n => n, fun | n => n⟩
theorem Sh.lays99 : Go.Proofs.Lays.n99 Tryz.prog Sh.lays99_ren := {
  mixed := by kernel_rfl
  f99 := Tryz.func99.trans (congrArg some (by kernel_rfl))
  f206 := Tryz.func118.trans (congrArg some (by kernel_rfl))
  t3 := Tryz.underlying3
  a3 := Tryz.isAgg3
  z3 := Tryz.sizeOf3
  v3 := Tryz.zeroValue3
  t4 := Tryz.underlying4
  a4 := Tryz.isAgg4
  z4 := Tryz.sizeOf4
  v4 := Tryz.zeroValue4
  t9 := Tryz.underlying9
  a9 := Tryz.isAgg9
  z9 := Tryz.sizeOf9
  v9 := Tryz.zeroValue9 }
open Go.RowKit in
theorem Sh.strings_HasPrefix (s p : ByteArray) (w : World) :
    Calls Tryz.prog 99 #[.string s, .string p] w fun e w' => e = .returned (.bool (Lib.hasPrefix s.data.toList p.data.toList)) ∧ w' = w := Any.strings_HasPrefix Sh.lays99 s p w
def Sh.lays170_ren : Go.Shelf.Ren := ⟨fun | 170 => 17 | n => n, fun | 70 => 43 | 3 => 3 | 0 => 0 | 72 => 46 | 37 => 44 | 5 => 5 | n => n, fun | n => n⟩
theorem Sh.lays170 : Go.Proofs.Lays.n170 Tryz.prog Sh.lays170_ren := {
  mixed := by kernel_rfl
  f170 := Tryz.func17.trans (congrArg some (by kernel_rfl))
  t0 := Tryz.underlying0
  a0 := Tryz.isAgg0
  z0 := Tryz.sizeOf0
  v0 := Tryz.zeroValue0
  t3 := Tryz.underlying3
  a3 := Tryz.isAgg3
  z3 := Tryz.sizeOf3
  v3 := Tryz.zeroValue3
  t37 := Tryz.underlying44
  a37 := Tryz.isAgg44
  z37 := Tryz.sizeOf44
  v37 := Tryz.zeroValue44
  t70 := Tryz.underlying43
  a70 := Tryz.isAgg43
  z70 := Tryz.sizeOf43
  v70 := Tryz.zeroValue43
  t72 := Tryz.underlying46
  a72 := Tryz.isAgg46
  z72 := Tryz.sizeOf46
  v72 := Tryz.zeroValue46 }
open Go.RowKit in
theorem Sh.Builder_Len_f (B b : Nat) (bs : List Value) (w : World) (h : Lib.IsBuilderF 46 5 B b bs w) :
    Calls Tryz.prog 17 #[.pointer (some ⟨b, 0, none⟩)] w fun e w' => e = .returned (.int .i64 bs.length) ∧ w' = w := Any.Builder_Len_f Sh.lays170 B b bs w h
end Go.Proofs.YtboalkfagfgnpaaGreatDoor
/-
  THE WALKS of the landed reader: word, isDigit, digitOfSixteen, skipBlanks, unit.
-/
namespace Go.Proofs.YtboalkfagfgnpaaGreatDoor
open Go.RowKit
theorem Jr.run_from (w : World) (s : ByteArray) (l : Int) (h0 : 0 ≤ l) (h1 : l ≤ s.size) :
    (Instr.slice 9 (.string s) (some (.int .i64 l)) none none).run Tryz.prog w = .ok (.string (s.extract l.toNat s.size)) w := by
  simp [Instr.slice, run_underlying Tryz.underlying9, Instr.sliceBounds, run_sliceBound, h0, h1]
set_option maxRecDepth 100000 in
set_option maxHeartbeats 1000000 in
theorem Jr.word_no (p : ByteArray) (l : List UInt8) (hp : Pl.pre p.data.toList l = false) (g : Nat) (T : ByteArray) (w : World) (h : Jr.Rd w g T l) :
    Calls Tryz.prog 70 #[.pointer (some ⟨g, 0, none⟩), .string p] w fun e w' => e = .panicked Jr.fault ∧ w.grownBy w' (some g) := by
  obtain ⟨i, h1, h2, h3, hB⟩ := h
  have c0 : w.cell? ⟨g, 0, none⟩ = some (.string T) := hB.cell 0 rfl
  have c1 : w.cell? ⟨g, 1, none⟩ = some (.int .i64 (i : Int)) := hB.cell 1 rfl
  have hs := fun u => Jr.run_from u T (i : Int) (by omega) (by omega)
  have hpx : ∀ u, Calls Tryz.prog 99 #[.string (T.extract i T.size), .string p] u fun e w' => e = .returned (.bool false) ∧ w' = u := fun u => by
    have := Sh.strings_HasPrefix (T.extract i T.size) p u
    rw [Wk.rest_data, h2, show Lib.hasPrefix l p.data.toList = false from hp] at this
    exact this
  have ei : ((i : Int)).toNat = i := by omega
  rw [ei] at hs
  clear h2 hp hB
  generalize T.extract i T.size = X at *
  go_enter Tryz.func70, Tryz.ntmps70
  go_wp2_with fail
  go_quiet (first | (go_at_call 99; exact Calls.quiet_of_same (hpx _)))
  go_wp2
  exact ⟨rfl, rfl, Jr.grown_some (Jr.grown_drewN _ _) _⟩
set_option maxRecDepth 100000 in
set_option maxHeartbeats 1000000 in
theorem Jr.word (p : ByteArray) (l : List UInt8) (hp : Pl.pre p.data.toList l = true) (g : Nat) (T : ByteArray) (w : World) (h : Jr.Rd w g T l) :
    Calls Tryz.prog 70 #[.pointer (some ⟨g, 0, none⟩), .string p] w fun e w' => e = .returned (.tuple #[]) ∧ w.grownBy w' (some g) ∧ Jr.Rd w' g T (l.drop p.size) := by
  obtain ⟨i, h1, h2, h3, hB⟩ := h
  have c0 : w.cell? ⟨g, 0, none⟩ = some (.string T) := hB.cell 0 rfl
  have c1 : w.cell? ⟨g, 1, none⟩ = some (.int .i64 (i : Int)) := hB.cell 1 rfl
  have f1 := hB.frozen 1
  have hs := fun u => Jr.run_from u T (i : Int) (by omega) (by omega)
  have hpx : ∀ u, Calls Tryz.prog 99 #[.string (T.extract i T.size), .string p] u fun e w' => e = .returned (.bool true) ∧ w' = u := fun u => by
    have := Sh.strings_HasPrefix (T.extract i T.size) p u
    rw [Wk.rest_data, h2, show Lib.hasPrefix l p.data.toList = true from hp] at this
    exact this
  have ei : ((i : Int)).toNat = i := by omega
  have hle : i + p.size ≤ T.size := by
    obtain ⟨r, e⟩ := (Pl.pre_iff _ _).1 hp
    have q := congrArg List.length h2
    rw [List.length_drop, Wk.len_data, e, List.length_append, Wk.len_data] at q
    omega
  have HR : Hid (l.drop p.size = T.data.toList.drop (i + p.size)) := by
    unfold Hid
    rw [← h2, List.drop_drop]
  rw [ei] at hs
  have HB := Lib.hid hB
  clear h2 hp hB
  generalize T.extract i T.size = X at *
  go_enter Tryz.func70, Tryz.ntmps70
  go_wp2_with fail
  go_quiet (first | (go_at_call 99; exact Calls.quiet_of_same (hpx _)))
  go_wp2
  go_end0
  exact ⟨rfl, Jr.grown_trans (Jr.grown_some (Jr.grown_drewN _ _) _) (Jr.grown_set _ _ _ _), Jr.Rd.step h3 HB.out (Jr.grown_drewN _ _) p.size hle HR.out⟩
theorem Jr.isDigit (c : UInt8) (w : World) : Calls Tryz.prog 120 #[.int .u8 (c.toNat : Int)] w fun e w' => e = .returned (.bool (Pl.digit c)) ∧ w' = w := by
  unfold Pl.digit
  generalize c.toNat = m
  by_cases h1 : 48 ≤ m
  · by_cases h2 : m ≤ 57
    · rw [decide_eq_true h1, decide_eq_true h2]
      go_enter Tryz.func120, Tryz.ntmps120
      go_wp2
      go_ret
      exact ⟨by first | rfl | (simp; omega), rfl⟩
    · rw [decide_eq_true h1, decide_eq_false h2]
      go_enter Tryz.func120, Tryz.ntmps120
      go_wp2
      go_ret
      exact ⟨by first | rfl | (simp; omega), rfl⟩
  · rw [decide_eq_false h1]
    go_enter Tryz.func120, Tryz.ntmps120
    go_wp2
    go_ret
    exact ⟨by first | rfl | (simp; omega), rfl⟩
set_option maxRecDepth 100000 in
set_option maxHeartbeats 1000000 in
theorem Jr.sixteen (c : UInt8) (hc : Pl.dig c < 16) (w : World) : Calls Tryz.prog 132 #[.int .u8 (c.toNat : Int)] w fun e w' => e = .returned (.int .i32 (Pl.dig c : Int)) ∧ w' = w := by
  have di := Jr.isDigit c
  have hq : (Pl.digit c = true ∧ 48 ≤ c.toNat ∧ c.toNat ≤ 57 ∧ Pl.dig c = c.toNat - 48) ∨ (Pl.digit c = false ∧ 97 ≤ c.toNat ∧ c.toNat ≤ 102 ∧ Pl.dig c = c.toNat - 87) ∨ (Pl.digit c = false ∧ 65 ≤ c.toNat ∧ c.toNat ≤ 70 ∧ Pl.dig c = c.toNat - 55) := by
    have := Ug.all (p := fun c => !decide (Pl.dig c < 16) || decide ((Pl.digit c = true ∧ 48 ≤ c.toNat ∧ c.toNat ≤ 57 ∧ Pl.dig c = c.toNat - 48) ∨ (Pl.digit c = false ∧ 97 ≤ c.toNat ∧ c.toNat ≤ 102 ∧ Pl.dig c = c.toNat - 87) ∨ (Pl.digit c = false ∧ 65 ≤ c.toNat ∧ c.toNat ≤ 70 ∧ Pl.dig c = c.toNat - 55))) (by decide +kernel) c
    rw [decide_eq_true hc] at this
    simpa using this
  clear hc
  generalize Pl.dig c = D at *
  generalize Pl.digit c = b at *
  generalize c.toNat = m at *
  rcases hq with ⟨rfl, h1, h2, rfl⟩ | ⟨rfl, h1, h2, rfl⟩ | ⟨rfl, h1, h2, rfl⟩
  · have e1 : IntKind.u8.wrap ((m : Int) - 48) = (m : Int) - 48 := by rw [IntKind.wrap_u8]; omega
    have e2 : ((m - 48 : Nat) : Int) = (m : Int) - 48 := by omega
    go_enter Tryz.func132, Tryz.ntmps132
    go_wp2_with (go_at_call 120; refine (di _).mono ?_; rintro e w' ⟨rfl, hw⟩; have hw := hw.symm; subst hw)
    go_ret
    exact ⟨by rw [e2]; rfl, rfl⟩
  · have d1 : decide ((97 : Int) ≤ (m : Int)) = true := decide_eq_true (by omega)
    have d2 : decide ((m : Int) ≤ 102) = true := decide_eq_true (by omega)
    have e2 : ((m - 87 : Nat) : Int) = (m : Int) - 97 + 10 := by omega
    go_enter Tryz.func132, Tryz.ntmps132
    go_wp2_with (go_at_call 120; refine (di _).mono ?_; rintro e w' ⟨rfl, hw⟩; have hw := hw.symm; subst hw)
    go_ret
    exact ⟨by rw [e2]; rfl, rfl⟩
  · have d1 : decide ((97 : Int) ≤ (m : Int)) = false := decide_eq_false (by omega)
    have d3 : decide ((65 : Int) ≤ (m : Int)) = true := decide_eq_true (by omega)
    have d2 : decide ((m : Int) ≤ 70) = true := decide_eq_true (by omega)
    have e2 : ((m - 55 : Nat) : Int) = (m : Int) - 65 + 10 := by omega
    go_enter Tryz.func132, Tryz.ntmps132
    go_wp2_with (go_at_call 120; refine (di _).mono ?_; rintro e w' ⟨rfl, hw⟩; have hw := hw.symm; subst hw)
    go_ret
    exact ⟨by rw [e2]; rfl, rfl⟩
end Go.Proofs.YtboalkfagfgnpaaGreatDoor

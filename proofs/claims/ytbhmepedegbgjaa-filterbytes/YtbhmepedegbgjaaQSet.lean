/-
  A SET OF BYTES BY BITS: the walks of byteset.Of and Has.
-/
import Derived.Test.YtbhmepedegbgjaaProg
import Derived.WalkKit
import Derived.BigCall
import Derived.Lib.Hide
import Derived.Laws.OwnMore
import Derived.Deep.RegionLaw
namespace Go.Proofs.Ytbhmepedegbgjaa
open Go.RowKit
def Bs.put (k : Nat) (a : Int) (c : UInt8) : Int := if c.toNat / 64 = k then bits .or .u64 a (IntKind.u64.wrap (2 ^ (c.toNat % 64))) else a
def Bs.word (l : List UInt8) (k : Nat) : Int := l.foldl (Bs.put k) 0
def Bs.has (l : List UInt8) (c : UInt8) : Bool := bits .and .u64 (Bs.word l (c.toNat / 64) / 2 ^ (c.toNat % 64)) 1 == 1
def Bs.val (l : List UInt8) : Value := .agg #[.int .u64 (Bs.word l 0), .int .u64 (Bs.word l 1), .int .u64 (Bs.word l 2), .int .u64 (Bs.word l 3)]
theorem Bs.word_take {l : List UInt8} {i : Nat} {c : UInt8} (h : l[i]? = some c) (k : Nat) : Bs.word (l.take (i + 1)) k = Bs.put k (Bs.word (l.take i) k) c := by
  have hl := (List.getElem?_eq_some_iff.1 h).1
  have hc := (List.getElem?_eq_some_iff.1 h).2
  rw [List.take_succ_eq_append_getElem hl, hc]
  simp [Bs.word]
theorem Bs.put_same {k : Nat} {a : Int} {c : UInt8} (h : c.toNat / 64 = k) : Bs.put k a c = bits .or .u64 a (IntKind.u64.wrap (2 ^ (c.toNat % 64))) := if_pos h
theorem Bs.put_other {k : Nat} {a : Int} {c : UInt8} (h : c.toNat / 64 ≠ k) : Bs.put k a c = a := if_neg h
set_option maxRecDepth 100000 in
set_option maxHeartbeats 4000000 in
theorem Bs.Has (l : List UInt8) (c : UInt8) (w : World) :
    Calls Try.prog 10 #[Bs.val l, .int .u8 (c.toNat : Int)] w fun e w' => e = .returned (.bool (Bs.has l c)) ∧ Below w.heap.size w w' := by
  have hc := c.toNat_lt
  unfold Bs.val Bs.has
  have hq : c.toNat / 64 = 0 ∨ c.toNat / 64 = 1 ∨ c.toNat / 64 = 2 ∨ c.toNat / 64 = 3 := by omega
  rcases hq with hq | hq | hq | hq
  all_goals
    rw [hq]
    generalize Bs.word l 0 = a0
    generalize Bs.word l 1 = a1
    generalize Bs.word l 2 = a2
    generalize Bs.word l 3 = a3
    have hz : (c.toNat : Int) / 64 = (c.toNat / 64 : Nat) := by omega
    rw [hq] at hz
    clear hq
    first | (have hz : (c.toNat : Int) / 64 = 0 := hz) | (have hz : (c.toNat : Int) / 64 = 1 := hz) | (have hz : (c.toNat : Int) / 64 = 2 := hz) | (have hz : (c.toNat : Int) / 64 = 3 := hz)
    go_enter Try.func10, Try.ntmps10
    go_wp2
    go_ret
    exact ⟨rfl, (Below.refl _ _).alloc (Nat.le_refl _) _⟩
/-- a block of memory -/
def Bs.Box (W : World) (g : Nat) (cs : Array Value) (ty : TypeId) : Prop := W.heap[g]? = some (.cells cs ty)
theorem Bs.Box.new (W : World) (cs : Array Value) (ty : TypeId) (g : Nat) (hg : g = W.heap.size) : Bs.Box (W.alloc (.cells cs ty)) g cs ty := by
  subst hg
  show (W.heap.push _)[W.heap.size]? = _
  simp
theorem Bs.Box.lt {W : World} {g : Nat} {cs : Array Value} {ty : TypeId} (h : Bs.Box W g cs ty) : g < W.heap.size := (Array.getElem?_eq_some_iff.1 h).1
theorem Bs.Box.alloc {W : World} {g : Nat} {cs : Array Value} {ty : TypeId} (h : Bs.Box W g cs ty) (o : Obj) : Bs.Box (W.alloc o) g cs ty := (Below.heap_alloc _ _ _ h.lt).trans h
theorem Bs.Box.on {W W' : World} {g b : Nat} {cs : Array Value} {ty : TypeId} (h : Bs.Box W g cs ty) (hb : Below b W W') (hg : g < b) : Bs.Box W' g cs ty := (hb.block g hg).trans h
theorem Bs.Box.set {W : World} {g : Nat} {cs : Array Value} {ty : TypeId} (h : Bs.Box W g cs ty) (i : Nat) (v : Value) : Bs.Box (W.setCell ⟨g, i, none⟩ v) g (cs.setIfInBounds i v) ty := by
  show (W.heap.modify g _)[g]? = _
  rw [Array.getElem?_modify, if_pos rfl, h]
  rfl
theorem Bs.Box.cell {W : World} {g : Nat} {cs : Array Value} {ty : TypeId} (h : Bs.Box W g cs ty) (i : Nat) {v : Value} (hv : cs[i]? = some v) : W.cell? ⟨g, i, none⟩ = some v := by
  unfold World.cell?
  rw [show W.heap[g]? = _ from h]
  exact hv
theorem Bs.Box.frozen {W : World} {g : Nat} {cs : Array Value} {ty : TypeId} (h : Bs.Box W g cs ty) (i : Nat) : W.frozen? ⟨g, i, none⟩ = false := by
  unfold World.frozen?
  rw [show W.heap[g]? = _ from h]
  simp
def Bs.row (l : List UInt8) : Array Value := #[.int .u64 (Bs.word l 0), .int .u64 (Bs.word l 1), .int .u64 (Bs.word l 2), .int .u64 (Bs.word l 3)]
theorem Bs.row_take {l : List UInt8} {i : Nat} {c : UInt8} (h : l[i]? = some c) {k : Nat} (hk : c.toNat / 64 = k) : (Bs.row (l.take i)).setIfInBounds k (.int .u64 (bits .or .u64 (Bs.word (l.take i) k) (IntKind.u64.wrap (2 ^ (c.toNat % 64))))) = Bs.row (l.take (i + 1)) := by
  have hc := c.toNat_lt
  unfold Bs.row
  rw [Bs.word_take h, Bs.word_take h, Bs.word_take h, Bs.word_take h, ← Bs.put_same hk]
  have hq : k = 0 ∨ k = 1 ∨ k = 2 ∨ k = 3 := by omega
  rcases hq with rfl | rfl | rfl | rfl
  · rw [Bs.put_other (k := 1) (by omega), Bs.put_other (k := 2) (by omega), Bs.put_other (k := 3) (by omega)]; rfl
  · rw [Bs.put_other (k := 0) (by omega), Bs.put_other (k := 2) (by omega), Bs.put_other (k := 3) (by omega)]; rfl
  · rw [Bs.put_other (k := 0) (by omega), Bs.put_other (k := 1) (by omega), Bs.put_other (k := 3) (by omega)]; rfl
  · rw [Bs.put_other (k := 0) (by omega), Bs.put_other (k := 1) (by omega), Bs.put_other (k := 2) (by omega)]; rfl
set_option maxRecDepth 100000 in
set_option maxHeartbeats 4000000 in
theorem Bs.Of (T : ByteArray) (w : World) (hT : T.size ≤ 1000) :
    Calls Try.prog 9 #[.string T] w fun e w' => e = .returned (Bs.val T.data.toList) ∧ Below w.heap.size w w' := by
  unfold Bs.val
  go_enter Try.func9, Try.ntmps9
  go_wp2_with fail
  go_loopw [7] (fun ix wr => ∃ i : Nat, i ≤ T.size ∧ ix = .int .i64 (i : Int) ∧ Hid (Bs.Box wr (w.heap.size + 1) (Bs.row (T.data.toList.take i)) 31) ∧ Hid (Below (w.heap.size + 1) (w.alloc (.cells #[.int .u64 0, .int .u64 0, .int .u64 0, .int .u64 0] 31)) wr)) (fun ix _ => T.size - (intOf ix).toNat)
  case atStart => exact ⟨0, Nat.zero_le _, rfl, Bs.Box.new _ _ _ _ (by simp), (Below.refl _ _).alloc (by simp) _⟩
  case round =>
    obtain ⟨i, hi, rfl, HX, HB⟩ := hrel
    by_cases hlt : i < T.size
    · have d1 : decide ((i : Int) < (T.size : Int)) = true := decide_eq_true (by omega)
      have hc := T[i].toNat_lt
      have HL : Hid (T.data.toList[i]? = some T[i]) := by
        unfold Hid
        rw [List.getElem?_eq_getElem (by rw [Array.length_toList]; exact hlt)]
        simp [ByteArray.getElem_eq_getElem_data]
      have hq : T[i].toNat / 64 = 0 ∨ T[i].toNat / 64 = 1 ∨ T[i].toNat / 64 = 2 ∨ T[i].toNat / 64 = 3 := by omega
      rcases hq with hq | hq | hq | hq
      all_goals
        have HT := Lib.hid (Bs.row_take HL.out hq)
        have hz : (T[i].toNat : Int) / 64 = (T[i].toNat / 64 : Nat) := by omega
        rw [hq] at hz
        have HS := Lib.hid (HX.out.set (T[i].toNat / 64) (.int .u64 (bits .or .u64 (Bs.word (T.data.toList.take i) (T[i].toNat / 64)) (IntKind.u64.wrap (2 ^ (T[i].toNat % 64))))))
        have hcell := HX.out.cell (T[i].toNat / 64) (v := .int .u64 (Bs.word (T.data.toList.take i) (T[i].toNat / 64))) (by rw [hq]; rfl)
        have hfz := HX.out.frozen (T[i].toNat / 64)
        rw [hq] at hcell hfz HS
        rw [HT.out] at HS
        clear hq HL HT
        first | (have hz : (T[i].toNat : Int) / 64 = 0 := hz) | (have hz : (T[i].toNat : Int) / 64 = 1 := hz) | (have hz : (T[i].toNat : Int) / 64 = 2 := hz) | (have hz : (T[i].toNat : Int) / 64 = 3 := hz)
        go_wp2
        go_region
        go_wp2
        go_roundw
        case rel => exact ⟨i + 1, by omega, by go_num, HS, (HB.out.setCell (Nat.le_refl _) _).drew⟩
        case measure => simp [intOf]; omega
    · have e : i = T.size := by omega
      subst e
      have d1 : decide ((T.size : Int) < (T.size : Int)) = false := decide_eq_false (by omega)
      have HTT : Hid (T.data.toList.take T.size = T.data.toList) := List.take_of_length_le (by rw [Array.length_toList]; exact Nat.le_refl _)
      rw [HTT.out] at HX
      have HZ := Lib.hid ((Bs.Box.new w #[.int .u64 0, .int .u64 0, .int .u64 0, .int .u64 0] 31 _ rfl).on HB.out (Nat.lt_succ_self _))
      have HE := Lib.hid ((((HZ.out.set 0 (.int .u64 (Bs.word T.data.toList 0))).set 1 (.int .u64 (Bs.word T.data.toList 1))).set 2 (.int .u64 (Bs.word T.data.toList 2))).set 3 (.int .u64 (Bs.word T.data.toList 3)))
      have x0 : wr.cell? ⟨w.heap.size + 1, 0, none⟩ = some (.int .u64 (Bs.word T.data.toList 0)) := HX.out.cell 0 rfl
      have x1 : wr.cell? ⟨w.heap.size + 1, 1, none⟩ = some (.int .u64 (Bs.word T.data.toList 1)) := HX.out.cell 1 rfl
      have x2 : wr.cell? ⟨w.heap.size + 1, 2, none⟩ = some (.int .u64 (Bs.word T.data.toList 2)) := HX.out.cell 2 rfl
      have x3 : wr.cell? ⟨w.heap.size + 1, 3, none⟩ = some (.int .u64 (Bs.word T.data.toList 3)) := HX.out.cell 3 rfl
      have z0 : wr.cell? ⟨w.heap.size, 0, none⟩ = some (.int .u64 0) := HZ.out.cell 0 rfl
      have z1 : wr.cell? ⟨w.heap.size, 1, none⟩ = some (.int .u64 0) := HZ.out.cell 1 rfl
      have z2 : wr.cell? ⟨w.heap.size, 2, none⟩ = some (.int .u64 0) := HZ.out.cell 2 rfl
      have z3 : wr.cell? ⟨w.heap.size, 3, none⟩ = some (.int .u64 0) := HZ.out.cell 3 rfl
      have f0 := HZ.out.frozen 0
      have f1 := HZ.out.frozen 1
      have f2 := HZ.out.frozen 2
      have f3 := HZ.out.frozen 3
      go_wp2
      have q0 := HE.out.cell 0 (v := .int .u64 (Bs.word T.data.toList 0)) rfl
      have q1 := HE.out.cell 1 (v := .int .u64 (Bs.word T.data.toList 1)) rfl
      have q2 := HE.out.cell 2 (v := .int .u64 (Bs.word T.data.toList 2)) rfl
      have q3 := HE.out.cell 3 (v := .int .u64 (Bs.word T.data.toList 3)) rfl
      refine bodyPost_ret (v := .agg #[.int .u64 (Bs.word T.data.toList 0), .int .u64 (Bs.word T.data.toList 1), .int .u64 (Bs.word T.data.toList 2), .int .u64 (Bs.word T.data.toList 3)]) (by simp [results, Try.results9, go_sem, q0, q1, q2, q3]) rfl ?_
      exact ⟨rfl, ((((((Below.refl _ _).alloc (Nat.le_refl _) _).trans (HB.out.mono (Nat.le_succ _))).setCell (Nat.le_refl _) _).setCell (Nat.le_refl _) _).setCell (Nat.le_refl _) _).setCell (Nat.le_refl _) _⟩
end Go.Proofs.Ytbhmepedegbgjaa

/-
  PLAIN: the landed reader's rows, part by part.
-/
import Derived.Test.YtboalkfagfgnpaaGreatDoorBJRd2
import Derived.Test.YtboalkfagfgnpaaGreatDoorProg
import Derived.WalkKit
import Derived.BigCall
import Derived.Lib.Hide
import Derived.Laws.OwnMore
import Derived.Deep.RegionLaw
import Derived.Test.YtboalkfagfgnpaaGreatDoorBSigntoRePlain
import Derived.WalkLawsBesides
import Derived.Deep.QuietTactic
namespace Go.Proofs.YtboalkfagfgnpaaGreatDoor
theorem Jr.text_le : ∀ (n : Nat) (l b r : List UInt8), l.length ≤ n → Jr.text l = some (b, r) → r.length < l.length := by
  intro n
  induction n with
  | zero =>
    intro l b r hl h
    have : l = [] := List.length_eq_zero_iff.1 (by omega)
    subst this
    cases h
  | succ n ih =>
    intro l b r hl h
    cases l with
    | nil => cases h
    | cons c t =>
      simp only [List.length_cons] at hl ⊢
      by_cases h1 : c = 34
      · subst h1
        rw [Jr.text_end] at h
        simp only [Option.some.injEq, Prod.mk.injEq] at h
        rw [h.2]
        omega
      · by_cases h2 : c = 92
        · subst h2
          rw [Jr.text_esc] at h
          cases he : Jr.escaped t with
          | none => rw [he] at h; cases h
          | some p =>
            obtain ⟨x, r1⟩ := p
            rw [he] at h
            have hlt := (Jr.escaped_lt he).2.2
            obtain ⟨⟨q1, q2⟩, hq, e⟩ := Option.map_eq_some_iff.1 h
            simp only [Prod.mk.injEq] at e
            have := ih r1 q1 q2 (by omega) hq
            rw [← e.2]
            omega
        · by_cases h3 : c.toNat < 32
          · rw [Jr.text_low t h3] at h
            cases h
          · rw [Jr.text_byte t h1 h2 h3] at h
            obtain ⟨⟨q1, q2⟩, hq, e⟩ := Option.map_eq_some_iff.1 h
            simp only [Prod.mk.injEq] at e
            have := ih t q1 q2 (by omega) hq
            rw [← e.2]
            omega
theorem Jr.key_le {rec : Bool} {l r : List UInt8} {ks : List ByteArray} (h : Jr.key rec l = some (ks, r)) : r.length ≤ l.length := by
  unfold Jr.key at h
  split at h
  · split at h
    · cases h
    · rename_i r0 h0
      split at h
      · cases h
      · rename_i k r1 h1
        split at h
        · cases h
        · rename_i r2 h2
          simp only [Option.some.injEq, Prod.mk.injEq] at h
          obtain ⟨-, rfl⟩ := h
          have e0 := Js.is_len h0
          have e1 := Jr.text_le _ _ _ _ (Nat.le_refl _) h1
          have e2 := Js.is_len h2
          omega
  · simp only [Option.some.injEq, Prod.mk.injEq] at h
    rw [h.2]
    exact Nat.le_refl _
theorem Jr.items_le {val : List UInt8 → Option (Vt × List UInt8)} (hv : ∀ l t r, val l = some (t, r) → r.length ≤ l.length) (rec : Bool) (e : UInt8) : ∀ (f : Nat) (l : List UInt8) (p : List ByteArray × List Vt) (r : List UInt8), Jr.itemsF val rec e f l = some (p, r) → r.length ≤ l.length
  | 0, _, _, _, h => by cases h
  | f + 1, l, p, r, h => by
    rw [Jr.itemsF] at h
    split at h
    · cases h
    · rename_i ks r1 h1
      have e1 := Jr.key_le h1
      split at h
      · cases h
      · rename_i t r2 h2
        have e2 := hv _ _ _ h2
        split at h
        · rename_i r3 h3
          have e3 := Js.is_len h3
          simp only [Option.some.injEq, Prod.mk.injEq] at h
          obtain ⟨-, rfl⟩ := h
          omega
        · split at h
          · cases h
          · rename_i r3 h3
            have e3 := Js.is_len h3
            obtain ⟨⟨q1, q2⟩, hq, e⟩ := Option.map_eq_some_iff.1 h
            simp only [Prod.mk.injEq] at e
            obtain ⟨-, rfl⟩ := e
            have := Jr.items_le hv rec _ f r3 q1 q2 hq
            omega
theorem Jr.list_le {val : List UInt8 → Option (Vt × List UInt8)} (hv : ∀ l t r, val l = some (t, r) → r.length ≤ l.length) {rec : Bool} {e : UInt8} {l : List UInt8} {p : List ByteArray × List Vt} {r : List UInt8} (h : Jr.list val rec e l = some (p, r)) : r.length ≤ l.length := by
  unfold Jr.list at h
  split at h
  · rename_i r0 h0
    have e0 := Js.is_len h0
    simp only [Option.some.injEq, Prod.mk.injEq] at h
    obtain ⟨-, rfl⟩ := h
    omega
  · have := Jr.items_le hv rec e _ _ _ _ h
    have := Js.ws_len l
    omega
theorem Jr.more_rest : ∀ (l : List UInt8) (n m : Nat) (r : List UInt8), Jr.more n l = some (m, r) → r.length ≤ l.length
  | [], n, m, r, e => by
    rw [Jr.more] at e
    simp only [Option.some.injEq, Prod.mk.injEq] at e
    rw [← e.2]
    exact Nat.le_refl _
  | c :: l, n, m, r, e => by
    rw [Jr.more] at e
    split at e
    · split at e
      · cases e
      · have := Jr.more_rest l _ m r e
        simp only [List.length_cons]
        omega
    · simp only [Option.some.injEq, Prod.mk.injEq] at e
      rw [← e.2]
      exact Nat.le_refl _
theorem Jr.digits_rest {l r : List UInt8} {m : Nat} (h : Jr.digits l = some (m, r)) : r.length ≤ l.length := by
  cases l with
  | nil => cases h
  | cons c l =>
    rw [Jr.digits] at h
    split at h
    · have := Jr.more_rest l _ m r h
      simp only [List.length_cons]
      omega
    · cases h
theorem Jr.number_le {l r : List UInt8} {t : Vt} (h : Jr.number l = some (t, r)) : r.length ≤ l.length := by
  unfold Jr.number at h
  split at h
  · obtain ⟨⟨q1, q2⟩, hq, e⟩ := Option.map_eq_some_iff.1 h
    simp only [Prod.mk.injEq] at e
    have := Jr.digits_rest hq
    rw [List.length_drop] at this
    rw [← e.2]
    omega
  · obtain ⟨⟨q1, q2⟩, hq, e⟩ := Option.map_eq_some_iff.1 h
    simp only [Prod.mk.injEq] at e
    rw [← e.2]
    exact Jr.digits_rest hq
theorem Jr.at_le {val : List UInt8 → Option (Vt × List UInt8)} (hv : ∀ l t r, val l = some (t, r) → r.length ≤ l.length) {l r : List UInt8} {t : Vt} (h : Jr.at val l = some (t, r)) : r.length ≤ l.length := by
  have hd : ∀ n, (l.drop n).length ≤ l.length := fun n => by rw [List.length_drop]; omega
  unfold Jr.at at h
  repeat' split at h
  all_goals first
    | (cases h; done)
    | (simp only [Option.some.injEq, Prod.mk.injEq] at h; rw [← h.2]; exact hd _)
    | (exact Jr.number_le h)
    | (obtain ⟨⟨q1, q2⟩, hq, e⟩ := Option.map_eq_some_iff.1 h
       simp only [Prod.mk.injEq] at e
       rw [← e.2]
       have h1 := hd 1
       first
         | (have := Jr.text_le _ _ _ _ (Nat.le_refl _) hq; omega)
         | (have := Jr.list_le hv hq; omega))
theorem Jr.value_le : ∀ (d : Nat) (l : List UInt8) (t : Vt) (r : List UInt8), Jr.value d l = some (t, r) → r.length ≤ l.length
  | 0, _, _, _, h => by cases h
  | d + 1, l, t, r, h => by
    rw [Jr.value] at h
    have := Jr.at_le (Jr.value_le d) h
    have := Js.ws_len l
    omega
/-- one part more -/
def Jr.part (val : List UInt8 → Option (Vt × List UInt8)) (rec : Bool) (s : List ByteArray × List Vt) (l : List UInt8) : Option ((List ByteArray × List Vt) × List UInt8) :=
  match Jr.key rec l with
  | none => none
  | some (ks, r1) =>
    match val r1 with
    | none => none
    | some (t, r2) => some ((s.1 ++ ks, s.2 ++ [t]), r2)
def Jr.rowF (P : List ByteArray × List Vt → List UInt8 → Option ((List ByteArray × List Vt) × List UInt8)) (e : UInt8) : Nat → List ByteArray × List Vt → List UInt8 → Option ((List ByteArray × List Vt) × List UInt8)
  | 0, _, _ => none
  | f + 1, s, l =>
    match P s l with
    | none => none
    | some (s2, r2) =>
      match Js.is e r2 with
      | some r3 => some (s2, r3)
      | none =>
        match Js.is 44 r2 with
        | none => none
        | some r3 => Jr.rowF P e f s2 r3
theorem Jr.part_le {val : List UInt8 → Option (Vt × List UInt8)} (hv : ∀ l t r, val l = some (t, r) → r.length ≤ l.length) {rec : Bool} {s s2 : List ByteArray × List Vt} {l r : List UInt8} (h : Jr.part val rec s l = some (s2, r)) : r.length ≤ l.length := by
  unfold Jr.part at h
  split at h
  · cases h
  · rename_i ks r1 h1
    have e1 := Jr.key_le h1
    split at h
    · cases h
    · rename_i t r2 h2
      have e2 := hv _ _ _ h2
      simp only [Option.some.injEq, Prod.mk.injEq] at h
      obtain ⟨-, rfl⟩ := h
      omega
theorem Jr.row_items (val : List UInt8 → Option (Vt × List UInt8)) (rec : Bool) (e : UInt8) : ∀ (f : Nat) (s : List ByteArray × List Vt) (l : List UInt8), Jr.rowF (Jr.part val rec) e f s l = (Jr.itemsF val rec e f l).map fun p => ((s.1 ++ p.1.1, s.2 ++ p.1.2), p.2)
  | 0, _, _ => rfl
  | f + 1, s, l => by
    rw [Jr.rowF, Jr.itemsF, Jr.part]
    cases Jr.key rec l with
    | none => rfl
    | some p =>
      obtain ⟨ks, r1⟩ := p
      simp only
      cases val r1 with
      | none => rfl
      | some p =>
        obtain ⟨t, r2⟩ := p
        simp only
        cases Js.is e r2 with
        | some r3 => rfl
        | none =>
          simp only
          cases Js.is 44 r2 with
          | none => rfl
          | some r3 =>
            simp only
            rw [Jr.row_items val rec e f]
            cases Jr.itemsF val rec e f r3 with
            | none => rfl
            | some p => simp
theorem Jr.part_many {val : List UInt8 → Option (Vt × List UInt8)} {rec : Bool} {s s2 : List ByteArray × List Vt} {l r : List UInt8} (h : Jr.part val rec s l = some (s2, r)) : s2.2.length = s.2.length + 1 := by
  unfold Jr.part at h
  split at h
  · cases h
  · split at h
    · cases h
    · simp only [Option.some.injEq, Prod.mk.injEq] at h
      rw [← h.1]
      simp
theorem Jr.number_nil : Jr.number [] = none := rfl
theorem Jr.value_nil : ∀ d, Jr.value d [] = none
  | 0 => rfl
  | _ + 1 => rfl
theorem Jr.part_nil (d : Nat) (rec : Bool) (s : List ByteArray × List Vt) : Jr.part (Jr.value d) rec s [] = none := by
  unfold Jr.part Jr.key
  cases rec with
  | true => rfl
  | false => simp [Jr.value_nil]
def Jr.rowL (P : List ByteArray × List Vt → List UInt8 → Option ((List ByteArray × List Vt) × List UInt8)) (e : UInt8) (s : List ByteArray × List Vt) (l : List UInt8) : Option ((List ByteArray × List Vt) × List UInt8) :=
  match Js.is e l with
  | some r => some (s, r)
  | none => Jr.rowF P e l.length s (Js.ws l)
theorem Jr.rowL_list (val : List UInt8 → Option (Vt × List UInt8)) (rec : Bool) (e : UInt8) (l : List UInt8) : Jr.rowL (Jr.part val rec) e ([], []) l = Jr.list val rec e l := by
  unfold Jr.rowL Jr.list
  cases Js.is e l with
  | some r => rfl
  | none =>
    simp only
    rw [Jr.row_items]
    cases Jr.itemsF val rec e l.length (Js.ws l) <;> simp
end Go.Proofs.YtboalkfagfgnpaaGreatDoor
/-
  A SET OF BYTES BY BITS: the walks of byteset.Of and Has.
-/
namespace Go.Proofs.YtboalkfagfgnpaaGreatDoor
open Go.RowKit
def Bs.put (k : Nat) (a : Int) (c : UInt8) : Int := if c.toNat / 64 = k then bits .or .u64 a (IntKind.u64.wrap (2 ^ (c.toNat % 64))) else a
def Bs.word (l : List UInt8) (k : Nat) : Int := l.foldl (Bs.put k) 0
def Bs.has (l : List UInt8) (c : UInt8) : Bool := bits .and .u64 (Bs.word l (c.toNat / 64) / 2 ^ (c.toNat % 64)) 1 == 1
def Bs.val (l : List UInt8) : Value := .agg #[.int .u64 (Bs.word l 0), .int .u64 (Bs.word l 1), .int .u64 (Bs.word l 2), .int .u64 (Bs.word l 3)]
theorem Bs.word_take {l : List UInt8} {i : Nat} {c : UInt8} (h : l[i]? = some c) (k : Nat) : Bs.word (l.take (i + 1)) k = Bs.put k (Bs.word (l.take i) k) c := by
  have hl := (List.getElem?_eq_some_iff.1 h).1
  have hc := (List.getElem?_eq_some_iff.1 h).2
  rw [List.take_succ_eq_append_getElem hl, hc]
  simp [Bs.word]
theorem Bs.put_same {k : Nat} {a : Int} {c : UInt8} (h : c.toNat / 64 = k) : Bs.put k a c = bits .or .u64 a (IntKind.u64.wrap (2 ^ (c.toNat % 64))) := if_pos h
theorem Bs.put_other {k : Nat} {a : Int} {c : UInt8} (h : c.toNat / 64 ≠ k) : Bs.put k a c = a := if_neg h
set_option maxRecDepth 100000 in
set_option maxHeartbeats 4000000 in
theorem Bs.Has (l : List UInt8) (c : UInt8) (w : World) :
    Calls Tryz.prog 93 #[Bs.val l, .int .u8 (c.toNat : Int)] w fun e w' => e = .returned (.bool (Bs.has l c)) ∧ Below w.heap.size w w' := by
  have hc := c.toNat_lt
  unfold Bs.val Bs.has
  have hq : c.toNat / 64 = 0 ∨ c.toNat / 64 = 1 ∨ c.toNat / 64 = 2 ∨ c.toNat / 64 = 3 := by omega
  rcases hq with hq | hq | hq | hq
  all_goals
    rw [hq]
    generalize Bs.word l 0 = a0
    generalize Bs.word l 1 = a1
    generalize Bs.word l 2 = a2
    generalize Bs.word l 3 = a3
    have hz : (c.toNat : Int) / 64 = (c.toNat / 64 : Nat) := by omega
    rw [hq] at hz
    clear hq
    first | (have hz : (c.toNat : Int) / 64 = 0 := hz) | (have hz : (c.toNat : Int) / 64 = 1 := hz) | (have hz : (c.toNat : Int) / 64 = 2 := hz) | (have hz : (c.toNat : Int) / 64 = 3 := hz)
    go_enter Tryz.func93, Tryz.ntmps93
    go_wp2
    go_ret
    exact ⟨rfl, (Below.refl _ _).alloc (Nat.le_refl _) _⟩
/-- a block of memory -/
def Bs.Box (W : World) (g : Nat) (cs : Array Value) (ty : TypeId) : Prop := W.heap[g]? = some (.cells cs ty)
theorem Bs.Box.new (W : World) (cs : Array Value) (ty : TypeId) (g : Nat) (hg : g = W.heap.size) : Bs.Box (W.alloc (.cells cs ty)) g cs ty := by
  subst hg
  show (W.heap.push _)[W.heap.size]? = _
  simp
theorem Bs.Box.lt {W : World} {g : Nat} {cs : Array Value} {ty : TypeId} (h : Bs.Box W g cs ty) : g < W.heap.size := (Array.getElem?_eq_some_iff.1 h).1
theorem Bs.Box.alloc {W : World} {g : Nat} {cs : Array Value} {ty : TypeId} (h : Bs.Box W g cs ty) (o : Obj) : Bs.Box (W.alloc o) g cs ty := (Below.heap_alloc _ _ _ h.lt).trans h
theorem Bs.Box.on {W W' : World} {g b : Nat} {cs : Array Value} {ty : TypeId} (h : Bs.Box W g cs ty) (hb : Below b W W') (hg : g < b) : Bs.Box W' g cs ty := (hb.block g hg).trans h
theorem Bs.Box.set {W : World} {g : Nat} {cs : Array Value} {ty : TypeId} (h : Bs.Box W g cs ty) (i : Nat) (v : Value) : Bs.Box (W.setCell ⟨g, i, none⟩ v) g (cs.setIfInBounds i v) ty := by
  show (W.heap.modify g _)[g]? = _
  rw [Array.getElem?_modify, if_pos rfl, h]
  rfl
theorem Bs.Box.cell {W : World} {g : Nat} {cs : Array Value} {ty : TypeId} (h : Bs.Box W g cs ty) (i : Nat) {v : Value} (hv : cs[i]? = some v) : W.cell? ⟨g, i, none⟩ = some v := by
  unfold World.cell?
  rw [show W.heap[g]? = _ from h]
  exact hv
theorem Bs.Box.frozen {W : World} {g : Nat} {cs : Array Value} {ty : TypeId} (h : Bs.Box W g cs ty) (i : Nat) : W.frozen? ⟨g, i, none⟩ = false := by
  unfold World.frozen?
  rw [show W.heap[g]? = _ from h]
  simp
def Bs.row (l : List UInt8) : Array Value := #[.int .u64 (Bs.word l 0), .int .u64 (Bs.word l 1), .int .u64 (Bs.word l 2), .int .u64 (Bs.word l 3)]
theorem Bs.row_take {l : List UInt8} {i : Nat} {c : UInt8} (h : l[i]? = some c) {k : Nat} (hk : c.toNat / 64 = k) : (Bs.row (l.take i)).setIfInBounds k (.int .u64 (bits .or .u64 (Bs.word (l.take i) k) (IntKind.u64.wrap (2 ^ (c.toNat % 64))))) = Bs.row (l.take (i + 1)) := by
  have hc := c.toNat_lt
  unfold Bs.row
  rw [Bs.word_take h, Bs.word_take h, Bs.word_take h, Bs.word_take h, ← Bs.put_same hk]
  have hq : k = 0 ∨ k = 1 ∨ k = 2 ∨ k = 3 := by omega
  rcases hq with rfl | rfl | rfl | rfl
  · rw [Bs.put_other (k := 1) (by omega), Bs.put_other (k := 2) (by omega), Bs.put_other (k := 3) (by omega)]; rfl
  · rw [Bs.put_other (k := 0) (by omega), Bs.put_other (k := 2) (by omega), Bs.put_other (k := 3) (by omega)]; rfl
  · rw [Bs.put_other (k := 0) (by omega), Bs.put_other (k := 1) (by omega), Bs.put_other (k := 3) (by omega)]; rfl
  · rw [Bs.put_other (k := 0) (by omega), Bs.put_other (k := 1) (by omega), Bs.put_other (k := 2) (by omega)]; rfl
set_option maxRecDepth 100000 in
set_option maxHeartbeats 4000000 in
theorem Bs.Of (T : ByteArray) (w : World) (hT : T.size ≤ 1000) :
    Calls Tryz.prog 91 #[.string T] w fun e w' => e = .returned (Bs.val T.data.toList) ∧ Below w.heap.size w w' := by
  unfold Bs.val
  go_enter Tryz.func91, Tryz.ntmps91
  go_wp2_with fail
  go_loopw [7] (fun ix wr => ∃ i : Nat, i ≤ T.size ∧ ix = .int .i64 (i : Int) ∧ Hid (Bs.Box wr (w.heap.size + 1) (Bs.row (T.data.toList.take i)) 110) ∧ Hid (Below (w.heap.size + 1) (w.alloc (.cells #[.int .u64 0, .int .u64 0, .int .u64 0, .int .u64 0] 110)) wr)) (fun ix _ => T.size - (intOf ix).toNat)
  case atStart => exact ⟨0, Nat.zero_le _, rfl, Bs.Box.new _ _ _ _ (by simp), (Below.refl _ _).alloc (by simp) _⟩
  case round =>
    obtain ⟨i, hi, rfl, HX, HB⟩ := hrel
    by_cases hlt : i < T.size
    · have d1 : decide ((i : Int) < (T.size : Int)) = true := decide_eq_true (by omega)
      have hc := T[i].toNat_lt
      have HL : Hid (T.data.toList[i]? = some T[i]) := by
        unfold Hid
        rw [List.getElem?_eq_getElem (by rw [Array.length_toList]; exact hlt)]
        simp [ByteArray.getElem_eq_getElem_data]
      have hq : T[i].toNat / 64 = 0 ∨ T[i].toNat / 64 = 1 ∨ T[i].toNat / 64 = 2 ∨ T[i].toNat / 64 = 3 := by omega
      rcases hq with hq | hq | hq | hq
      all_goals
        have HT := Lib.hid (Bs.row_take HL.out hq)
        have hz : (T[i].toNat : Int) / 64 = (T[i].toNat / 64 : Nat) := by omega
        rw [hq] at hz
        have HS := Lib.hid (HX.out.set (T[i].toNat / 64) (.int .u64 (bits .or .u64 (Bs.word (T.data.toList.take i) (T[i].toNat / 64)) (IntKind.u64.wrap (2 ^ (T[i].toNat % 64))))))
        have hcell := HX.out.cell (T[i].toNat / 64) (v := .int .u64 (Bs.word (T.data.toList.take i) (T[i].toNat / 64))) (by rw [hq]; rfl)
        have hfz := HX.out.frozen (T[i].toNat / 64)
        rw [hq] at hcell hfz HS
        rw [HT.out] at HS
        clear hq HL HT
        first | (have hz : (T[i].toNat : Int) / 64 = 0 := hz) | (have hz : (T[i].toNat : Int) / 64 = 1 := hz) | (have hz : (T[i].toNat : Int) / 64 = 2 := hz) | (have hz : (T[i].toNat : Int) / 64 = 3 := hz)
        go_wp2
        go_region
        go_wp2
        go_roundw
        case rel => exact ⟨i + 1, by omega, by go_num, HS, (HB.out.setCell (Nat.le_refl _) _).drew⟩
        case measure => simp [intOf]; omega
    · have e : i = T.size := by omega
      subst e
      have d1 : decide ((T.size : Int) < (T.size : Int)) = false := decide_eq_false (by omega)
      have HTT : Hid (T.data.toList.take T.size = T.data.toList) := List.take_of_length_le (by rw [Array.length_toList]; exact Nat.le_refl _)
      rw [HTT.out] at HX
      have HZ := Lib.hid ((Bs.Box.new w #[.int .u64 0, .int .u64 0, .int .u64 0, .int .u64 0] 110 _ rfl).on HB.out (Nat.lt_succ_self _))
      have HE := Lib.hid ((((HZ.out.set 0 (.int .u64 (Bs.word T.data.toList 0))).set 1 (.int .u64 (Bs.word T.data.toList 1))).set 2 (.int .u64 (Bs.word T.data.toList 2))).set 3 (.int .u64 (Bs.word T.data.toList 3)))
      have x0 : wr.cell? ⟨w.heap.size + 1, 0, none⟩ = some (.int .u64 (Bs.word T.data.toList 0)) := HX.out.cell 0 rfl
      have x1 : wr.cell? ⟨w.heap.size + 1, 1, none⟩ = some (.int .u64 (Bs.word T.data.toList 1)) := HX.out.cell 1 rfl
      have x2 : wr.cell? ⟨w.heap.size + 1, 2, none⟩ = some (.int .u64 (Bs.word T.data.toList 2)) := HX.out.cell 2 rfl
      have x3 : wr.cell? ⟨w.heap.size + 1, 3, none⟩ = some (.int .u64 (Bs.word T.data.toList 3)) := HX.out.cell 3 rfl
      have z0 : wr.cell? ⟨w.heap.size, 0, none⟩ = some (.int .u64 0) := HZ.out.cell 0 rfl
      have z1 : wr.cell? ⟨w.heap.size, 1, none⟩ = some (.int .u64 0) := HZ.out.cell 1 rfl
      have z2 : wr.cell? ⟨w.heap.size, 2, none⟩ = some (.int .u64 0) := HZ.out.cell 2 rfl
      have z3 : wr.cell? ⟨w.heap.size, 3, none⟩ = some (.int .u64 0) := HZ.out.cell 3 rfl
      have f0 := HZ.out.frozen 0
      have f1 := HZ.out.frozen 1
      have f2 := HZ.out.frozen 2
      have f3 := HZ.out.frozen 3
      go_wp2
      have q0 := HE.out.cell 0 (v := .int .u64 (Bs.word T.data.toList 0)) rfl
      have q1 := HE.out.cell 1 (v := .int .u64 (Bs.word T.data.toList 1)) rfl
      have q2 := HE.out.cell 2 (v := .int .u64 (Bs.word T.data.toList 2)) rfl
      have q3 := HE.out.cell 3 (v := .int .u64 (Bs.word T.data.toList 3)) rfl
      refine bodyPost_ret (v := .agg #[.int .u64 (Bs.word T.data.toList 0), .int .u64 (Bs.word T.data.toList 1), .int .u64 (Bs.word T.data.toList 2), .int .u64 (Bs.word T.data.toList 3)]) (by simp [results, Tryz.results91, go_sem, q0, q1, q2, q3]) rfl ?_
      exact ⟨rfl, ((((((Below.refl _ _).alloc (Nat.le_refl _) _).trans (HB.out.mono (Nat.le_succ _))).setCell (Nat.le_refl _) _).setCell (Nat.le_refl _) _).setCell (Nat.le_refl _) _).setCell (Nat.le_refl _) _⟩
end Go.Proofs.YtboalkfagfgnpaaGreatDoor
/-
  THE LANDED READER in memory; the walks of peek, skip, take, word, isDigit, digitOfSixteen.
-/
namespace Go.Proofs.YtboalkfagfgnpaaGreatDoor
open Go.RowKit
/-- what the reader throws -/
def Jr.fault : List PanicEntry := [{ v := .iface 28 (.int .i64 1000), recovered := false }]
/-- the reader's two cells: its text, and the place behind which l stands -/
def Jr.Rd (w : World) (g : Nat) (T : ByteArray) (l : List UInt8) : Prop :=
  ∃ i : Nat, i ≤ T.size ∧ T.data.toList.drop i = l ∧ T.size ≤ 65536 ∧ Bs.Box w g #[.string T, .int .i64 (i : Int)] 83
theorem Jr.grown_trans {a b c : World} {g : Option Nat} (h : a.grownBy b g) (k : b.grownBy c g) : a.grownBy c g :=
  ⟨k.os.trans h.os, k.tape.trans h.tape, k.output.trans h.output, Nat.le_trans h.size k.size, fun i hi hne => (k.block i (Nat.lt_of_lt_of_le hi h.size) hne).trans (h.block i hi hne)⟩
theorem Jr.grown_some {a b : World} (h : a.grownBy b none) (g : Option Nat) : a.grownBy b g := ⟨h.os, h.tape, h.output, h.size, fun i hi _ => h.block i hi (by simp)⟩
theorem Jr.grown_drew (w : World) : w.grownBy w.drew none := ⟨rfl, rfl, rfl, Nat.le_refl _, fun _ _ _ => rfl⟩
theorem Jr.grown_drewN (w : World) (n : Nat) : w.grownBy (w.drewN n) none := ⟨rfl, rfl, rfl, Nat.le_refl _, fun _ _ _ => rfl⟩
theorem Jr.grown_below {a b : World} (h : Below a.heap.size a b) : a.grownBy b none := ⟨h.os, h.tape, h.output, h.size, fun i hi _ => h.block i hi⟩
theorem Jr.below_grown {a b : World} (h : a.grownBy b none) : Below a.heap.size a b := ⟨h.os, h.tape, h.output, h.size, fun i hi => h.block i hi (by simp)⟩
theorem Jr.grown_set (w : World) (g i : Nat) (v : Value) : w.grownBy (w.setCell ⟨g, i, none⟩ v) (some g) :=
  ⟨rfl, rfl, rfl, by simp [World.setCell], fun k _ hk => Below.heap_setCell _ _ _ _ (fun q => hk (by rw [q]))⟩
theorem Jr.Rd.lt {w : World} {g : Nat} {T : ByteArray} {l : List UInt8} (h : Jr.Rd w g T l) : g < w.heap.size := by
  obtain ⟨i, _, _, _, hB⟩ := h
  exact hB.lt
theorem Jr.Rd.on {w w' : World} {g : Nat} {T : ByteArray} {l : List UInt8} (h : Jr.Rd w g T l) (hb : w.grownBy w' none) : Jr.Rd w' g T l := by
  obtain ⟨i, h1, h2, h3, hB⟩ := h
  exact ⟨i, h1, h2, h3, (hb.block g hB.lt (by simp)).trans hB⟩
theorem Jr.at_end {T : ByteArray} {i : Nat} (hi : i ≤ T.size) (h : T.data.toList.drop i = []) : i = T.size := by
  have := congrArg List.length h
  rw [List.length_drop, Wk.len_data] at this
  simp only [List.length_nil] at this
  omega
theorem Jr.at_byte {T : ByteArray} {i : Nat} {c : UInt8} {r : List UInt8} (h : T.data.toList.drop i = c :: r) : ∃ hlt : i < T.size, T[i] = c ∧ T.data.toList.drop (i + 1) = r := by
  have hl := congrArg List.length h
  rw [List.length_drop, Wk.len_data, List.length_cons] at hl
  have hlt : i < T.size := by omega
  refine ⟨hlt, ?_, ?_⟩
  · have e : (T.data.toList.drop i)[0]? = some c := by rw [h]; rfl
    rw [List.getElem?_drop, Nat.add_zero, List.getElem?_eq_getElem (by rw [Wk.len_data]; exact hlt)] at e
    injection e with e
  · rw [← List.drop_drop, h]
    rfl
set_option maxRecDepth 100000 in
set_option maxHeartbeats 1000000 in
theorem Jr.peek (l : List UInt8) (g : Nat) (T : ByteArray) (w : World) (h : Jr.Rd w g T l) :
    Calls Tryz.prog 69 #[.pointer (some ⟨g, 0, none⟩)] w fun e w' => e = .returned (.int .u8 ((l.headD 0).toNat : Int)) ∧ w.grownBy w' none := by
  obtain ⟨i, h1, h2, h3, hB⟩ := h
  have c0 : w.cell? ⟨g, 0, none⟩ = some (.string T) := hB.cell 0 rfl
  have c1 : w.cell? ⟨g, 1, none⟩ = some (.int .i64 (i : Int)) := hB.cell 1 rfl
  clear hB
  cases l with
  | nil =>
    have e := Jr.at_end h1 h2
    have d1 : ((i : Int) == (T.size : Int)) = true := beq_iff_eq.2 (by omega)
    clear h1 h2 e
    go_enter Tryz.func69, Tryz.ntmps69
    go_wp2
    go_quiet (fail)
    go_wp2
    go_ret
    exact ⟨rfl, Jr.grown_drewN _ _⟩
  | cons c r =>
    obtain ⟨hlt, e, -⟩ := Jr.at_byte h2
    have d1 : ((i : Int) == (T.size : Int)) = false := beq_eq_false_iff_ne.2 (by omega)
    rw [List.headD_cons, ← e]
    clear h1 h2 e
    go_enter Tryz.func69, Tryz.ntmps69
    go_wp2
    go_quiet (fail)
    go_wp2
    go_quiet (fail)
    go_wp2
    go_ret
    exact ⟨rfl, Jr.grown_trans (Jr.grown_drewN _ _) (Jr.grown_drewN _ _)⟩
/-- one byte on -/
theorem Jr.Rd.step {w w' : World} {g : Nat} {T : ByteArray} {i : Nat} (h3 : T.size ≤ 65536) (hB : Bs.Box w g #[.string T, .int .i64 (i : Int)] 83) (hb : w.grownBy w' none) (n : Nat) (hn : i + n ≤ T.size) {r' : List UInt8} (hr : r' = T.data.toList.drop (i + n)) : Jr.Rd (w'.setCell ⟨g, 1, none⟩ (.int .i64 ((i : Int) + n))) g T r' := by
  have hB2 : Bs.Box w' g #[.string T, .int .i64 (i : Int)] 83 := (hb.block g hB.lt (by simp)).trans hB
  refine ⟨i + n, hn, hr.symm, h3, ?_⟩
  have := hB2.set 1 (.int .i64 ((i : Int) + n))
  exact this
set_option maxRecDepth 100000 in
set_option maxHeartbeats 1000000 in
theorem Jr.skip_no (l : List UInt8) (c : UInt8) (hc : l.headD 0 ≠ c) (g : Nat) (T : ByteArray) (w : World) (h : Jr.Rd w g T l) :
    Calls Tryz.prog 75 #[.pointer (some ⟨g, 0, none⟩), .int .u8 (c.toNat : Int)] w fun e w' => e = .returned (.bool false) ∧ w.grownBy w' none := by
  have pk := Jr.peek l g T w h
  have d1 : (((l.headD 0).toNat : Int) != (c.toNat : Int)) = true := bne_iff_ne.2 (fun q => hc (UInt8.toNat_inj.1 (by omega)))
  clear h hc
  generalize ((l.headD 0).toNat : Int) = x at *
  generalize (c.toNat : Int) = y at *
  go_enter Tryz.func75, Tryz.ntmps75
  go_wp2_with (go_at_call 69; refine pk.mono ?_; rintro e w1 ⟨rfl, b1⟩)
  go_ret
  exact ⟨rfl, b1⟩
set_option maxRecDepth 100000 in
set_option maxHeartbeats 1000000 in
theorem Jr.skip_yes (c : UInt8) (r : List UInt8) (g : Nat) (T : ByteArray) (w : World) (h : Jr.Rd w g T (c :: r)) :
    Calls Tryz.prog 75 #[.pointer (some ⟨g, 0, none⟩), .int .u8 (c.toNat : Int)] w fun e w' => e = .returned (.bool true) ∧ w.grownBy w' (some g) ∧ Jr.Rd w' g T r := by
  have pk := Jr.peek (c :: r) g T w h
  rw [List.headD_cons] at pk
  obtain ⟨i, h1, h2, h3, hB⟩ := h
  obtain ⟨hlt, -, hr⟩ := Jr.at_byte h2
  generalize (c.toNat : Int) = y at *
  have HR := Lib.hid hr
  have HB := Lib.hid hB
  clear h1 h2 hr hB
  go_enter Tryz.func75, Tryz.ntmps75
  go_wp2_with (go_at_call 69; refine pk.mono ?_; rintro e w1 ⟨rfl, b1⟩; have hB1 : Bs.Box w1 g #[.string T, .int .i64 (i : Int)] 83 := (b1.block g HB.out.lt (by simp)).trans HB.out; have c1 : w1.cell? ⟨g, 1, none⟩ = some (.int .i64 (i : Int)) := hB1.cell 1 rfl; have f1 := hB1.frozen 1; have HB1 := Lib.hid b1; clear hB1 b1 pk)
  go_ret
  exact ⟨rfl, Jr.grown_trans (Jr.grown_some HB1.out _) (Jr.grown_set _ _ _ _), Jr.Rd.step h3 HB.out HB1.out 1 hlt HR.out.symm⟩
set_option maxRecDepth 100000 in
set_option maxHeartbeats 1000000 in
theorem Jr.take (c : UInt8) (r : List UInt8) (g : Nat) (T : ByteArray) (w : World) (h : Jr.Rd w g T (c :: r)) :
    Calls Tryz.prog 100 #[.pointer (some ⟨g, 0, none⟩)] w fun e w' => e = .returned (.int .u8 (c.toNat : Int)) ∧ w.grownBy w' (some g) ∧ Jr.Rd w' g T r := by
  obtain ⟨i, h1, h2, h3, hB⟩ := h
  obtain ⟨hlt, he, hr⟩ := Jr.at_byte h2
  have c0 : w.cell? ⟨g, 0, none⟩ = some (.string T) := hB.cell 0 rfl
  have c1 : w.cell? ⟨g, 1, none⟩ = some (.int .i64 (i : Int)) := hB.cell 1 rfl
  have f1 := hB.frozen 1
  have d1 : ((i : Int) == (T.size : Int)) = false := beq_eq_false_iff_ne.2 (by omega)
  rw [← he]
  have HR := Lib.hid hr
  have HB := Lib.hid hB
  clear h1 h2 hr hB he
  go_enter Tryz.func100, Tryz.ntmps100
  go_wp2
  go_quiet (fail)
  go_wp2
  go_quiet (fail)
  go_wp2
  go_ret
  exact ⟨rfl, Jr.grown_trans (Jr.grown_some (Jr.grown_drewN _ _) _) (Jr.grown_set _ _ _ _), Jr.Rd.step h3 HB.out (Jr.grown_drewN _ _) 1 hlt HR.out.symm⟩
set_option maxRecDepth 100000 in
set_option maxHeartbeats 1000000 in
theorem Jr.take_end (g : Nat) (T : ByteArray) (w : World) (h : Jr.Rd w g T []) :
    Calls Tryz.prog 100 #[.pointer (some ⟨g, 0, none⟩)] w fun e w' => e = .panicked Jr.fault ∧ w.grownBy w' (some g) := by
  obtain ⟨i, h1, h2, h3, hB⟩ := h
  have e := Jr.at_end h1 h2
  have c0 : w.cell? ⟨g, 0, none⟩ = some (.string T) := hB.cell 0 rfl
  have c1 : w.cell? ⟨g, 1, none⟩ = some (.int .i64 (i : Int)) := hB.cell 1 rfl
  have d1 : ((i : Int) == (T.size : Int)) = true := beq_iff_eq.2 (by omega)
  clear h1 h2 e hB
  go_enter Tryz.func100, Tryz.ntmps100
  go_wp2
  go_quiet (fail)
  go_wp2
  exact ⟨rfl, rfl, Jr.grown_some (Jr.grown_drewN _ _) _⟩
end Go.Proofs.YtboalkfagfgnpaaGreatDoor

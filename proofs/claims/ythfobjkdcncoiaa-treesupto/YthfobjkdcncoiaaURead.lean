/-
  THE ROW's READING OF TOKENS: they lie in memory; if their bulk is small, no list of them is long.
-/
import Derived.Test.YthfobjkdcncoiaaRows
import Derived.Test.YthfobjkdcncoiaaUNode
import Derived.Deep.Strs
import Derived.ChangeOld
import Derived.ProofKit
import Derived.OpenShut
namespace Go.Proofs.Ythfobjkdcncoiaa
open Go.ChangeShapes Go.WideShapes Go.ChangeAt Go.RowKit
theorem Rx.pos {H : Type} (d : DataW H) : 1 ≤ Rows.uptoBulk d := by
  cases d with
  | lit l => cases l <;> simp [Rows.uptoBulk]
  | _ => simp [Rows.uptoBulk]
theorem Rx.part {H : Type} : ∀ (l : List (DataW H)) (i : Nat) (d : DataW H), l[i]? = some d → Rows.uptoBulk d ≤ Rows.uptoBulkAll l
  | [], i, d, h => by simp at h
  | x :: r, 0, d, h => by simp at h; subst h; simp [Rows.uptoBulkAll]
  | x :: r, i + 1, d, h => by
    have := Rx.part r i d (by simpa using h)
    simp only [Rows.uptoBulkAll]
    omega
theorem Rx.len {H : Type} : ∀ (l : List (DataW H)), l.length ≤ Rows.uptoBulkAll l
  | [] => by simp
  | x :: r => by
    have := Rx.len r
    have := Rx.pos x
    simp only [Rows.uptoBulkAll, List.length_cons]
    omega
theorem Rx.oneI : Try.prog.cellsOf 3 = 1 := by kernel_rfl
theorem Rx.oneS : Try.prog.cellsOf 9 = 1 := by kernel_rfl
theorem Rx.oneB : Try.prog.cellsOf 4 = 1 := by kernel_rfl
theorem Rx.oneA : Try.prog.cellsOf 36 = 1 := by kernel_rfl
theorem Rx.two : Try.prog.cellsOf 48 = 2 := by kernel_rfl
theorem Rx.five : Try.prog.cellsOf 41 = 5 := by kernel_rfl
theorem Rx.strBulk {H : Type} (s : ByteArray) : s.size ≤ Rows.uptoBulk (DataW.lit (.string s.data.toList) : DataW H) := by
  have : s.data.toList.length = s.size := by rw [Array.length_toList]; rfl
  simp only [Rows.uptoBulk]
  omega
/-- an attribute -/
theorem Rx.attr {H : Type} {enc : TypeId × Value → H} {W : World} {base : Nat} {spare : Nat → Bool} {held : Bool} {fuel : Nat} {cs : List Value} {x : DataW H × List MemPlace} (h : DataW.trod enc Try.prog W base spare held fuel 48 cs = some x) :
    ∃ y : ByteArray × ByteArray, cs = [.string y.1, .string y.2] ∧ y.1.size ≤ Rows.uptoBulk x.1 := by
  obtain ⟨xs, n, rfl, rfl, hl, hlen, hf⟩ := DataW.trod_struct Try.underlying48 h
  rw [Rx.two] at hl
  match cs, hl with
  | [v0, v1], _ =>
  match xs, hlen with
  | [y0, y1], _ =>
    have g0 : DataW.trod enc Try.prog W base spare held n 9 [v0] = some y0 := by simpa [Rx.oneS] using hf 0 _ rfl
    have g1 : DataW.trod enc Try.prog W base spare held n 9 [v1] = some y1 := by simpa [Rx.oneS] using hf 1 _ rfl
    obtain ⟨s0, e0, e0', _⟩ := DataW.trod_string Try.underlying9 g0
    obtain ⟨s1, e1, _, _⟩ := DataW.trod_string Try.underlying9 g1
    simp only [List.cons.injEq, and_true] at e0 e1
    subst e0 e1
    refine ⟨(s0, s1), rfl, ?_⟩
    have := Rx.strBulk (H := H) s0
    have hall : Rows.uptoBulk (DataW.agg (List.map (fun x => x.fst) [y0, y1])) = Rows.uptoBulk y0.1 + (Rows.uptoBulk y1.1 + 0) + 1 := by simp [Rows.uptoBulk, Rows.uptoBulkAll]
    rw [hall, e0']
    dsimp only
    omega
/-- a slice, element by element -/
theorem Rx.slice {H : Type} {enc : TypeId × Value → H} {W : World} {base : Nat} {spare : Nat → Bool} {held : Bool} {fuel : Nat} {S E : TypeId} {k : Nat} (hS : Try.prog.underlying S = some (.slice E)) (hk : Try.prog.cellsOf E = k) (hk0 : 0 < k) {v : Value} {x : DataW H × List MemPlace} (h : DataW.trod enc Try.prog W base spare held fuel S [v] = some x) :
    ∃ (ak : Option Addr) (len cap : Nat), v = .slice ak len cap ∧ len ≤ cap ∧ cap ≤ maxLen ∧ len ≤ Rows.uptoBulk x.1 ∧ ∀ i, i < len → ∃ (b o n' : Nat) (cs : List Value) (y : DataW H × List MemPlace), ak = some ⟨b, o, none⟩ ∧ b < W.heap.size ∧ (∀ r, r < k → W.cell? ⟨b, o + i * k + r, none⟩ = cs[r]?) ∧ DataW.trod enc Try.prog W base spare held n' E cs = some y ∧ Rows.uptoBulk y.1 ≤ Rows.uptoBulk x.1 := by
  rcases DataW.trod_slice hS h with ⟨e4, _⟩ | ⟨a, len, cap, elems, rest, n', rfl, e4, hx4, _, hlc, hcm, hel, hget, _, _⟩
  · simp only [List.cons.injEq, and_true] at e4
    subst e4
    exact ⟨none, 0, 0, rfl, Nat.le_refl _, by decide, Nat.zero_le _, fun i hi => absurd hi (by omega)⟩
  · simp only [List.cons.injEq, and_true] at e4
    subst e4
    refine ⟨some a, len, cap, rfl, hlc, hcm, ?_, fun i hi => ?_⟩
    · have h1 := Rx.len (elems.map (fun x => x.fst))
      rw [List.length_map, hel] at h1
      have h2 : Rows.uptoBulk x.1 = Rows.uptoBulkAll (elems.map (fun x => x.fst)) + Rows.uptoBulkAll (rest.map (fun x => x.fst)) + 1 := by rw [hx4]; simp [Rows.uptoBulk]
      omega
    · have hspot : a.spot = none := by
        have hg := hget 0 (by omega)
        rw [hk, List.getElem?_eq_getElem (by omega)] at hg
        cases hcs : W.cells? base (a.add (0 * k)) k with
        | none => rw [hcs] at hg; cases hg
        | some cs' =>
          obtain ⟨_, hl6, hcell⟩ := World.cells?_some hcs
          have c0 := hcell 0 hk0
          rw [List.getElem?_eq_getElem (by omega)] at c0
          simpa [Addr.add] using World.cell?_spot c0
      have hg := hget i hi
      rw [hk, List.getElem?_eq_getElem (by omega)] at hg
      cases hcs : W.cells? base (a.add (i * k)) k with
      | none => rw [hcs] at hg; cases hg
      | some cs' =>
        rw [hcs] at hg
        obtain ⟨_, hl6, hcell⟩ := World.cells?_some hcs
        obtain ⟨b, o, spot⟩ := a
        dsimp only at hspot
        subst hspot
        have hc : ∀ r, r < k → W.cell? ⟨b, o + i * k + r, none⟩ = cs'[r]? := fun r hr => by
          have := hcell r hr
          rw [Ro.add, Ro.add] at this
          exact this
        refine ⟨b, o, n', cs', _, rfl, ?_, hc, hg, ?_⟩
        · have := hc 0 hk0
          rw [List.getElem?_eq_getElem (by omega)] at this
          exact World.block_lt_of_cell? _ _ this
        · have hp := Rx.part (elems.map (fun x => x.fst)) i (elems[i]'(by omega)).1 (by rw [List.getElem?_map, List.getElem?_eq_getElem (by omega)]; rfl)
          rw [hx4]
          simp only [Rows.uptoBulk]
          omega
/-- things one by one are a list of them -/
theorem Rx.list {α : Type} (P : Nat → α → Prop) : ∀ n, (∀ i, i < n → ∃ x, P i x) → ∃ l : List α, l.length = n ∧ ∀ i x, l[i]? = some x → P i x
  | 0, _ => ⟨[], rfl, fun i x h => by simp at h⟩
  | n + 1, h => by
    obtain ⟨l, hl, hp⟩ := Rx.list P n (fun i hi => h i (by omega))
    obtain ⟨x, hx⟩ := h n (by omega)
    refine ⟨l ++ [x], by simp [hl], fun i y hi => ?_⟩
    by_cases hlt : i < l.length
    · rw [List.getElem?_append_left hlt] at hi
      exact hp i y hi
    · have : i = n := by
        have := (List.getElem?_eq_some_iff.1 hi).1
        simp at this
        omega
      subst this
      rw [List.getElem?_append_right (by omega), hl, Nat.sub_self] at hi
      simp at hi
      subst hi
      exact hx
theorem Rx.attrs {H : Type} {enc : TypeId × Value → H} {W : World} {base : Nat} {spare : Nat → Bool} {held : Bool} {fuel : Nat} {v : Value} {x : DataW H × List MemPlace} (h : DataW.trod enc Try.prog W base spare held fuel 36 [v] = some x) :
    ∃ al : List (ByteArray × ByteArray), Ak.Lies W (· < W.heap.size) al v ∧ al.length ≤ Rows.uptoBulk x.1 ∧ ∀ y ∈ al, y.1.size ≤ Rows.uptoBulk x.1 := by
  obtain ⟨ak, len, cap, rfl, h1, h2, h3, hx⟩ := Rx.slice Try.underlying36 Rx.two (by decide) h
  obtain ⟨al, hl, hp⟩ := Rx.list (fun i (y : ByteArray × ByteArray) => (∃ b o, ak = some ⟨b, o, none⟩ ∧ b < W.heap.size ∧ W.cell? ⟨b, o + i * 2, none⟩ = some (.string y.1) ∧ W.cell? ⟨b, o + i * 2 + 1, none⟩ = some (.string y.2)) ∧ y.1.size ≤ Rows.uptoBulk x.1) len (fun i hi => by
    obtain ⟨b, o, n', cs, d, e, hb, hc, ht, hu⟩ := hx i hi
    obtain ⟨y, rfl, hy⟩ := Rx.attr ht
    exact ⟨y, ⟨b, o, e, hb, hc 0 (by decide), hc 1 (by decide)⟩, Nat.le_trans hy hu⟩)
  subst hl
  refine ⟨al, ⟨ak, cap, rfl, h1, h2, fun j y hj => ?_⟩, h3, fun y hy => ?_⟩
  · obtain ⟨b, o, e, hb, c1, c2⟩ := (hp j y hj).1
    exact ⟨b, o, e, hb, c1, c2⟩
  · obtain ⟨j, hj⟩ := List.getElem?_of_mem hy
    exact (hp j y hj).2
theorem Rx.bool {H : Type} {enc : TypeId × Value → H} {W : World} {base : Nat} {spare : Nat → Bool} {held : Bool} {fuel : Nat} {v : Value} {x : DataW H × List MemPlace} (h : DataW.trod enc Try.prog W base spare held fuel 4 [v] = some x) : ∃ b, v = .bool b := by
  obtain ⟨b, e, _⟩ := DataW.trod_bool Try.underlying4 h
  simp only [List.cons.injEq, and_true] at e
  exact ⟨b, e⟩
/-- a token -/
theorem Rx.token {H : Type} {enc : TypeId × Value → H} {W : World} {base : Nat} {spare : Nat → Bool} {held : Bool} {fuel : Nat} {cs : List Value} {x : DataW H × List MemPlace} (h : DataW.trod enc Try.prog W base spare held fuel 41 cs = some x) :
    ∃ (t : Tk) (av : Value), cs = [.int .i64 t.kind, .string t.name, .string t.text, av, .bool t.self] ∧ Ak.Lies W (· < W.heap.size) t.attrs av ∧ t.attrs.length ≤ Rows.uptoBulk x.1 ∧ (∀ y ∈ t.attrs, y.1.size ≤ Rows.uptoBulk x.1) ∧ t.text.size ≤ Rows.uptoBulk x.1 := by
  obtain ⟨xs, n, rfl, rfl, hl, hlen, hf⟩ := DataW.trod_struct Try.underlying41 h
  rw [Rx.five] at hl
  match cs, hl with
  | [v0, v1, v2, v3, v4], _ =>
  match xs, hlen with
  | [y0, y1, y2, y3, y4], _ =>
    have g0 : DataW.trod enc Try.prog W base spare held n 3 [v0] = some y0 := by simpa [Rx.oneI] using hf 0 _ rfl
    have g1 : DataW.trod enc Try.prog W base spare held n 9 [v1] = some y1 := by simpa [Rx.oneS] using hf 1 _ rfl
    have g2 : DataW.trod enc Try.prog W base spare held n 9 [v2] = some y2 := by simpa [Rx.oneS] using hf 2 _ rfl
    have g3 : DataW.trod enc Try.prog W base spare held n 36 [v3] = some y3 := by simpa [Rx.oneA] using hf 3 _ rfl
    have g4 : DataW.trod enc Try.prog W base spare held n 4 [v4] = some y4 := by simpa [Rx.oneB] using hf 4 _ rfl
    obtain ⟨k, e0, _, _⟩ := DataW.trod_int Try.underlying3 g0
    obtain ⟨s1, e1, _, _⟩ := DataW.trod_string Try.underlying9 g1
    obtain ⟨s2, e2, e2', _⟩ := DataW.trod_string Try.underlying9 g2
    obtain ⟨al, hal, hl1, hl2⟩ := Rx.attrs g3
    obtain ⟨bb, rfl⟩ := Rx.bool g4
    simp only [List.cons.injEq, and_true] at e0 e1 e2
    subst e0 e1 e2
    have hall : Rows.uptoBulk (DataW.agg (List.map (fun x => x.fst) [y0, y1, y2, y3, y4])) = Rows.uptoBulk y0.1 + (Rows.uptoBulk y1.1 + (Rows.uptoBulk y2.1 + (Rows.uptoBulk y3.1 + (Rows.uptoBulk y4.1 + 0)))) + 1 := by simp [Rows.uptoBulk, Rows.uptoBulkAll]
    have hs2 := Rx.strBulk (H := H) s2
    have e2b : Rows.uptoBulk y2.1 = Rows.uptoBulk (DataW.lit (.string s2.data.toList) : DataW H) := by rw [e2']
    refine ⟨⟨k, s1, s2, al, bb⟩, v3, rfl, hal, ?_, fun y hy => ?_, ?_⟩
    · rw [hall]; show al.length ≤ _; omega
    · rw [hall]; have := hl2 y hy; omega
    · rw [hall]; show s2.size ≤ _; omega
theorem Rx.sum_le (l : List Nat) (M : Nat) (h : ∀ x ∈ l, x ≤ M) : l.sum ≤ l.length * M := by
  induction l with
  | nil => exact Nat.zero_le _
  | cons a l ih =>
    rw [List.sum_cons, List.length_cons, Nat.succ_mul]
    have := h a List.mem_cons_self
    have := ih fun x hx => h x (List.mem_cons_of_mem _ hx)
    omega
/-- tokens -/
theorem Rx.tokens {H : Type} {enc : TypeId × Value → H} {W : World} {base : Nat} {spare : Nat → Bool} {held : Bool} {fuel : Nat} {v : Value} {x : DataW H × List MemPlace} (h : DataW.trod enc Try.prog W base spare held fuel 22 [v] = some x) (hx : Rows.uptoBulk x.1 ≤ 1048576) :
    ∃ ts : List Tk, Tk.Lies W (· < W.heap.size) ts v ∧ ts.length ≤ 1048576 ∧ (∀ t ∈ ts, t.attrs.length ≤ 1048576) ∧ Bt.bulk ts ≤ 140737488355328 ∧ ∀ t ∈ ts, ∀ y ∈ t.attrs, y.1.size ≤ 1048576 := by
  obtain ⟨ak, len, cap, rfl, h1, h2, h3, hX⟩ := Rx.slice Try.underlying22 Rx.five (by decide) h
  obtain ⟨ts, hl, hp⟩ := Rx.list (fun i (t : Tk) => (∃ b o av, ak = some ⟨b, o, none⟩ ∧ b < W.heap.size ∧ W.cell? ⟨b, o + i * 5, none⟩ = some (.int .i64 t.kind) ∧ W.cell? ⟨b, o + i * 5 + 1, none⟩ = some (.string t.name) ∧ W.cell? ⟨b, o + i * 5 + 2, none⟩ = some (.string t.text) ∧ W.cell? ⟨b, o + i * 5 + 3, none⟩ = some av ∧ W.cell? ⟨b, o + i * 5 + 4, none⟩ = some (.bool t.self) ∧ Ak.Lies W (· < W.heap.size) t.attrs av) ∧ t.attrs.length ≤ 1048576 ∧ (∀ y ∈ t.attrs, y.1.size ≤ 1048576) ∧ t.text.size ≤ 1048576) len (fun i hi => by
    obtain ⟨b, o, n', cs, d, e, hb, hc, ht, hu⟩ := hX i hi
    obtain ⟨t, av, rfl, ha, b1, b2, b3⟩ := Rx.token ht
    exact ⟨t, ⟨b, o, av, e, hb, hc 0 (by decide), hc 1 (by decide), hc 2 (by decide), hc 3 (by decide), hc 4 (by decide), ha⟩, by omega, fun y hy => by have := b2 y hy; omega, by omega⟩)
  subst hl
  refine ⟨ts, ⟨ak, cap, rfl, h1, h2, fun j t hj => ?_⟩, by omega, fun t ht => ?_, ?_, fun t ht => ?_⟩
  · exact (hp j t hj).1
  · obtain ⟨j, hj⟩ := List.getElem?_of_mem ht
    exact (hp j t hj).2.1
  · have := Rx.sum_le (ts.map (·.text.size)) 1048576 (fun q hq => by
      obtain ⟨t, ht, rfl⟩ := List.mem_map.1 hq
      obtain ⟨j, hj⟩ := List.getElem?_of_mem ht
      exact (hp j t hj).2.2.2)
    rw [List.length_map] at this
    have h5 : ts.length * 1048576 ≤ 1048576 * 1048576 := Nat.mul_le_mul_right _ (by omega)
    unfold Bt.bulk
    omega
  · obtain ⟨j, hj⟩ := List.getElem?_of_mem ht
    exact (hp j t hj).2.2.1
end Go.Proofs.Ythfobjkdcncoiaa

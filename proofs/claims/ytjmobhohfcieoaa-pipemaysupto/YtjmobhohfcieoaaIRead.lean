/-
  THE ROWS' READING OF WORDS AND COMMANDS: they are data in memory; of small bulk no part of them is long.
-/
import Derived.Test.YtjmobhohfcieoaaRows
import Derived.Test.YtjmobhohfcieoaaIAw
import Derived.Deep.Strs
import Derived.ChangeOld
import Derived.ProofKit
import Derived.OpenShut
namespace Go.Proofs.Ytjmobhohfcieoaa
open Go.ChangeShapes Go.WideShapes Go.ChangeAt Go.RowKit
theorem Rx.pos {H : Type} (d : DataW H) : 1 ≤ Rows.uptoBulk d := by
  cases d with
  | lit l => cases l <;> simp [Rows.uptoBulk]
  | _ => simp [Rows.uptoBulk]
theorem Rx.part {H : Type} : ∀ (l : List (DataW H)) (i : Nat) (d : DataW H), l[i]? = some d → Rows.uptoBulk d ≤ Rows.uptoBulkAll l
  | [], i, d, h => by simp at h
  | x :: r, 0, d, h => by simp at h; subst h; simp [Rows.uptoBulkAll]
  | x :: r, i + 1, d, h => by
    have := Rx.part r i d (by simpa using h)
    simp only [Rows.uptoBulkAll]
    omega
theorem Rx.len {H : Type} : ∀ (l : List (DataW H)), l.length ≤ Rows.uptoBulkAll l
  | [] => by simp
  | x :: r => by
    have := Rx.len r
    have := Rx.pos x
    simp only [Rows.uptoBulkAll, List.length_cons]
    omega
theorem Rx.oneI : Try.prog.cellsOf 3 = 1 := by kernel_rfl
theorem Rx.oneS : Try.prog.cellsOf 9 = 1 := by kernel_rfl
theorem Rx.strBulk {H : Type} (s : ByteArray) : s.size ≤ Rows.uptoBulk (DataW.lit (.string s.data.toList) : DataW H) := by
  have : s.data.toList.length = s.size := by rw [Array.length_toList]; rfl
  simp only [Rows.uptoBulk]
  omega
theorem Rx.slice {H : Type} {enc : TypeId × Value → H} {W : World} {base : Nat} {spare : Nat → Bool} {held : Bool} {fuel : Nat} {S E : TypeId} {k : Nat} (hS : Try.prog.underlying S = some (.slice E)) (hk : Try.prog.cellsOf E = k) (hk0 : 0 < k) {v : Value} {x : DataW H × List MemPlace} (h : DataW.trod enc Try.prog W base spare held fuel S [v] = some x) :
    ∃ (ak : Option Addr) (len cap : Nat), v = .slice ak len cap ∧ len ≤ cap ∧ cap ≤ maxLen ∧ len ≤ Rows.uptoBulk x.1 ∧ ∀ i, i < len → ∃ (b o n' : Nat) (cs : List Value) (y : DataW H × List MemPlace), ak = some ⟨b, o, none⟩ ∧ b < W.heap.size ∧ (∀ r, r < k → W.cell? ⟨b, o + i * k + r, none⟩ = cs[r]?) ∧ DataW.trod enc Try.prog W base spare held n' E cs = some y ∧ Rows.uptoBulk y.1 ≤ Rows.uptoBulk x.1 := by
  rcases DataW.trod_slice hS h with ⟨e4, _⟩ | ⟨a, len, cap, elems, rest, n', rfl, e4, hx4, _, hlc, hcm, hel, hget, _, _⟩
  · simp only [List.cons.injEq, and_true] at e4
    subst e4
    exact ⟨none, 0, 0, rfl, Nat.le_refl _, by decide, Nat.zero_le _, fun i hi => absurd hi (by omega)⟩
  · simp only [List.cons.injEq, and_true] at e4
    subst e4
    refine ⟨some a, len, cap, rfl, hlc, hcm, ?_, fun i hi => ?_⟩
    · have h1 := Rx.len (elems.map (fun x => x.fst))
      rw [List.length_map, hel] at h1
      have h2 : Rows.uptoBulk x.1 = Rows.uptoBulkAll (elems.map (fun x => x.fst)) + Rows.uptoBulkAll (rest.map (fun x => x.fst)) + 1 := by rw [hx4]; simp [Rows.uptoBulk]
      omega
    · have hspot : a.spot = none := by
        have hg := hget 0 (by omega)
        rw [hk, List.getElem?_eq_getElem (by omega)] at hg
        cases hcs : W.cells? base (a.add (0 * k)) k with
        | none => rw [hcs] at hg; cases hg
        | some cs' =>
          obtain ⟨_, hl6, hcell⟩ := World.cells?_some hcs
          have c0 := hcell 0 hk0
          rw [List.getElem?_eq_getElem (by omega)] at c0
          simpa [Addr.add] using World.cell?_spot c0
      have hg := hget i hi
      rw [hk, List.getElem?_eq_getElem (by omega)] at hg
      cases hcs : W.cells? base (a.add (i * k)) k with
      | none => rw [hcs] at hg; cases hg
      | some cs' =>
        rw [hcs] at hg
        obtain ⟨_, hl6, hcell⟩ := World.cells?_some hcs
        obtain ⟨b, o, spot⟩ := a
        dsimp only at hspot
        subst hspot
        have hc : ∀ r, r < k → W.cell? ⟨b, o + i * k + r, none⟩ = cs'[r]? := fun r hr => by
          have := hcell r hr
          rw [Ro.add, Ro.add] at this
          exact this
        refine ⟨b, o, n', cs', _, rfl, ?_, hc, hg, ?_⟩
        · have := hc 0 hk0
          rw [List.getElem?_eq_getElem (by omega)] at this
          exact World.block_lt_of_cell? _ _ this
        · have hp := Rx.part (elems.map (fun x => x.fst)) i (elems[i]'(by omega)).1 (by rw [List.getElem?_map, List.getElem?_eq_getElem (by omega)]; rfl)
          rw [hx4]
          simp only [Rows.uptoBulk]
          omega
theorem Rx.list {α : Type} (P : Nat → α → Prop) : ∀ n, (∀ i, i < n → ∃ x, P i x) → ∃ l : List α, l.length = n ∧ ∀ i x, l[i]? = some x → P i x
  | 0, _ => ⟨[], rfl, fun i x h => by simp at h⟩
  | n + 1, h => by
    obtain ⟨l, hl, hp⟩ := Rx.list P n (fun i hi => h i (by omega))
    obtain ⟨x, hx⟩ := h n (by omega)
    refine ⟨l ++ [x], by simp [hl], fun i y hi => ?_⟩
    by_cases hlt : i < l.length
    · rw [List.getElem?_append_left hlt] at hi
      exact hp i y hi
    · have : i = n := by
        have := (List.getElem?_eq_some_iff.1 hi).1
        simp at this
        omega
      subst this
      rw [List.getElem?_append_right (by omega), hl, Nat.sub_self] at hi
      simp at hi
      subst hi
      exact hx
theorem Rx.oneT : Try.prog.cellsOf 39 = 1 := by kernel_rfl
theorem Rx.oneG : Try.prog.cellsOf 36 = 1 := by kernel_rfl
theorem Rx.fourW : Try.prog.cellsOf 45 = 4 := by kernel_rfl
theorem Rx.fiveA : Try.prog.cellsOf 41 = 5 := by kernel_rfl
theorem Rx.twoC : Try.prog.cellsOf 38 = 2 := by kernel_rfl
theorem Rx.back (s : ByteArray) : (⟨s.data.toList.toArray⟩ : ByteArray) = s := by rw [Array.toArray_toList]
theorem Rx.strLen {H : Type} (s : ByteArray) {y : DataW H × List MemPlace} {m : List MemPlace} (e : y = (.lit (.string s.data.toList), m)) : s.data.toList.length ≤ Rows.uptoBulk y.1 := by
  rw [e]
  simp only [Rows.uptoBulk]
  omega
/-- texts in a row -/
theorem Rx.texts {H : Type} {enc : TypeId × Value → H} {W : World} {base : Nat} {spare : Nat → Bool} {held : Bool} {fuel : Nat} {v : Value} {x : DataW H × List MemPlace} (h : DataW.trod enc Try.prog W base spare held fuel 39 [v] = some x) :
    ∃ ts : List (List UInt8), St.Lies W (· < W.heap.size) ts v ∧ ts.length ≤ Rows.uptoBulk x.1 ∧ ∀ t ∈ ts, t.length ≤ Rows.uptoBulk x.1 := by
  obtain ⟨ak, len, cap, rfl, h1, h2, h3, hx⟩ := Rx.slice Try.underlying39 Rx.oneS (by decide) h
  obtain ⟨ts, hl, hp⟩ := Rx.list (fun i (t : List UInt8) => (∃ b o, ak = some ⟨b, o, none⟩ ∧ b < W.heap.size ∧ W.cell? ⟨b, o + i, none⟩ = some (.string ⟨t.toArray⟩)) ∧ t.length ≤ Rows.uptoBulk x.1) len (fun i hi => by
    obtain ⟨b, o, n', cs, y, e, hb, hc, ht, hu⟩ := hx i hi
    have c0 := hc 0 (by decide)
    obtain ⟨s, e1, e2, _⟩ := DataW.trod_string Try.underlying9 ht
    subst e1
    refine ⟨s.data.toList, ⟨b, o, e, hb, ?_⟩, Nat.le_trans (Rx.strLen s e2) hu⟩
    rw [Rx.back]
    simpa using c0)
  subst hl
  refine ⟨ts, ⟨ak, cap, rfl, h1, h2, fun j t hj => (hp j t hj).1⟩, h3, fun t ht => ?_⟩
  obtain ⟨j, hj⟩ := List.getElem?_of_mem ht
  exact (hp j t hj).2
/-- records one by one, in memory, are a row -/
theorem Rx.rows {α : Type} {k : Nat} {f : α → List Dt} {W : World} {ak : Option Addr} {cap : Nat} (Q : α → Prop) (hk : ∀ x, (f x).length = k) (hk0 : 0 < k) (len : Nat) (h1 : len ≤ cap) (h2 : cap ≤ maxLen)
    (hx : ∀ i, i < len → ∃ (b o : Nat) (cs : List Value) (y : α), ak = some ⟨b, o, none⟩ ∧ b < W.heap.size ∧ (∀ r, r < k → W.cell? ⟨b, o + i * k + r, none⟩ = cs[r]?) ∧ Dt.fits W (· < W.heap.size) (f y) cs ∧ Q y) :
    ∃ l : List α, l.length = len ∧ Dt.Lies W (· < W.heap.size) (Dt.rows k f l) (.slice ak len cap) ∧ ∀ y ∈ l, Q y := by
  obtain ⟨l, hl, hp⟩ := Rx.list (fun i (y : α) => (∃ b o cs, ak = some ⟨b, o, none⟩ ∧ b < W.heap.size ∧ (∀ r, r < k → W.cell? ⟨b, o + i * k + r, none⟩ = cs[r]?) ∧ Dt.fits W (· < W.heap.size) (f y) cs) ∧ Q y) len (fun i hi => by
    obtain ⟨b, o, cs, y, e, hb, hc, hf, hq⟩ := hx i hi
    exact ⟨y, ⟨b, o, cs, e, hb, hc, hf⟩, hq⟩)
  subst hl
  refine ⟨l, rfl, Dt.Lies.put hk hk0 h1 h2 fun i y hi => ?_, fun y hy => ?_⟩
  · obtain ⟨b, o, cs, e, hb, hc, hf⟩ := (hp i y hi).1
    refine ⟨b, o, e, hb, fun r d hr => ?_⟩
    obtain ⟨u, hu, hd⟩ := Dt.fits_get _ _ hf r d hr
    have hrk : r < k := by rw [← hk y]; exact (List.getElem?_eq_some_iff.1 hr).1
    exact ⟨u, (hc r hrk).trans hu, hd⟩
  · obtain ⟨j, hj⟩ := List.getElem?_of_mem hy
    exact (hp j y hj).2
/-- a word -/
theorem Rx.word {H : Type} {enc : TypeId × Value → H} {W : World} {base : Nat} {spare : Nat → Bool} {held : Bool} {fuel : Nat} {cs : List Value} {x : DataW H × List MemPlace} (h : DataW.trod enc Try.prog W base spare held fuel 45 cs = some x) :
    ∃ y : Wi, Dt.fits W (· < W.heap.size) (Wi.dt y) cs ∧ y.text.length ≤ Rows.uptoBulk x.1 ∧ y.path.length ≤ Rows.uptoBulk x.1 ∧ ∀ t ∈ y.path, t.length ≤ Rows.uptoBulk x.1 := by
  obtain ⟨xs, n, rfl, rfl, hl, hlen, hf⟩ := DataW.trod_struct Try.underlying45 h
  rw [Rx.fourW] at hl
  match cs, hl with
  | [v0, v1, v2, v3], _ =>
  match xs, hlen with
  | [y0, y1, y2, y3], _ =>
    have g0 : DataW.trod enc Try.prog W base spare held n 3 [v0] = some y0 := by simpa [Rx.oneI] using hf 0 _ rfl
    have g1 : DataW.trod enc Try.prog W base spare held n 9 [v1] = some y1 := by simpa [Rx.oneI, Rx.oneS] using hf 1 _ rfl
    have g2 : DataW.trod enc Try.prog W base spare held n 39 [v2] = some y2 := by simpa [Rx.oneI, Rx.oneS, Rx.oneT] using hf 2 _ rfl
    have g3 : DataW.trod enc Try.prog W base spare held n 3 [v3] = some y3 := by simpa [Rx.oneI, Rx.oneS, Rx.oneT] using hf 3 _ rfl
    obtain ⟨k0, e0, _, _⟩ := DataW.trod_int Try.underlying3 g0
    obtain ⟨s1, e1, e1', _⟩ := DataW.trod_string Try.underlying9 g1
    obtain ⟨ts, hts, ht1, ht2⟩ := Rx.texts g2
    obtain ⟨k3, e3, _, _⟩ := DataW.trod_int Try.underlying3 g3
    simp only [List.cons.injEq, and_true] at e0 e1 e3
    subst e0 e1 e3
    have hall : Rows.uptoBulk (DataW.agg (List.map (fun x => x.fst) [y0, y1, y2, y3])) = Rows.uptoBulk y0.1 + (Rows.uptoBulk y1.1 + (Rows.uptoBulk y2.1 + (Rows.uptoBulk y3.1 + 0))) + 1 := by simp [Rows.uptoBulk, Rows.uptoBulkAll]
    have hs1 := Rx.strLen s1 e1'
    refine ⟨⟨k0, s1.data.toList, ts, k3⟩, ⟨Dt.i, ?_, hts.data, Dt.i, trivial⟩, ?_, ?_, fun t ht => ?_⟩
    · show Dt.Lies W _ (.str s1.data.toList) (.string s1)
      unfold Dt.Lies
      rw [Rx.back]
    · rw [hall]; show s1.data.toList.length ≤ _; omega
    · rw [hall]; show ts.length ≤ _; omega
    · rw [hall]; have := ht2 t ht; omega
/-- words -/
theorem Rx.words {H : Type} {enc : TypeId × Value → H} {W : World} {base : Nat} {spare : Nat → Bool} {held : Bool} {fuel : Nat} {v : Value} {x : DataW H × List MemPlace} (h : DataW.trod enc Try.prog W base spare held fuel 22 [v] = some x) (hx : Rows.uptoBulk x.1 ≤ 1048576) :
    ∃ ws : List Wi, Dt.Lies W (· < W.heap.size) (Wi.rows ws) v ∧ Wi.Fits ws := by
  obtain ⟨ak, len, cap, rfl, h1, h2, h3, hX⟩ := Rx.slice Try.underlying22 Rx.fourW (by decide) h
  obtain ⟨ws, hl, hL, hq⟩ := Rx.rows (k := 4) (f := Wi.dt) (fun y : Wi => y.text.length ≤ 1048576 ∧ y.path.length ≤ 1048576 ∧ ∀ t ∈ y.path, t.length ≤ 1048576) (fun _ => rfl) (by decide) len h1 h2 (fun i hi => by
    obtain ⟨b, o, n', cs, d, e, hb, hc, ht, hu⟩ := hX i hi
    obtain ⟨y, hy, b1, b2, b3⟩ := Rx.word ht
    exact ⟨b, o, cs, y, e, hb, hc, hy, by omega, by omega, fun t ht => by have := b3 t ht; omega⟩)
  exact ⟨ws, hL, by omega, hq⟩
/-- an argument -/
theorem Rx.arg {H : Type} {enc : TypeId × Value → H} {W : World} {base : Nat} {spare : Nat → Bool} {held : Bool} {fuel : Nat} {cs : List Value} {x : DataW H × List MemPlace} (h : DataW.trod enc Try.prog W base spare held fuel 41 cs = some x) :
    ∃ y : Ar, Dt.fits W (· < W.heap.size) (Ar.dt y) cs ∧ y.name.length ≤ Rows.uptoBulk x.1 ∧ y.text.length ≤ Rows.uptoBulk x.1 ∧ y.path.length ≤ Rows.uptoBulk x.1 ∧ ∀ t ∈ y.path, t.length ≤ Rows.uptoBulk x.1 := by
  obtain ⟨xs, n, rfl, rfl, hl, hlen, hf⟩ := DataW.trod_struct Try.underlying41 h
  rw [Rx.fiveA] at hl
  match cs, hl with
  | [v0, v1, v2, v3, v4], _ =>
  match xs, hlen with
  | [y0, y1, y2, y3, y4], _ =>
    have g0 : DataW.trod enc Try.prog W base spare held n 3 [v0] = some y0 := by simpa [Rx.oneI] using hf 0 _ rfl
    have g1 : DataW.trod enc Try.prog W base spare held n 9 [v1] = some y1 := by simpa [Rx.oneI, Rx.oneS] using hf 1 _ rfl
    have g2 : DataW.trod enc Try.prog W base spare held n 39 [v2] = some y2 := by simpa [Rx.oneI, Rx.oneS, Rx.oneT] using hf 2 _ rfl
    have g3 : DataW.trod enc Try.prog W base spare held n 3 [v3] = some y3 := by simpa [Rx.oneI, Rx.oneS, Rx.oneT] using hf 3 _ rfl
    have g4 : DataW.trod enc Try.prog W base spare held n 9 [v4] = some y4 := by simpa [Rx.oneI, Rx.oneS, Rx.oneT] using hf 4 _ rfl
    obtain ⟨k0, e0, _, _⟩ := DataW.trod_int Try.underlying3 g0
    obtain ⟨s1, e1, e1', _⟩ := DataW.trod_string Try.underlying9 g1
    obtain ⟨ts, hts, ht1, ht2⟩ := Rx.texts g2
    obtain ⟨k3, e3, _, _⟩ := DataW.trod_int Try.underlying3 g3
    obtain ⟨s4, e4, e4', _⟩ := DataW.trod_string Try.underlying9 g4
    simp only [List.cons.injEq, and_true] at e0 e1 e3 e4
    subst e0 e1 e3 e4
    have hall : Rows.uptoBulk (DataW.agg (List.map (fun x => x.fst) [y0, y1, y2, y3, y4])) = Rows.uptoBulk y0.1 + (Rows.uptoBulk y1.1 + (Rows.uptoBulk y2.1 + (Rows.uptoBulk y3.1 + (Rows.uptoBulk y4.1 + 0)))) + 1 := by simp [Rows.uptoBulk, Rows.uptoBulkAll]
    have hs1 := Rx.strLen s1 e1'
    have hs4 := Rx.strLen s4 e4'
    refine ⟨⟨k0, s1.data.toList, ts, k3, s4.data.toList⟩, ⟨Dt.i, ?_, hts.data, Dt.i, ?_, trivial⟩, ?_, ?_, ?_, fun t ht => ?_⟩
    · show Dt.Lies W _ (.str s1.data.toList) (.string s1)
      unfold Dt.Lies
      rw [Rx.back]
    · show Dt.Lies W _ (.str s4.data.toList) (.string s4)
      unfold Dt.Lies
      rw [Rx.back]
    · rw [hall]; show s1.data.toList.length ≤ _; omega
    · rw [hall]; show s4.data.toList.length ≤ _; omega
    · rw [hall]; show ts.length ≤ _; omega
    · rw [hall]; have := ht2 t ht; omega
theorem Rx.args {H : Type} {enc : TypeId × Value → H} {W : World} {base : Nat} {spare : Nat → Bool} {held : Bool} {fuel : Nat} {v : Value} {x : DataW H × List MemPlace} (h : DataW.trod enc Try.prog W base spare held fuel 36 [v] = some x) :
    ∃ ar : List Ar, Dt.Lies W (· < W.heap.size) (Ar.rows ar) v ∧ ar.length ≤ Rows.uptoBulk x.1 ∧ ∀ y ∈ ar, y.name.length ≤ Rows.uptoBulk x.1 ∧ y.text.length ≤ Rows.uptoBulk x.1 ∧ y.path.length ≤ Rows.uptoBulk x.1 ∧ ∀ t ∈ y.path, t.length ≤ Rows.uptoBulk x.1 := by
  obtain ⟨ak, len, cap, rfl, h1, h2, h3, hX⟩ := Rx.slice Try.underlying36 Rx.fiveA (by decide) h
  obtain ⟨ws, hl, hL, hq⟩ := Rx.rows (k := 5) (f := Ar.dt) (fun y : Ar => y.name.length ≤ Rows.uptoBulk x.1 ∧ y.text.length ≤ Rows.uptoBulk x.1 ∧ y.path.length ≤ Rows.uptoBulk x.1 ∧ ∀ t ∈ y.path, t.length ≤ Rows.uptoBulk x.1) (fun _ => rfl) (by decide) len h1 h2 (fun i hi => by
    obtain ⟨b, o, n', cs, d, e, hb, hc, ht, hu⟩ := hX i hi
    obtain ⟨y, hy, b1, b2, b3, b4⟩ := Rx.arg ht
    exact ⟨b, o, cs, y, e, hb, hc, hy, by omega, by omega, by omega, fun t ht => by have := b4 t ht; omega⟩)
  exact ⟨ws, hL, by omega, hq⟩
/-- a command -/
theorem Rx.cmd {H : Type} {enc : TypeId × Value → H} {W : World} {base : Nat} {spare : Nat → Bool} {held : Bool} {fuel : Nat} {cs : List Value} {x : DataW H × List MemPlace} (h : DataW.trod enc Try.prog W base spare held fuel 38 cs = some x) :
    ∃ c : Cm, Dt.fits W (· < W.heap.size) (Cm.dt c) cs ∧ c.fn.length ≤ Rows.uptoBulk x.1 ∧ c.args.length ≤ Rows.uptoBulk x.1 ∧ ∀ y ∈ c.args, y.name.length ≤ Rows.uptoBulk x.1 ∧ y.text.length ≤ Rows.uptoBulk x.1 ∧ y.path.length ≤ Rows.uptoBulk x.1 ∧ ∀ t ∈ y.path, t.length ≤ Rows.uptoBulk x.1 := by
  obtain ⟨xs, n, rfl, rfl, hl, hlen, hf⟩ := DataW.trod_struct Try.underlying38 h
  rw [Rx.twoC] at hl
  match cs, hl with
  | [v0, v1], _ =>
  match xs, hlen with
  | [y0, y1], _ =>
    have g0 : DataW.trod enc Try.prog W base spare held n 9 [v0] = some y0 := by simpa [Rx.oneS] using hf 0 _ rfl
    have g1 : DataW.trod enc Try.prog W base spare held n 36 [v1] = some y1 := by simpa [Rx.oneS, Rx.oneG] using hf 1 _ rfl
    obtain ⟨s0, e0, e0', _⟩ := DataW.trod_string Try.underlying9 g0
    obtain ⟨ar, has, ha1, ha2⟩ := Rx.args g1
    simp only [List.cons.injEq, and_true] at e0
    subst e0
    have hall : Rows.uptoBulk (DataW.agg (List.map (fun x => x.fst) [y0, y1])) = Rows.uptoBulk y0.1 + (Rows.uptoBulk y1.1 + 0) + 1 := by simp [Rows.uptoBulk, Rows.uptoBulkAll]
    have hs0 := Rx.strLen s0 e0'
    refine ⟨⟨s0.data.toList, ar⟩, ⟨?_, has, trivial⟩, ?_, ?_, fun y hy => ?_⟩
    · show Dt.Lies W _ (.str s0.data.toList) (.string s0)
      unfold Dt.Lies
      rw [Rx.back]
    · rw [hall]; show s0.data.toList.length ≤ _; omega
    · rw [hall]; show ar.length ≤ _; omega
    · rw [hall]
      obtain ⟨q1, q2, q3, q4⟩ := ha2 y hy
      exact ⟨by omega, by omega, by omega, fun t ht => by have := q4 t ht; omega⟩
/-- commands -/
theorem Rx.cmds {H : Type} {enc : TypeId × Value → H} {W : World} {base : Nat} {spare : Nat → Bool} {held : Bool} {fuel : Nat} {v : Value} {x : DataW H × List MemPlace} (h : DataW.trod enc Try.prog W base spare held fuel 23 [v] = some x) (hx : Rows.uptoBulk x.1 ≤ 1048576) :
    ∃ cs : List Cm, Dt.Lies W (· < W.heap.size) (Cm.rows cs) v ∧ Cm.Held cs := by
  obtain ⟨ak, len, cap, rfl, h1, h2, h3, hX⟩ := Rx.slice Try.underlying23 Rx.twoC (by decide) h
  obtain ⟨cs, hl, hL, hq⟩ := Rx.rows (k := 2) (f := Cm.dt) (fun c : Cm => c.fn.length ≤ 1048576 ∧ c.args.length ≤ 1048576 ∧ ∀ x ∈ c.args, x.name.length ≤ 1048576 ∧ x.text.length ≤ 1048576 ∧ x.path.length ≤ 1048576 ∧ ∀ t ∈ x.path, t.length ≤ 1048576) (fun _ => rfl) (by decide) len h1 h2 (fun i hi => by
    obtain ⟨b, o, n', cs, d, e, hb, hc, ht, hu⟩ := hX i hi
    obtain ⟨y, hy, b1, b2, b3⟩ := Rx.cmd ht
    exact ⟨b, o, cs, y, e, hb, hc, hy, by omega, by omega, fun z hz => by
      obtain ⟨q1, q2, q3, q4⟩ := b3 z hz
      exact ⟨by omega, by omega, by omega, fun t ht => by have := q4 t ht; omega⟩⟩)
  exact ⟨cs, hL, by omega, hq⟩
end Go.Proofs.Ytjmobhohfcieoaa

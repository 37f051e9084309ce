/-
  THE ROW's READING OF A VALUE IS A TREE THAT LIES IN MEMORY; if each list that is met lies within the form's reach, each of the tree's is below 2^47 bytes.
-/
import Derived.Test.YtggfemdnoccmeaaDoorFrame3
import Derived.Test.YtggfemdnoccmeaaDoorVCopyV
import Derived.Deep.Strs
import Derived.ChangeOld
namespace Go.Proofs.YtggfemdnoccmeaaDoor
open Go.ChangeShapes Go.WideShapes Go.ChangeAt Go.RowKit
theorem Rd.one3 : Tryd.prog.cellsOf 3 = 1 := by kernel_rfl
theorem Rd.one22 : Tryd.prog.cellsOf 22 = 1 := by kernel_rfl
theorem Rd.one9 : Tryd.prog.cellsOf 9 = 1 := by kernel_rfl
theorem Rd.one23 : Tryd.prog.cellsOf 23 = 1 := by kernel_rfl
theorem Rd.one24 : Tryd.prog.cellsOf 24 = 1 := by kernel_rfl
theorem Rd.six : Tryd.prog.cellsOf 26 = 6 := by kernel_rfl
theorem Rd.bytesS : Tryd.prog.bytesOf 9 = 16 := by kernel_rfl
theorem Rd.bytesV : Tryd.prog.bytesOf 26 = 88 := by kernel_rfl
theorem Rd.wSlice {H : Type} {P : Program} {t e : TypeId} (ht : P.underlying t = some (.slice e)) (elems spare : List (DataW H)) : (elems.length + spare.length) * P.bytesOf e ∈ (DataW.slice elems spare).weights P t := by
  rw [DataW.weights, ht]
  exact List.mem_cons_self
theorem Rd.wAll {H : Type} {P : Program} {e : TypeId} : ∀ (l : List (DataW H)) (d : DataW H), d ∈ l → ∀ q ∈ d.weights P e, q ∈ DataW.weightsAll P e l
  | [], d, h => by cases h
  | x :: r, d, h => by
    intro q hq
    rw [DataW.weightsAll]
    rcases List.mem_cons.1 h with rfl | h
    · exact List.mem_append_left _ hq
    · exact List.mem_append_right _ (Rd.wAll r d h q hq)
theorem Rd.wElem {H : Type} {P : Program} {t e : TypeId} (ht : P.underlying t = some (.slice e)) (elems spare : List (DataW H)) (d : DataW H) (hd : d ∈ elems) : ∀ q ∈ d.weights P e, q ∈ (DataW.slice elems spare).weights P t := by
  intro q hq
  rw [DataW.weights, ht]
  exact List.mem_cons_of_mem _ (List.mem_append_left _ (Rd.wAll elems d hd q hq))
theorem Rd.wItems {H : Type} (a0 a1 a2 a3 a4 a5 : DataW H × List MemPlace) : ∀ q, (q ∈ a4.1.weights Tryd.prog 23 ∨ q ∈ a5.1.weights Tryd.prog 24) → q ∈ (DataW.agg (List.map (fun x => x.fst) [a0, a1, a2, a3, a4, a5])).weights Tryd.prog 26 := by
  intro q hq
  rw [DataW.weights, Tryd.underlying26]
  simp only [List.map_cons, List.map_nil, DataW.weightsEach, List.mem_append]
  rcases hq with hq | hq
  · exact .inr (.inr (.inr (.inr (.inl hq))))
  · exact .inr (.inr (.inr (.inr (.inr (.inl hq)))))
/-- a row of texts -/
theorem Rd.keysW {H : Type} {enc : TypeId × Value → H} {W : World} {base : Nat} {spare : Nat → Bool} {held : Bool} {fuel : Nat} {v : Value} {x : DataW H × List MemPlace} (h : DataW.trod enc Tryd.prog W base spare held fuel 24 [v] = some x) :
    ∃ (m : Nat) (ks : Nat → ByteArray) (ak : Option Addr) (d : Nat), v = .slice ak m d ∧ Vt.Keys W (· < W.heap.size) m ks ak d ∧ ((∀ q ∈ x.1.weights Tryd.prog 24, q ≤ reachBytes) → m * 16 ≤ 140737488355328) := by
  rcases Deep.open_strs Tryd.underlying24 Tryd.underlying9 Rd.one9 h with ⟨hc, rfl⟩ | ⟨a, len, cap, m, Sx, hc, hb, hl, hm, hmm, rfl, hx⟩
  · simp at hc
    exact ⟨0, fun _ => ⟨#[]⟩, none, 0, hc, ⟨Nat.le_refl _, by decide, fun j hj => absurd hj (by omega)⟩, fun _ => by omega⟩
  · simp at hc
    have hlm : len ≤ m := by rw [hmm]; split <;> omega
    refine ⟨len, Sx, some a, cap, hc, ⟨hl, hm, fun j hj => ?_⟩, ?_⟩
    · obtain ⟨b, o, spot⟩ := a
      have hcell := (hx j (by omega)).1
      have hspot : spot = none := by simpa [Addr.add] using World.cell?_spot (hx 0 (by omega)).1
      subst hspot
      rw [Vc.add] at hcell
      exact ⟨b, o, rfl, Vt.cell_lt hcell, hcell⟩
    · intro hq
      have h1 := hq _ (Rd.wSlice Tryd.underlying24 _ _)
      simp only [List.length_map, List.length_range] at h1
      have h2 : Tryd.prog.bytesOf 9 = 16 := Rd.bytesS
      rw [h2] at h1
      unfold reachBytes at h1
      omega
set_option maxRecDepth 100000 in
theorem Rd.valueW {H : Type} {enc : TypeId × Value → H} {W : World} {base : Nat} {spare : Nat → Bool} {held : Bool} : ∀ (fuel : Nat) (cs : List Value) (x : DataW H × List MemPlace), DataW.trod enc Tryd.prog W base spare held fuel 26 cs = some x →
    ∃ t : Vt, t.Lies W (· < W.heap.size) (.agg cs.toArray) ∧ ((∀ q ∈ x.1.weights Tryd.prog 26, q ≤ reachBytes) → t.sized) := by
  intro fuel
  induction fuel using Nat.strongRecOn with
  | _ fuel ih =>
    intro cs x h
    obtain ⟨xs, n, rfl, rfl, hl, hlen, hf⟩ := DataW.trod_struct Tryd.underlying26 h
    rw [Rd.six] at hl
    match cs, hl with
    | [v0, v1, v2, v3, v4, v5], _ =>
    match xs, hlen with
    | [y0, y1, y2, y3, y4, y5], _ =>
      have g0 : DataW.trod enc Tryd.prog W base spare held n 3 [v0] = some y0 := by simpa [Rd.one3] using hf 0 _ rfl
      have g1 : DataW.trod enc Tryd.prog W base spare held n 3 [v1] = some y1 := by simpa [Rd.one3] using hf 1 _ rfl
      have g2 : DataW.trod enc Tryd.prog W base spare held n 22 [v2] = some y2 := by simpa [Rd.one22] using hf 2 _ rfl
      have g3 : DataW.trod enc Tryd.prog W base spare held n 9 [v3] = some y3 := by simpa [Rd.one9] using hf 3 _ rfl
      have g4 : DataW.trod enc Tryd.prog W base spare held n 23 [v4] = some y4 := by simpa [Rd.one23] using hf 4 _ rfl
      have g5 : DataW.trod enc Tryd.prog W base spare held n 24 [v5] = some y5 := by simpa [Rd.one24] using hf 5 _ rfl
      obtain ⟨k, e0, _, _⟩ := DataW.trod_int Tryd.underlying3 g0
      obtain ⟨z, e1, _, _⟩ := DataW.trod_int Tryd.underlying3 g1
      obtain ⟨bb, e2, _, hb⟩ := DataW.trod_int Tryd.underlying22 g2
      obtain ⟨s, e3, _, _⟩ := DataW.trod_string Tryd.underlying9 g3
      obtain ⟨m, ks, ak, dk, e5, hK, hKb⟩ := Rd.keysW g5
      obtain ⟨b, rfl, hbl⟩ := Fr.u64 hb
      simp only [List.cons.injEq, and_true] at e0 e1 e2 e3
      subst e0 e1 e2 e3 e5
      have hw4 : (∀ q ∈ (DataW.agg (List.map (fun x => x.fst) [y0, y1, y2, y3, y4, y5])).weights Tryd.prog 26, q ≤ reachBytes) → ∀ q ∈ y4.1.weights Tryd.prog 23, q ≤ reachBytes := fun h q hq => h q (Rd.wItems _ _ _ _ _ _ q (.inl hq))
      have hw5 : (∀ q ∈ (DataW.agg (List.map (fun x => x.fst) [y0, y1, y2, y3, y4, y5])).weights Tryd.prog 26, q ≤ reachBytes) → ∀ q ∈ y5.1.weights Tryd.prog 24, q ≤ reachBytes := fun h q hq => h q (Rd.wItems _ _ _ _ _ _ q (.inr hq))
      rcases DataW.trod_slice Tryd.underlying23 g4 with ⟨e4, _⟩ | ⟨a, len, cap, elems, rest, n', rfl, e4, hx4, _, hlc, hcm, hel, hget, _, _⟩
      · simp only [List.cons.injEq, and_true] at e4
        subst e4
        exact ⟨.mk k z b s 0 (fun _ => .nil) m ks, ⟨none, 0, ak, dk, rfl, hbl, Nat.le_refl _, by decide, hK, fun i hi => absurd hi (by omega)⟩, fun hbk => ⟨by omega, hKb (hw5 hbk), fun i hi => absurd hi (by omega)⟩⟩
      · simp only [List.cons.injEq, and_true] at e4
        subst e4
        have spot0 : 0 < len → a.spot = none := by
          intro h0
          have hg := hget 0 h0
          rw [Rd.six, List.getElem?_eq_getElem (by omega)] at hg
          cases hcs : W.cells? base (a.add (0 * 6)) 6 with
          | none => rw [hcs] at hg; cases hg
          | some cs' =>
            obtain ⟨_, hl6, hcell⟩ := World.cells?_some hcs
            match cs', hl6 with
            | [v0, v1, v2, v3, v4, v5], _ => simpa [Addr.add] using World.cell?_spot (hcell 0 (by decide))
        have each : ∀ i, i < len → ∃ (t : Vt) (v0 v1 v2 v3 v4 v5 : Value) (b o : Nat), a = ⟨b, o, none⟩ ∧ b < W.heap.size ∧ W.cell? ⟨b, o + i * 6, none⟩ = some v0 ∧ W.cell? ⟨b, o + i * 6 + 1, none⟩ = some v1 ∧ W.cell? ⟨b, o + i * 6 + 2, none⟩ = some v2 ∧ W.cell? ⟨b, o + i * 6 + 3, none⟩ = some v3 ∧ W.cell? ⟨b, o + i * 6 + 4, none⟩ = some v4 ∧ W.cell? ⟨b, o + i * 6 + 5, none⟩ = some v5 ∧ t.Lies W (· < W.heap.size) (.agg #[v0, v1, v2, v3, v4, v5]) ∧ ((∀ q ∈ y4.1.weights Tryd.prog 23, q ≤ reachBytes) → t.sized) := by
          intro i hi
          have hg := hget i hi
          rw [Rd.six, List.getElem?_eq_getElem (by omega)] at hg
          cases hcs : W.cells? base (a.add (i * 6)) 6 with
          | none => rw [hcs] at hg; cases hg
          | some cs' =>
            rw [hcs] at hg
            obtain ⟨t, ht, htm⟩ := ih n' (by omega) cs' _ hg
            obtain ⟨_, hl6, hcell⟩ := World.cells?_some hcs
            match cs', hl6 with
            | [v0, v1, v2, v3, v4, v5], _ =>
              obtain ⟨b, o, spot⟩ := a
              have hspot : spot = none := spot0 (by omega)
              subst hspot
              have hc : ∀ r, r < 6 → W.cell? ⟨b, o + i * 6 + r, none⟩ = [v0, v1, v2, v3, v4, v5][r]? := fun r hr => by
                have := hcell r hr
                rw [Vc.add, Vc.add] at this
                exact this
              refine ⟨t, v0, v1, v2, v3, v4, v5, b, o, rfl, ?_, hc 0 (by decide), hc 1 (by decide), hc 2 (by decide), hc 3 (by decide), hc 4 (by decide), hc 5 (by decide), ht, fun hbk => htm ?_⟩
              · exact Vt.cell_lt (hc 0 (by decide))
              · intro q hq
                rw [hx4] at hbk
                exact hbk q (Rd.wElem Tryd.underlying23 _ _ _ (List.mem_map.2 ⟨_, List.getElem_mem (by omega), rfl⟩) q hq)
        refine ⟨.mk k z b s len (fun i => if hi : i < len then Classical.choose (each i hi) else .nil) m ks, ⟨some a, cap, ak, dk, rfl, hbl, hlc, hcm, hK, fun i hi => ?_⟩, fun hbk => ⟨?_, hKb (hw5 hbk), fun i hi => ?_⟩⟩
        · obtain ⟨v0, v1, v2, v3, v4, v5, b', o', e, hb', c0, c1, c2, c3, c4, c5, hl, _⟩ := Classical.choose_spec (each i hi)
          refine ⟨b', o', v0, v1, v2, v3, v4, v5, by rw [e], hb', c0, c1, c2, c3, c4, c5, ?_⟩
          dsimp only
          rw [dif_pos hi]
          exact hl
        · have h0 := hw4 hbk
          rw [hx4] at h0
          have h1 := h0 _ (Rd.wSlice Tryd.underlying23 _ _)
          have h2 : Tryd.prog.bytesOf 26 = 88 := Rd.bytesV
          rw [List.length_map, hel, h2] at h1
          unfold reachBytes at h1
          omega
        · dsimp only
          rw [dif_pos hi]
          obtain ⟨v0, v1, v2, v3, v4, v5, b', o', e, hb', c0, c1, c2, c3, c4, c5, hl, hmd⟩ := Classical.choose_spec (each i hi)
          exact hmd (hw4 hbk)
end Go.Proofs.YtggfemdnoccmeaaDoor

/-
  THE ROW's READING OF A VALUE IS A TREE THAT LIES IN MEMORY; if its bulk is small, no list of it is long.
-/
import Derived.Test.YtmiabkoodoekdaaDoorFrame3
import Derived.Test.YtmiabkoodoekdaaDoorVCopyV
import Derived.Deep.Strs
import Derived.ChangeOld
namespace Go.Proofs.YtmiabkoodoekdaaDoor
open Go.ChangeShapes Go.WideShapes Go.ChangeAt Go.RowKit

theorem Rd.pos {H : Type} (d : DataW H) : 1 ≤ Rows.uptoBulk d := by
  cases d with
  | lit l => cases l <;> simp [Rows.uptoBulk]
  | _ => simp [Rows.uptoBulk]
theorem Rd.part {H : Type} : ∀ (l : List (DataW H)) (i : Nat) (d : DataW H), l[i]? = some d → Rows.uptoBulk d ≤ Rows.uptoBulkAll l
  | [], i, d, h => by simp at h
  | x :: r, 0, d, h => by simp at h; subst h; simp [Rows.uptoBulkAll]
  | x :: r, i + 1, d, h => by
    have := Rd.part r i d (by simpa using h)
    simp only [Rows.uptoBulkAll]
    omega
theorem Rd.len {H : Type} : ∀ (l : List (DataW H)), l.length ≤ Rows.uptoBulkAll l
  | [] => by simp
  | x :: r => by
    have := Rd.len r
    have := Rd.pos x
    simp only [Rows.uptoBulkAll, List.length_cons]
    omega
theorem Rd.one3 : Tryd.prog.cellsOf 3 = 1 := by kernel_rfl
theorem Rd.one22 : Tryd.prog.cellsOf 22 = 1 := by kernel_rfl
theorem Rd.one9 : Tryd.prog.cellsOf 9 = 1 := by kernel_rfl
theorem Rd.one23 : Tryd.prog.cellsOf 23 = 1 := by kernel_rfl
theorem Rd.one24 : Tryd.prog.cellsOf 24 = 1 := by kernel_rfl
theorem Rd.six : Tryd.prog.cellsOf 26 = 6 := by kernel_rfl

/-- a row of texts -/
theorem Rd.keys {H : Type} {enc : TypeId × Value → H} {W : World} {base : Nat} {spare : Nat → Bool} {held : Bool} {fuel : Nat} {v : Value} {x : DataW H × List MemPlace} (h : DataW.trod enc Tryd.prog W base spare held fuel 24 [v] = some x) :
    ∃ (m : Nat) (ks : Nat → ByteArray) (ak : Option Addr) (d : Nat), v = .slice ak m d ∧ Vt.Keys W (· < W.heap.size) m ks ak d ∧ m ≤ Rows.uptoBulk x.1 := by
  rcases Deep.open_strs Tryd.underlying24 Tryd.underlying9 Rd.one9 h with ⟨hc, rfl⟩ | ⟨a, len, cap, m, Sx, hc, hb, hl, hm, hmm, rfl, hx⟩
  · simp at hc
    exact ⟨0, fun _ => ⟨#[]⟩, none, 0, hc, ⟨Nat.le_refl _, by decide, fun j hj => absurd hj (by omega)⟩, Nat.zero_le _⟩
  · simp at hc
    have hlm : len ≤ m := by rw [hmm]; split <;> omega
    refine ⟨len, Sx, some a, cap, hc, ⟨hl, hm, fun j hj => ?_⟩, ?_⟩
    · obtain ⟨b, o, spot⟩ := a
      have hcell := (hx j (by omega)).1
      have hspot : spot = none := by simpa [Addr.add] using World.cell?_spot (hx 0 (by omega)).1
      subst hspot
      rw [Vc.add] at hcell
      exact ⟨b, o, rfl, Vt.cell_lt hcell, hcell⟩
    · have := Rd.len ((List.range len).map fun i => (DataW.lit (.string (Sx i).data.toList) : DataW H))
      simp only [List.length_map, List.length_range] at this
      simp only [Rows.uptoBulk]
      omega

set_option maxRecDepth 100000 in
theorem Rd.value {H : Type} {enc : TypeId × Value → H} {W : World} {base : Nat} {spare : Nat → Bool} {held : Bool} : ∀ (fuel : Nat) (cs : List Value) (x : DataW H × List MemPlace), DataW.trod enc Tryd.prog W base spare held fuel 26 cs = some x →
    ∃ t : Vt, t.Lies W (· < W.heap.size) (.agg cs.toArray) ∧ (Rows.uptoBulk x.1 ≤ 1048576 → t.modest) := by
  intro fuel
  induction fuel using Nat.strongRecOn with
  | _ fuel ih =>
    intro cs x h
    obtain ⟨xs, n, rfl, rfl, hl, hlen, hf⟩ := DataW.trod_struct Tryd.underlying26 h
    rw [Rd.six] at hl
    match cs, hl with
    | [v0, v1, v2, v3, v4, v5], _ =>
    match xs, hlen with
    | [y0, y1, y2, y3, y4, y5], _ =>
      have g0 : DataW.trod enc Tryd.prog W base spare held n 3 [v0] = some y0 := by simpa [Rd.one3] using hf 0 _ rfl
      have g1 : DataW.trod enc Tryd.prog W base spare held n 3 [v1] = some y1 := by simpa [Rd.one3] using hf 1 _ rfl
      have g2 : DataW.trod enc Tryd.prog W base spare held n 22 [v2] = some y2 := by simpa [Rd.one22] using hf 2 _ rfl
      have g3 : DataW.trod enc Tryd.prog W base spare held n 9 [v3] = some y3 := by simpa [Rd.one9] using hf 3 _ rfl
      have g4 : DataW.trod enc Tryd.prog W base spare held n 23 [v4] = some y4 := by simpa [Rd.one23] using hf 4 _ rfl
      have g5 : DataW.trod enc Tryd.prog W base spare held n 24 [v5] = some y5 := by simpa [Rd.one24] using hf 5 _ rfl
      obtain ⟨k, e0, _, _⟩ := DataW.trod_int Tryd.underlying3 g0
      obtain ⟨z, e1, _, _⟩ := DataW.trod_int Tryd.underlying3 g1
      obtain ⟨bb, e2, _, hb⟩ := DataW.trod_int Tryd.underlying22 g2
      obtain ⟨s, e3, _, _⟩ := DataW.trod_string Tryd.underlying9 g3
      obtain ⟨m, ks, ak, dk, e5, hK, hKb⟩ := Rd.keys g5
      obtain ⟨b, rfl, hbl⟩ := Fr.u64 hb
      simp only [List.cons.injEq, and_true] at e0 e1 e2 e3
      subst e0 e1 e2 e3 e5
      have hall : Rows.uptoBulk (DataW.agg (List.map (fun x => x.fst) [y0, y1, y2, y3, y4, y5])) = Rows.uptoBulk y0.1 + (Rows.uptoBulk y1.1 + (Rows.uptoBulk y2.1 + (Rows.uptoBulk y3.1 + (Rows.uptoBulk y4.1 + (Rows.uptoBulk y5.1 + 0))))) + 1 := by simp [Rows.uptoBulk, Rows.uptoBulkAll]
      rw [hall]
      rcases DataW.trod_slice Tryd.underlying23 g4 with ⟨e4, _⟩ | ⟨a, len, cap, elems, rest, n', rfl, e4, hx4, _, hlc, hcm, hel, hget, _, _⟩
      · simp only [List.cons.injEq, and_true] at e4
        subst e4
        exact ⟨.mk k z b s 0 (fun _ => .nil) m ks, ⟨none, 0, ak, dk, rfl, hbl, Nat.le_refl _, by decide, hK, fun i hi => absurd hi (by omega)⟩, fun hbk => ⟨by omega, by omega, fun i hi => absurd hi (by omega)⟩⟩
      · simp only [List.cons.injEq, and_true] at e4
        subst e4
        have spot0 : 0 < len → a.spot = none := by
          intro h0
          have hg := hget 0 h0
          rw [Rd.six, List.getElem?_eq_getElem (by omega)] at hg
          cases hcs : W.cells? base (a.add (0 * 6)) 6 with
          | none => rw [hcs] at hg; cases hg
          | some cs' =>
            obtain ⟨_, hl6, hcell⟩ := World.cells?_some hcs
            match cs', hl6 with
            | [v0, v1, v2, v3, v4, v5], _ => simpa [Addr.add] using World.cell?_spot (hcell 0 (by decide))
        have each : ∀ i, i < len → ∃ (t : Vt) (v0 v1 v2 v3 v4 v5 : Value) (b o : Nat), a = ⟨b, o, none⟩ ∧ b < W.heap.size ∧ W.cell? ⟨b, o + i * 6, none⟩ = some v0 ∧ W.cell? ⟨b, o + i * 6 + 1, none⟩ = some v1 ∧ W.cell? ⟨b, o + i * 6 + 2, none⟩ = some v2 ∧ W.cell? ⟨b, o + i * 6 + 3, none⟩ = some v3 ∧ W.cell? ⟨b, o + i * 6 + 4, none⟩ = some v4 ∧ W.cell? ⟨b, o + i * 6 + 5, none⟩ = some v5 ∧ t.Lies W (· < W.heap.size) (.agg #[v0, v1, v2, v3, v4, v5]) ∧ (Rows.uptoBulk y4.1 ≤ 1048576 → t.modest) := by
          intro i hi
          have hg := hget i hi
          rw [Rd.six, List.getElem?_eq_getElem (by omega)] at hg
          cases hcs : W.cells? base (a.add (i * 6)) 6 with
          | none => rw [hcs] at hg; cases hg
          | some cs' =>
            rw [hcs] at hg
            obtain ⟨t, ht, htm⟩ := ih n' (by omega) cs' _ hg
            obtain ⟨_, hl6, hcell⟩ := World.cells?_some hcs
            match cs', hl6 with
            | [v0, v1, v2, v3, v4, v5], _ =>
              obtain ⟨b, o, spot⟩ := a
              have hspot : spot = none := spot0 (by omega)
              subst hspot
              have hc : ∀ r, r < 6 → W.cell? ⟨b, o + i * 6 + r, none⟩ = [v0, v1, v2, v3, v4, v5][r]? := fun r hr => by
                have := hcell r hr
                rw [Vc.add, Vc.add] at this
                exact this
              refine ⟨t, v0, v1, v2, v3, v4, v5, b, o, rfl, ?_, hc 0 (by decide), hc 1 (by decide), hc 2 (by decide), hc 3 (by decide), hc 4 (by decide), hc 5 (by decide), ht, fun hbk => htm ?_⟩
              · exact Vt.cell_lt (hc 0 (by decide))
              · have hp := Rd.part (elems.map (fun x => x.fst)) i (elems[i]'(by omega)).1 (by rw [List.getElem?_map, List.getElem?_eq_getElem (by omega)]; rfl)
                rw [hx4] at hbk
                simp only [Rows.uptoBulk] at hbk
                omega
        refine ⟨.mk k z b s len (fun i => if hi : i < len then Classical.choose (each i hi) else .nil) m ks, ⟨some a, cap, ak, dk, rfl, hbl, hlc, hcm, hK, fun i hi => ?_⟩, fun hbk => ⟨?_, by omega, fun i hi => ?_⟩⟩
        · obtain ⟨v0, v1, v2, v3, v4, v5, b', o', e, hb', c0, c1, c2, c3, c4, c5, hl, _⟩ := Classical.choose_spec (each i hi)
          refine ⟨b', o', v0, v1, v2, v3, v4, v5, by rw [e], hb', c0, c1, c2, c3, c4, c5, ?_⟩
          dsimp only
          rw [dif_pos hi]
          exact hl
        · have h1 := Rd.len (elems.map (fun x => x.fst))
          rw [List.length_map, hel] at h1
          have h2 : Rows.uptoBulk y4.1 = Rows.uptoBulkAll (elems.map (fun x => x.fst)) + Rows.uptoBulkAll (rest.map (fun x => x.fst)) + 1 := by rw [hx4]; simp [Rows.uptoBulk]
          omega
        · dsimp only
          rw [dif_pos hi]
          obtain ⟨v0, v1, v2, v3, v4, v5, b', o', e, hb', c0, c1, c2, c3, c4, c5, hl, hmd⟩ := Classical.choose_spec (each i hi)
          exact hmd (by omega)
end Go.Proofs.YtmiabkoodoekdaaDoor

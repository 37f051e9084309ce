/-
  PIECES IN MEMORY; the walks of stolelaw0.SamePieces (at the same pieces) and stoleref13.limits.
-/
import Derived.Test.YtfcmcmokmhklhaaDoorLPlain
import Derived.Deep.QuietTactic
namespace Go.Proofs.YtfcmcmokmhklhaaDoor
open Go.RowKit
theorem Lm.info : (Tryd.prog.info? 33).map (fun i => (i.zero, i.size, i.bytes)) = some (some (.agg #[.bool false, .string ⟨#[]⟩, .int .i64 0]), 3, 32) := by kernel_rfl
def Pc.three (p : Pc) : List Value := [.bool p.act, .string ⟨p.text.toArray⟩, .int .i64 (p.loc : Int)]
def Pc.cells (ps : List Pc) : List Value := ps.flatMap Pc.three
theorem Pc.cells_length (ps : List Pc) : (Pc.cells ps).length = ps.length * 3 := by
  induction ps with
  | nil => rfl
  | cons a ps ih => simp only [Pc.cells, List.flatMap_cons, List.length_append] at *; simp only [Pc.three, List.length_cons, List.length_nil]; omega
theorem Pc.cells_append (a b : List Pc) : Pc.cells (a ++ b) = Pc.cells a ++ Pc.cells b := by simp [Pc.cells]
theorem Pc.cells_snoc (a : List Pc) (p : Pc) : Pc.cells (a ++ [p]) = Pc.cells a ++ Pc.three p := by rw [Pc.cells_append]; simp [Pc.cells]
theorem Pc.three_one (p : Pc) : ∀ u ∈ Pc.three p, u.oneCell' = true := by
  intro u hu
  simp only [Pc.three, List.mem_cons, List.not_mem_nil, or_false] at hu
  rcases hu with rfl | rfl | rfl <;> rfl
theorem Pc.cells_get : ∀ (ps : List Pc) (j : Nat) (x : Pc), ps[j]? = some x → (Pc.cells ps)[j * 3]? = some (.bool x.act) ∧ (Pc.cells ps)[j * 3 + 1]? = some (.string ⟨x.text.toArray⟩) ∧ (Pc.cells ps)[j * 3 + 2]? = some (.int .i64 (x.loc : Int)) := by
  intro ps
  induction ps with
  | nil => intro j x h; simp at h
  | cons a ps ih =>
    intro j x h
    cases j with
    | zero =>
      simp only [List.getElem?_cons_zero, Option.some.injEq] at h
      subst h
      exact ⟨rfl, rfl, rfl⟩
    | succ j =>
      rw [List.getElem?_cons_succ] at h
      obtain ⟨h1, h2, h3⟩ := ih j x h
      have e : Pc.cells (a :: ps) = .bool a.act :: .string ⟨a.text.toArray⟩ :: .int .i64 (a.loc : Int) :: Pc.cells ps := rfl
      rw [e, show (j + 1) * 3 = j * 3 + 1 + 1 + 1 by omega]
      exact ⟨h1, h2, h3⟩
/-- pieces lie in a block of R -/
def Pc.Lies (w : World) (R : Nat → Prop) (ps : List Pc) (v : Value) : Prop :=
  ∃ a d, v = .slice a ps.length d ∧ ps.length ≤ d ∧ d ≤ maxLen ∧ ∀ j x, ps[j]? = some x → ∃ b o, a = some ⟨b, o, none⟩ ∧ R b ∧ w.cell? ⟨b, o + j * 3, none⟩ = some (.bool x.act) ∧ w.cell? ⟨b, o + j * 3 + 1, none⟩ = some (.string ⟨x.text.toArray⟩) ∧ w.cell? ⟨b, o + j * 3 + 2, none⟩ = some (.int .i64 (x.loc : Int))
theorem Pc.Lies.on {w w' : World} {R R' : Nat → Prop} {ps : List Pc} {v : Value} (h : Pc.Lies w R ps v) (hR : ∀ k, R k → R' k ∧ w'.heap[k]? = w.heap[k]?) : Pc.Lies w' R' ps v := by
  obtain ⟨a, d, e, h1, h2, hx⟩ := h
  refine ⟨a, d, e, h1, h2, fun i t hi => ?_⟩
  obtain ⟨b, o, ea, hb, c0, c1, c2⟩ := hx i t hi
  obtain ⟨hb', hw⟩ := hR b hb
  exact ⟨b, o, ea, hb', (World.cell?_of_block (a := ⟨b, o + i * 3, none⟩) hw).trans c0, (World.cell?_of_block (a := ⟨b, o + i * 3 + 1, none⟩) hw).trans c1, (World.cell?_of_block (a := ⟨b, o + i * 3 + 2, none⟩) hw).trans c2⟩
theorem Pc.Lies.nil (w : World) (R : Nat → Prop) : Pc.Lies w R [] (.slice none 0 0) := ⟨none, 0, rfl, Nat.le_refl _, Nat.zero_le _, fun j x h => by simp at h⟩
theorem Pc.Lies.own {w : World} {base : Nat} {ps : List Pc} {v : Value} (h : w.ownsRow base 33 3 v ps.length (Pc.cells ps)) : Pc.Lies w (fun k => base ≤ k ∧ k < w.heap.size) ps v := by
  have hc := fun g hg => h.cells (g := g) hg
  have hlt := h.lt
  rcases h.2 with ⟨rfl, hn⟩ | ⟨g, cap, cur, rfl, hbg, hg, hnc, hcm, hcs, htake⟩
  · have : ps = [] := List.eq_nil_of_length_eq_zero hn
    subst this
    exact Pc.Lies.nil _ _
  · refine ⟨some ⟨g, 0, none⟩, cap, rfl, hnc, hcm, fun j x hj => ?_⟩
    obtain ⟨h1, h2, h3⟩ := Pc.cells_get ps j x hj
    have c1 := hc g rfl _ _ h1
    have c2 := hc g rfl _ _ h2
    have c3 := hc g rfl _ _ h3
    rw [Ro.add] at c1 c2 c3
    exact ⟨g, 0, rfl, hlt g rfl, c1, by rw [show 0 + j * 3 + 1 = 0 + (j * 3 + 1) by omega]; exact c2, by rw [show 0 + j * 3 + 2 = 0 + (j * 3 + 2) by omega]; exact c3⟩
/-- a piece that was laid anew -/
theorem Lm.cell3 (W : World) (a : Bool) (T : ByteArray) (k : Nat) : ∀ (j : Nat) (u : Value), (Pc.three ⟨a, T.data.toList, k⟩)[j]? = some u → (W.alloc (.cells #[.bool a, .string T, .int .i64 (k : Int)] 33)).cell? ⟨W.heap.size, j, none⟩ = some u := by
  intro j u hj
  unfold World.cell?
  rw [show (W.alloc (.cells #[.bool a, .string T, .int .i64 (k : Int)] 33)).heap[W.heap.size]? = some _ from heap_alloc_new W _]
  simpa [Pc.three] using hj
set_option maxHeartbeats 2000000 in
theorem Sa.pieces (ps : List Pc) (v1 v2 : Value) (R R' : Nat → Prop) (w : World) (h1 : Pc.Lies w R ps v1) (h2 : Pc.Lies w R' ps v2) :
    Calls Tryd.prog 10 #[v1, v2] w fun e w' => e = .returned (.bool true) ∧ ∃ n, w' = w.drewN n := by
  obtain ⟨a1, d1, rfl, l1, m1, x1⟩ := h1
  obtain ⟨a2, d2, rfl, l2, m2, x2⟩ := h2
  have hm : ps.length ≤ 9223372036854775807 := by unfold maxLen at m1; omega
  have X1 := Lib.hid x1
  have X2 := Lib.hid x2
  clear x1 x2
  go_enter Tryd.func10, Tryd.ntmps10
  go_wp2
  go_loopw [5] (fun i wr => ∃ j n : Nat, j ≤ ps.length ∧ i = .int .i64 (j : Int) ∧ wr = w.drewN n) (fun i _ => ps.length - (intOf i).toNat)
  case atStart => exact ⟨0, 0, Nat.zero_le _, rfl, rfl⟩
  case round =>
    obtain ⟨j, n, hj, rfl, rfl⟩ := hrel
    by_cases hlt : j < ps.length
    · obtain ⟨b1, o1, rfl, _, c0, c1, c2⟩ := X1.out j ps[j] (List.getElem?_eq_getElem hlt)
      obtain ⟨b2, o2, rfl, _, e0, e1, e2⟩ := X2.out j ps[j] (List.getElem?_eq_getElem hlt)
      generalize ps[j] = y at *
      obtain ⟨ya, yt, yl⟩ := y
      have hd1 : j < d1 := by omega
      have hd2 : j < d2 := by omega
      simp only at c0 c1 c2 e0 e1 e2
      go_wp2_with fail
      go_quiet (fail)
      go_wp2
      go_roundw
      case rel => exact ⟨j + 1, _, by omega, by go_num, rfl⟩
      case measure => simp [intOf]; omega
    · have e : j = ps.length := by omega
      subst e
      go_wp2
      go_ret
      exact ⟨rfl, n, rfl⟩
theorem Lx.long_take {ps : List Pc} {j : Nat} {p : Pc} (h : ps[j]? = some p) (ha : Lx.long (ps.take j) = false) (hp : (p.act && decide (256 < p.text.length)) = false) : Lx.long (ps.take (j + 1)) = false := by
  obtain ⟨hl, rfl⟩ := List.getElem?_eq_some_iff.1 h
  unfold Lx.long at *
  rw [List.take_succ_eq_append_getElem hl, List.any_append, ha, List.any_cons, hp]
  rfl
theorem Lx.long_at {ps : List Pc} {j : Nat} {p : Pc} (h : ps[j]? = some p) (hp : (p.act && decide (256 < p.text.length)) = true) : Lx.long ps = true := List.any_eq_true.2 ⟨p, List.mem_of_getElem? h, hp⟩
/-- what limits answers -/
def Lm.lim (ps : List Pc) (v : Value) : Value := if Lx.long ps = true then .slice none 0 0 else if 1024 < ps.length then .slice none 0 0 else v
theorem Lm.lim_lies {w : World} {R : Nat → Prop} {ps : List Pc} {v : Value} (h : Pc.Lies w R ps v) : Pc.Lies w R (Lx.limits ps).1 (Lm.lim ps v) := by
  unfold Lm.lim Lx.limits
  split
  · exact Pc.Lies.nil _ _
  · split
    · exact Pc.Lies.nil _ _
    · exact h
set_option maxRecDepth 100000 in
set_option maxHeartbeats 2000000 in
theorem Lr.limits (ps : List Pc) (v : Value) (R : Nat → Prop) (w : World) (h : Pc.Lies w R ps v) :
    Calls Tryd.prog 26 #[v] w fun e w' => e = .returned (.tuple #[Lm.lim ps v, .int .i64 (Lx.limits ps).2]) ∧ w' = w := by
  obtain ⟨V, hV⟩ : ∃ V, Lm.lim ps v = V := ⟨_, rfl⟩
  obtain ⟨E, hE⟩ : ∃ E, (Lx.limits ps).2 = E := ⟨_, rfl⟩
  rw [hV, hE]
  have HV := Lib.hid hV
  have HE := Lib.hid hE
  clear hV hE
  obtain ⟨a1, d1, rfl, l1, m1, x1⟩ := h
  have hm : ps.length ≤ 9223372036854775807 := by unfold maxLen at m1; omega
  have X1 := Lib.hid x1
  clear x1
  go_enter Tryd.func26, Tryd.ntmps26
  go_wp2
  go_loopw [4] (fun i wr => ∃ j : Nat, j ≤ ps.length ∧ i = .int .i64 (j : Int) ∧ Hid (Lx.long (ps.take j) = false) ∧ wr = w) (fun i _ => ps.length - (intOf i).toNat)
  case atStart => exact ⟨0, Nat.zero_le _, rfl, rfl, rfl⟩
  case round =>
    obtain ⟨j, hj, rfl, HL, hw⟩ := hrel
    have hw := hw.symm
    subst hw
    by_cases hlt : j < ps.length
    · have hg := List.getElem?_eq_getElem hlt
      obtain ⟨b1, o1, rfl, _, c0, c1, c2⟩ := X1.out j ps[j] hg
      have HG := Lib.hid hg
      have dlt : decide ((j : Int) < (ps.length : Int)) = true := decide_eq_true (by omega)
      clear hg
      generalize ps[j] = y at *
      have hd1 : j < d1 := by omega
      have zt : (⟨y.text.toArray⟩ : ByteArray).size = y.text.length := by rw [← Wk.len_data]
      have HZ := Lib.hid zt
      cases ha : y.act with
      | false =>
        have HL2 : Hid (Lx.long (ps.take (j + 1)) = false) := Lx.long_take HG.out HL.out (by rw [ha]; rfl)
        rw [ha] at c0
        clear HG HL zt ha
        go_wp2
        go_roundw
        case rel => exact ⟨j + 1, by omega, by go_num, HL2, by first | rfl | trivial⟩
        case measure => simp [intOf]; omega
      | true =>
        generalize hT : (⟨y.text.toArray⟩ : ByteArray) = T at *
        by_cases h2 : 256 < y.text.length
        · have d2 : decide ((256 : Int) < (T.size : Int)) = true := decide_eq_true (by omega)
          have d2n : decide (256 < T.size) = true := decide_eq_true (by omega)
          have hl : Lx.long ps = true := Lx.long_at HG.out (by rw [ha, decide_eq_true h2]; rfl)
          have hV : .slice none 0 0 = V := by rw [← HV.out]; unfold Lm.lim; rw [if_pos hl]
          have hE : 1301 = E := by rw [← HE.out]; unfold Lx.limits; rw [if_pos hl]
          rw [ha] at c0
          subst hV
          subst hE
          clear HG HL zt ha hl HV HE h2 hT HZ
          go_wp2
          go_ret2
          exact ⟨rfl, rfl⟩
        · have d2 : decide ((256 : Int) < (T.size : Int)) = false := decide_eq_false (by omega)
          have d2n : decide (256 < T.size) = false := decide_eq_false (by omega)
          have HL2 : Hid (Lx.long (ps.take (j + 1)) = false) := Lx.long_take HG.out HL.out (by rw [ha, decide_eq_false h2]; rfl)
          rw [ha] at c0
          clear HG HL zt ha h2 hT HZ
          go_wp2
          go_roundw
          case rel => exact ⟨j + 1, by omega, by go_num, HL2, by first | rfl | trivial⟩
          case measure => simp [intOf]; omega
    · have e : j = ps.length := by omega
      subst e
      have dlt : decide ((ps.length : Int) < (ps.length : Int)) = false := decide_eq_false (by omega)
      have hl := HL.out
      rw [List.take_length] at hl
      by_cases h2 : 1024 < ps.length
      · have d2 : decide ((1024 : Int) < (ps.length : Int)) = true := decide_eq_true (by omega)
        have hV : .slice none 0 0 = V := by rw [← HV.out]; unfold Lm.lim; rw [if_neg (by rw [hl]; decide), if_pos h2]
        have hE : 1302 = E := by rw [← HE.out]; unfold Lx.limits; rw [if_neg (by rw [hl]; decide), if_pos h2]
        subst hV
        subst hE
        clear HL HV HE hl
        go_wp2
        go_ret2
        exact ⟨rfl, rfl⟩
      · have d2 : decide ((1024 : Int) < (ps.length : Int)) = false := decide_eq_false (by omega)
        have hV : .slice a1 ps.length d1 = V := by rw [← HV.out]; unfold Lm.lim; rw [if_neg (by rw [hl]; decide), if_neg h2]
        have hE : 0 = E := by rw [← HE.out]; unfold Lx.limits; rw [if_neg (by rw [hl]; decide), if_neg h2]
        subst hV
        subst hE
        clear HL HV HE hl
        go_wp2
        go_ret2
        exact ⟨rfl, rfl⟩
end Go.Proofs.YtfcmcmokmhklhaaDoor

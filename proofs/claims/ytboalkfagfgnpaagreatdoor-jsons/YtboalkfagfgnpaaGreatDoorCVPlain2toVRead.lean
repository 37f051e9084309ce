/-
  PLAIN: a tree cut at a depth; how many values the reference counts; the reference's own comparison.
-/
import Derived.Test.YtboalkfagfgnpaaGreatDoorCVOwntoVAwPlain
import Derived.Test.YtboalkfagfgnpaaGreatDoorCVAwaketoVCopyT
import Derived.Test.YtboalkfagfgnpaaGreatDoorCShelf3toVKeys
import Derived.Deep.Strs
import Derived.ChangeOld
namespace Go.Proofs.YtboalkfagfgnpaaGreatDoor
open Go.RowKit

/-- a tree cut at a depth -/
def Vt.cut : Nat → Vt → Vt
  | _, .nil => .nil
  | 0, .mk k x b s _ _ m ks => .mk k x b s 0 (fun _ => .nil) m ks
  | d + 1, .mk k x b s n it m ks => .mk k x b s n (fun i => Vt.cut d (it i)) m ks
theorem Vt.cut_stand : ∀ (d : Nat) (t : Vt) (deep L : Int), 9 ≤ d + deep → (Vt.cut d t).stand deep L = t.stand deep L := by
  intro d
  induction d with
  | zero =>
    intro t deep L h
    cases t with
    | nil => rfl
    | mk k x b s n it m ks =>
      simp only [Vt.cut, Vt.stand]
      rw [if_pos (.inr (.inl (by omega))), if_pos (.inr (.inl (by omega)))]
  | succ d ih =>
    intro t deep L h
    cases t with
    | nil => rfl
    | mk k x b s n it m ks =>
      simp only [Vt.cut, Vt.stand]
      have : (fun i L => (Vt.cut d (it i)).stand (deep + 1) L) = fun i L => (it i).stand (deep + 1) L := by
        funext i L
        exact ih _ _ _ (by omega)
      rw [this]
theorem Vt.cut_may (t : Vt) : (Vt.cut 40 t).may = t.may := by
  unfold Vt.may
  rw [Vt.cut_stand 40 t 1 1024 (by decide)]
theorem Vt.cut_lies : ∀ (d : Nat) (t : Vt) (deep L : Int) (w : World) (R : Nat → Prop) (v : Value), 9 ≤ d + deep → (t.stand deep L).1 = true → (Vt.cut d t).Lies w R v → t.Lies w R v := by
  intro d
  induction d with
  | zero =>
    intro t deep L w R v h hs hl
    cases t with
    | nil => cases hs
    | mk k x b s n it m ks =>
      simp only [Vt.stand] at hs
      rw [if_pos (.inr (.inl (by omega)))] at hs
      cases hs
  | succ d ih =>
    intro t deep L w R v h hs hl
    cases t with
    | nil => cases hs
    | mk k x b s n it m ks =>
      simp only [Vt.stand] at hs
      split at hs
      · cases hs
      obtain ⟨ai, c, ak, d', rfl, hb, hn, hc, hk, hi⟩ := hl
      refine ⟨ai, c, ak, d', rfl, hb, hn, hc, hk, fun i hin => ?_⟩
      obtain ⟨bi, oi, v0, v1, v2, v3, v4, v5, e, r, c0, c1, c2, c3, c4, c5, hl⟩ := hi i hin
      exact ⟨bi, oi, v0, v1, v2, v3, v4, v5, e, r, c0, c1, c2, c3, c4, c5, ih (it i) _ _ w R _ (by omega) (Vt.run_yes hs hin).2 hl⟩
/-- what lies where a tree was copied, cut at 40: the tree itself, if it may be -/
def Vt.near (t : Vt) : Vt := if t.may then t else Vt.cut 40 t
theorem Vt.near_lies {t : Vt} {w : World} {R : Nat → Prop} {v : Value} (h : (Vt.cut 40 t).Lies w R v) : t.near.Lies w R v := by
  unfold Vt.near
  split
  · next hm => exact Vt.cut_lies 40 t 1 1024 w R v (by decide) hm h
  · exact h
theorem Vt.near_may (t : Vt) : t.near.may = t.may := by
  unfold Vt.near
  split
  · rfl
  · exact Vt.cut_may t
theorem Vt.near_of {t : Vt} (h : t.may = true) : t.near = t := by unfold Vt.near; rw [if_pos h]
/-- there is a value at each place that counts -/
def Vt.sound : Vt → Prop
  | .nil => False
  | .mk _ _ _ _ n it _ _ => ∀ i, i < n → (it i).sound
theorem Vt.Lies.sound {w : World} {R : Nat → Prop} : ∀ {t : Vt} {v : Value}, t.Lies w R v → t.sound := by
  intro t
  induction t with
  | nil => intro v h; exact h.elim
  | mk k x b s n it m ks ih =>
    rintro v ⟨ai, c, ak, d, rfl, hb, hn, hc, hk, hi⟩ i hin
    obtain ⟨bi, oi, v0, v1, v2, v3, v4, v5, e, r, c0, c1, c2, c3, c4, c5, hl⟩ := hi i hin
    exact ih i hl
theorem Vt.eq_refl : ∀ {t : Vt}, t.sound → t.eq t = true := by
  intro t
  induction t with
  | nil => intro h; exact h.elim
  | mk k x b s n it m ks ih =>
    intro h
    have h1 : Vt.allTo (fun _ => true) m = true := Vt.allTo_iff.2 fun _ _ => rfl
    have h2 : Vt.allTo (fun i => (it i).eq (it i)) n = true := Vt.allTo_iff.2 fun i hi => ih i (h i hi)
    simp [Vt.eq, Vt.sameKeys, h1, h2]

/-- the reference's sum of the parts -/
def Vt.sum (f : Nat → Int) : Nat → Int
  | 0 => 1
  | i + 1 => if Vt.sum f i ≤ 1024 then Vt.sum f i + f i else Vt.sum f i
/-- the reference's count -/
def Vt.count : Vt → Int → Int
  | .nil, _ => 1025
  | .mk k x b s n it m ks, deep => if deep < 1 ∨ Vt.formed k x b s n m ks = false then 1025 else min (Vt.sum (fun i => (it i).count (deep - 1)) n) 1025
theorem Vt.sum_range {f : Nat → Int} (h : ∀ i, 1 ≤ f i ∧ f i ≤ 1025) : ∀ i, 1 ≤ Vt.sum f i ∧ Vt.sum f i ≤ 2049
  | 0 => by simp [Vt.sum]
  | i + 1 => by
    have := Vt.sum_range h i
    have := h i
    unfold Vt.sum
    split <;> omega
theorem Vt.count_range : ∀ (t : Vt) (deep : Int), 1 ≤ t.count deep ∧ t.count deep ≤ 1025 := by
  intro t
  induction t with
  | nil => intro deep; simp [Vt.count]
  | mk k x b s n it m ks ih =>
    intro deep
    have := Vt.sum_range (f := fun i => (it i).count (deep - 1)) (fun i => ih i _) n
    unfold Vt.count
    split <;> omega
theorem Vt.count_stand : ∀ (t : Vt) (deep L : Int), 0 ≤ L → L ≤ 1024 → (t.count deep ≤ L → t.stand (9 - deep) L = (true, L - t.count deep)) ∧ (L < t.count deep → (t.stand (9 - deep) L).1 = false) := by
  intro t
  induction t with
  | nil => intro deep L h0 h1; exact ⟨fun h => absurd h (by simp [Vt.count]; omega), fun _ => rfl⟩
  | mk k x b s n it m ks ih =>
    intro deep L h0 h1
    have hr := Vt.sum_range (f := fun i => (it i).count (deep - 1)) (fun i => Vt.count_range (it i) _)
    by_cases hc : deep < 1 ∨ Vt.formed k x b s n m ks = false
    · have e : (Vt.mk k x b s n it m ks).count deep = 1025 := by rw [Vt.count, if_pos hc]
      rw [e]
      refine ⟨fun h => absurd h (by omega), fun _ => ?_⟩
      unfold Vt.stand
      rw [if_pos (by rcases hc with hc | hc; exact .inr (.inl (by omega)); exact .inr (.inr hc))]
    · have e : (Vt.mk k x b s n it m ks).count deep = min (Vt.sum (fun i => (it i).count (deep - 1)) n) 1025 := by rw [Vt.count, if_neg hc]
      rw [e]
      by_cases hl : L - 1 < 0
      · have := hr n
        refine ⟨fun h => absurd h (by omega), fun _ => ?_⟩
        unfold Vt.stand
        rw [if_pos (.inl hl)]
      · have es : (Vt.mk k x b s n it m ks).stand (9 - deep) L = Vt.run (fun i L => (it i).stand (9 - deep + 1) L) n (L - 1) := by
          rw [Vt.stand, if_neg]
          rintro (h | h | h)
          · exact hl h
          · exact hc (.inl (by omega))
          · exact hc (.inr h)
        rw [es]
        have ed : 9 - deep + 1 = 9 - (deep - 1) := by omega
        rw [ed]
        have key : ∀ i, (Vt.sum (fun i => (it i).count (deep - 1)) i ≤ L → Vt.run (fun i L => (it i).stand (9 - (deep - 1)) L) i (L - 1) = (true, L - Vt.sum (fun i => (it i).count (deep - 1)) i)) ∧ (L < Vt.sum (fun i => (it i).count (deep - 1)) i → (Vt.run (fun i L => (it i).stand (9 - (deep - 1)) L) i (L - 1)).1 = false) := by
          intro i
          induction i with
          | zero => exact ⟨fun _ => rfl, fun h => absurd h (by simp only [Vt.sum]; omega)⟩
          | succ i ihi =>
            have r1 := hr i
            have r2 := Vt.count_range (it i) (deep - 1)
            generalize hS : Vt.sum (fun i => (it i).count (deep - 1)) i = S at *
            have hS' : Vt.sum (fun i => (it i).count (deep - 1)) (i + 1) = if S ≤ 1024 then S + (it i).count (deep - 1) else S := by rw [Vt.sum, hS]
            rw [hS']
            by_cases hs : S ≤ L
            · have hrun := ihi.1 hs
              rw [if_pos (by omega), Vt.run, hrun, if_pos rfl]
              have hi := ih i (deep - 1) (L - S) (by omega) (by omega)
              refine ⟨fun h => ?_, fun h => hi.2 (by omega)⟩
              rw [hi.1 (by omega), Int.sub_sub]
            · have hrun := ihi.2 (by omega)
              refine ⟨fun h => absurd h (by split <;> omega), fun _ => ?_⟩
              rw [Vt.run, hrun]
              simp [hrun]
        have hk := key n
        have := hr n
        refine ⟨fun h => ?_, fun h => hk.2 (by omega)⟩
        rw [hk.1 (by omega)]
        congr 1
        omega
theorem Vt.may_count (t : Vt) : t.may = decide (t.count 8 ≤ 1024) := by
  have h := Vt.count_stand t 8 1024 (by decide) (by decide)
  unfold Vt.may
  by_cases hc : t.count 8 ≤ 1024
  · rw [show (1 : Int) = 9 - 8 by rfl, h.1 hc, decide_eq_true hc]
  · rw [show (1 : Int) = 9 - 8 by rfl, h.2 (by omega), decide_eq_false hc]

/-- two reals as the reference compares them -/
def Re.like (a b : Nat) : Bool := Re.num a && (decide (a = b) || (decide (Re.kind a = 2) && decide (Re.kind b = 2)))
/-- two values as the reference compares them -/
def Vt.rsame : Vt → Vt → Bool
  | .nil, _ => false
  | .mk .., .nil => false
  | .mk k x b s n it m ks, .mk k' x' b' s' n' it' m' ks' =>
    if k = k' ∧ x = x' ∧ s.toList = s'.toList ∧ n = n' ∧ m = m' then (if k = 3 then Re.like b b' else Vt.allTo (fun i => (it i).rsame (it' i) && (decide (m ≤ i) || (ks i).toList == (ks' i).toList)) n) else false
end Go.Proofs.YtboalkfagfgnpaaGreatDoor
/-
  THE WALK of stolelaw0.CopyValue.
-/
namespace Go.Proofs.YtboalkfagfgnpaaGreatDoor
open Go.RowKit

/-- no list of the tree is of more than a million -/
def Vt.modest : Vt → Prop
  | .nil => True
  | .mk _ _ _ _ n it m _ => n ≤ 1048576 ∧ m ≤ 1048576 ∧ ∀ i, i < n → (it i).modest
theorem Vr.Row.ne' {Q : Nat → Prop} {base : Nat} {it : Nat → Vt} {n : Nat} {w : World} {v : Value} (h : Vr.Row Q base it n w v) {k : Nat} (hk : w.heap.size ≤ k) : v.ownBlock ≠ some k := by
  obtain ⟨xs, ho, _⟩ := h.all
  intro e
  have := (ho.lt k e).2
  omega
/-- what the copy's root holds -/
theorem Cv.root (d : Nat) (k x : Int) (b : Nat) (s : ByteArray) (n : Nat) (it : Nat → Vt) (m : Nat) (ks : Nat → ByteArray) : Vt.cut d (.mk k x b s n it m ks) = .mk k x b s (if d = 0 then 0 else n) (fun i => if d = 0 then .nil else Vt.cut (d - 1) (it i)) m ks := by
  cases d with
  | zero => rfl
  | succ d => rfl

end Go.Proofs.YtboalkfagfgnpaaGreatDoor
/-
  THE ROW's READING OF A VALUE IS A TREE THAT LIES IN MEMORY; if its bulk is small, no list of it is long.
-/
namespace Go.Proofs.YtboalkfagfgnpaaGreatDoor
open Go.ChangeShapes Go.WideShapes Go.ChangeAt Go.RowKit

theorem Rd.pos {H : Type} (d : DataW H) : 1 ≤ Rows.uptoBulk d := by
  cases d with
  | lit l => cases l <;> simp [Rows.uptoBulk]
  | _ => simp [Rows.uptoBulk]
theorem Rd.part {H : Type} : ∀ (l : List (DataW H)) (i : Nat) (d : DataW H), l[i]? = some d → Rows.uptoBulk d ≤ Rows.uptoBulkAll l
  | [], i, d, h => by simp at h
  | x :: r, 0, d, h => by simp at h; subst h; simp [Rows.uptoBulkAll]
  | x :: r, i + 1, d, h => by
    have := Rd.part r i d (by simpa using h)
    simp only [Rows.uptoBulkAll]
    omega
theorem Rd.len {H : Type} : ∀ (l : List (DataW H)), l.length ≤ Rows.uptoBulkAll l
  | [] => by simp
  | x :: r => by
    have := Rd.len r
    have := Rd.pos x
    simp only [Rows.uptoBulkAll, List.length_cons]
    omega
theorem Rd.one3 : Tryz.prog.cellsOf 3 = 1 := by kernel_rfl
theorem Rd.one22 : Tryz.prog.cellsOf 22 = 1 := by kernel_rfl
theorem Rd.one9 : Tryz.prog.cellsOf 9 = 1 := by kernel_rfl
theorem Rd.one23 : Tryz.prog.cellsOf 23 = 1 := by kernel_rfl
theorem Rd.one24 : Tryz.prog.cellsOf 24 = 1 := by kernel_rfl
theorem Rd.six : Tryz.prog.cellsOf 26 = 6 := by kernel_rfl

/-- a row of texts -/
theorem Rd.keys {H : Type} {enc : TypeId × Value → H} {W : World} {base : Nat} {spare : Nat → Bool} {held : Bool} {fuel : Nat} {v : Value} {x : DataW H × List MemPlace} (h : DataW.trod enc Tryz.prog W base spare held fuel 24 [v] = some x) :
    ∃ (m : Nat) (ks : Nat → ByteArray) (ak : Option Addr) (d : Nat), v = .slice ak m d ∧ Vt.Keys W (· < W.heap.size) m ks ak d ∧ m ≤ Rows.uptoBulk x.1 := by
  rcases Deep.open_strs Tryz.underlying24 Tryz.underlying9 Rd.one9 h with ⟨hc, rfl⟩ | ⟨a, len, cap, m, Sx, hc, hb, hl, hm, hmm, rfl, hx⟩
  · simp at hc
    exact ⟨0, fun _ => ⟨#[]⟩, none, 0, hc, ⟨Nat.le_refl _, by decide, fun j hj => absurd hj (by omega)⟩, Nat.zero_le _⟩
  · simp at hc
    have hlm : len ≤ m := by rw [hmm]; split <;> omega
    refine ⟨len, Sx, some a, cap, hc, ⟨hl, hm, fun j hj => ?_⟩, ?_⟩
    · obtain ⟨b, o, spot⟩ := a
      have hcell := (hx j (by omega)).1
      have hspot : spot = none := by simpa [Addr.add] using World.cell?_spot (hx 0 (by omega)).1
      subst hspot
      rw [Vc.add] at hcell
      exact ⟨b, o, rfl, Vt.cell_lt hcell, hcell⟩
    · have := Rd.len ((List.range len).map fun i => (DataW.lit (.string (Sx i).data.toList) : DataW H))
      simp only [List.length_map, List.length_range] at this
      simp only [Rows.uptoBulk]
      omega

set_option maxRecDepth 100000 in
theorem Rd.value {H : Type} {enc : TypeId × Value → H} {W : World} {base : Nat} {spare : Nat → Bool} {held : Bool} : ∀ (fuel : Nat) (cs : List Value) (x : DataW H × List MemPlace), DataW.trod enc Tryz.prog W base spare held fuel 26 cs = some x →
    ∃ t : Vt, t.Lies W (· < W.heap.size) (.agg cs.toArray) ∧ (Rows.uptoBulk x.1 ≤ 1048576 → t.modest) := by
  intro fuel
  induction fuel using Nat.strongRecOn with
  | _ fuel ih =>
    intro cs x h
    obtain ⟨xs, n, rfl, rfl, hl, hlen, hf⟩ := DataW.trod_struct Tryz.underlying26 h
    rw [Rd.six] at hl
    match cs, hl with
    | [v0, v1, v2, v3, v4, v5], _ =>
    match xs, hlen with
    | [y0, y1, y2, y3, y4, y5], _ =>
      have g0 : DataW.trod enc Tryz.prog W base spare held n 3 [v0] = some y0 := by simpa [Rd.one3] using hf 0 _ rfl
      have g1 : DataW.trod enc Tryz.prog W base spare held n 3 [v1] = some y1 := by simpa [Rd.one3] using hf 1 _ rfl
      have g2 : DataW.trod enc Tryz.prog W base spare held n 22 [v2] = some y2 := by simpa [Rd.one22] using hf 2 _ rfl
      have g3 : DataW.trod enc Tryz.prog W base spare held n 9 [v3] = some y3 := by simpa [Rd.one9] using hf 3 _ rfl
      have g4 : DataW.trod enc Tryz.prog W base spare held n 23 [v4] = some y4 := by simpa [Rd.one23] using hf 4 _ rfl
      have g5 : DataW.trod enc Tryz.prog W base spare held n 24 [v5] = some y5 := by simpa [Rd.one24] using hf 5 _ rfl
      obtain ⟨k, e0, _, _⟩ := DataW.trod_int Tryz.underlying3 g0
      obtain ⟨z, e1, _, _⟩ := DataW.trod_int Tryz.underlying3 g1
      obtain ⟨bb, e2, _, hb⟩ := DataW.trod_int Tryz.underlying22 g2
      obtain ⟨s, e3, _, _⟩ := DataW.trod_string Tryz.underlying9 g3
      obtain ⟨m, ks, ak, dk, e5, hK, hKb⟩ := Rd.keys g5
      obtain ⟨b, rfl, hbl⟩ := Fr.u64 hb
      simp only [List.cons.injEq, and_true] at e0 e1 e2 e3
      subst e0 e1 e2 e3 e5
      have hall : Rows.uptoBulk (DataW.agg (List.map (fun x => x.fst) [y0, y1, y2, y3, y4, y5])) = Rows.uptoBulk y0.1 + (Rows.uptoBulk y1.1 + (Rows.uptoBulk y2.1 + (Rows.uptoBulk y3.1 + (Rows.uptoBulk y4.1 + (Rows.uptoBulk y5.1 + 0))))) + 1 := by simp [Rows.uptoBulk, Rows.uptoBulkAll]
      rw [hall]
      rcases DataW.trod_slice Tryz.underlying23 g4 with ⟨e4, _⟩ | ⟨a, len, cap, elems, rest, n', rfl, e4, hx4, _, hlc, hcm, hel, hget, _, _⟩
      · simp only [List.cons.injEq, and_true] at e4
        subst e4
        exact ⟨.mk k z b s 0 (fun _ => .nil) m ks, ⟨none, 0, ak, dk, rfl, hbl, Nat.le_refl _, by decide, hK, fun i hi => absurd hi (by omega)⟩, fun hbk => ⟨by omega, by omega, fun i hi => absurd hi (by omega)⟩⟩
      · simp only [List.cons.injEq, and_true] at e4
        subst e4
        have spot0 : 0 < len → a.spot = none := by
          intro h0
          have hg := hget 0 h0
          rw [Rd.six, List.getElem?_eq_getElem (by omega)] at hg
          cases hcs : W.cells? base (a.add (0 * 6)) 6 with
          | none => rw [hcs] at hg; cases hg
          | some cs' =>
            obtain ⟨_, hl6, hcell⟩ := World.cells?_some hcs
            match cs', hl6 with
            | [v0, v1, v2, v3, v4, v5], _ => simpa [Addr.add] using World.cell?_spot (hcell 0 (by decide))
        have each : ∀ i, i < len → ∃ (t : Vt) (v0 v1 v2 v3 v4 v5 : Value) (b o : Nat), a = ⟨b, o, none⟩ ∧ b < W.heap.size ∧ W.cell? ⟨b, o + i * 6, none⟩ = some v0 ∧ W.cell? ⟨b, o + i * 6 + 1, none⟩ = some v1 ∧ W.cell? ⟨b, o + i * 6 + 2, none⟩ = some v2 ∧ W.cell? ⟨b, o + i * 6 + 3, none⟩ = some v3 ∧ W.cell? ⟨b, o + i * 6 + 4, none⟩ = some v4 ∧ W.cell? ⟨b, o + i * 6 + 5, none⟩ = some v5 ∧ t.Lies W (· < W.heap.size) (.agg #[v0, v1, v2, v3, v4, v5]) ∧ (Rows.uptoBulk y4.1 ≤ 1048576 → t.modest) := by
          intro i hi
          have hg := hget i hi
          rw [Rd.six, List.getElem?_eq_getElem (by omega)] at hg
          cases hcs : W.cells? base (a.add (i * 6)) 6 with
          | none => rw [hcs] at hg; cases hg
          | some cs' =>
            rw [hcs] at hg
            obtain ⟨t, ht, htm⟩ := ih n' (by omega) cs' _ hg
            obtain ⟨_, hl6, hcell⟩ := World.cells?_some hcs
            match cs', hl6 with
            | [v0, v1, v2, v3, v4, v5], _ =>
              obtain ⟨b, o, spot⟩ := a
              have hspot : spot = none := spot0 (by omega)
              subst hspot
              have hc : ∀ r, r < 6 → W.cell? ⟨b, o + i * 6 + r, none⟩ = [v0, v1, v2, v3, v4, v5][r]? := fun r hr => by
                have := hcell r hr
                rw [Vc.add, Vc.add] at this
                exact this
              refine ⟨t, v0, v1, v2, v3, v4, v5, b, o, rfl, ?_, hc 0 (by decide), hc 1 (by decide), hc 2 (by decide), hc 3 (by decide), hc 4 (by decide), hc 5 (by decide), ht, fun hbk => htm ?_⟩
              · exact Vt.cell_lt (hc 0 (by decide))
              · have hp := Rd.part (elems.map (fun x => x.fst)) i (elems[i]'(by omega)).1 (by rw [List.getElem?_map, List.getElem?_eq_getElem (by omega)]; rfl)
                rw [hx4] at hbk
                simp only [Rows.uptoBulk] at hbk
                omega
        refine ⟨.mk k z b s len (fun i => if hi : i < len then Classical.choose (each i hi) else .nil) m ks, ⟨some a, cap, ak, dk, rfl, hbl, hlc, hcm, hK, fun i hi => ?_⟩, fun hbk => ⟨?_, by omega, fun i hi => ?_⟩⟩
        · obtain ⟨v0, v1, v2, v3, v4, v5, b', o', e, hb', c0, c1, c2, c3, c4, c5, hl, _⟩ := Classical.choose_spec (each i hi)
          refine ⟨b', o', v0, v1, v2, v3, v4, v5, by rw [e], hb', c0, c1, c2, c3, c4, c5, ?_⟩
          dsimp only
          rw [dif_pos hi]
          exact hl
        · have h1 := Rd.len (elems.map (fun x => x.fst))
          rw [List.length_map, hel] at h1
          have h2 : Rows.uptoBulk y4.1 = Rows.uptoBulkAll (elems.map (fun x => x.fst)) + Rows.uptoBulkAll (rest.map (fun x => x.fst)) + 1 := by rw [hx4]; simp [Rows.uptoBulk]
          omega
        · dsimp only
          rw [dif_pos hi]
          obtain ⟨v0, v1, v2, v3, v4, v5, b', o', e, hb', c0, c1, c2, c3, c4, c5, hl, hmd⟩ := Classical.choose_spec (each i hi)
          exact hmd (by omega)
end Go.Proofs.YtboalkfagfgnpaaGreatDoor

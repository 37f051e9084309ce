/-
  THE ROWS' READING OF A SLICE OF INTS: it is data in memory.
-/
import Derived.Test.YtjppobeomocgbaaGreatDoorRows
import Derived.Test.YtjppobeomocgbaaGreatDoorTMParsetoGBits
import Derived.Deep.Strs
import Derived.ChangeOld
import Derived.ProofKit
import Derived.OpenShut
import Derived.Test.YtjppobeomocgbaaGreatDoorTMNesttoNPlain
namespace Go.Proofs.YtjppobeomocgbaaGreatDoor
open Go.ChangeShapes Go.WideShapes Go.ChangeAt Go.RowKit
theorem Rx.pos {H : Type} (d : DataW H) : 1 ≤ Rows.uptoBulk d := by
  cases d with
  | lit l => cases l <;> simp [Rows.uptoBulk]
  | _ => simp [Rows.uptoBulk]
theorem Rx.part {H : Type} : ∀ (l : List (DataW H)) (i : Nat) (d : DataW H), l[i]? = some d → Rows.uptoBulk d ≤ Rows.uptoBulkAll l
  | [], i, d, h => by simp at h
  | x :: r, 0, d, h => by simp at h; subst h; simp [Rows.uptoBulkAll]
  | x :: r, i + 1, d, h => by
    have := Rx.part r i d (by simpa using h)
    simp only [Rows.uptoBulkAll]
    omega
theorem Rx.len {H : Type} : ∀ (l : List (DataW H)), l.length ≤ Rows.uptoBulkAll l
  | [] => by simp
  | x :: r => by
    have := Rx.len r
    have := Rx.pos x
    simp only [Rows.uptoBulkAll, List.length_cons]
    omega
theorem Rx.oneI : Tryz.prog.cellsOf 3 = 1 := by kernel_rfl
theorem Rx.slice {H : Type} {enc : TypeId × Value → H} {W : World} {base : Nat} {spare : Nat → Bool} {held : Bool} {fuel : Nat} {S E : TypeId} {k : Nat} (hS : Tryz.prog.underlying S = some (.slice E)) (hk : Tryz.prog.cellsOf E = k) (hk0 : 0 < k) {v : Value} {x : DataW H × List MemPlace} (h : DataW.trod enc Tryz.prog W base spare held fuel S [v] = some x) :
    ∃ (ak : Option Addr) (len cap : Nat), v = .slice ak len cap ∧ len ≤ cap ∧ cap ≤ maxLen ∧ len ≤ Rows.uptoBulk x.1 ∧ ∀ i, i < len → ∃ (b o n' : Nat) (cs : List Value) (y : DataW H × List MemPlace), ak = some ⟨b, o, none⟩ ∧ b < W.heap.size ∧ (∀ r, r < k → W.cell? ⟨b, o + i * k + r, none⟩ = cs[r]?) ∧ DataW.trod enc Tryz.prog W base spare held n' E cs = some y ∧ Rows.uptoBulk y.1 ≤ Rows.uptoBulk x.1 := by
  rcases DataW.trod_slice hS h with ⟨e4, _⟩ | ⟨a, len, cap, elems, rest, n', rfl, e4, hx4, _, hlc, hcm, hel, hget, _, _⟩
  · simp only [List.cons.injEq, and_true] at e4
    subst e4
    exact ⟨none, 0, 0, rfl, Nat.le_refl _, by decide, Nat.zero_le _, fun i hi => absurd hi (by omega)⟩
  · simp only [List.cons.injEq, and_true] at e4
    subst e4
    refine ⟨some a, len, cap, rfl, hlc, hcm, ?_, fun i hi => ?_⟩
    · have h1 := Rx.len (elems.map (fun x => x.fst))
      rw [List.length_map, hel] at h1
      have h2 : Rows.uptoBulk x.1 = Rows.uptoBulkAll (elems.map (fun x => x.fst)) + Rows.uptoBulkAll (rest.map (fun x => x.fst)) + 1 := by rw [hx4]; simp [Rows.uptoBulk]
      omega
    · have hspot : a.spot = none := by
        have hg := hget 0 (by omega)
        rw [hk, List.getElem?_eq_getElem (by omega)] at hg
        cases hcs : W.cells? base (a.add (0 * k)) k with
        | none => rw [hcs] at hg; cases hg
        | some cs' =>
          obtain ⟨_, hl6, hcell⟩ := World.cells?_some hcs
          have c0 := hcell 0 hk0
          rw [List.getElem?_eq_getElem (by omega)] at c0
          simpa [Addr.add] using World.cell?_spot c0
      have hg := hget i hi
      rw [hk, List.getElem?_eq_getElem (by omega)] at hg
      cases hcs : W.cells? base (a.add (i * k)) k with
      | none => rw [hcs] at hg; cases hg
      | some cs' =>
        rw [hcs] at hg
        obtain ⟨_, hl6, hcell⟩ := World.cells?_some hcs
        obtain ⟨b, o, spot⟩ := a
        dsimp only at hspot
        subst hspot
        have hc : ∀ r, r < k → W.cell? ⟨b, o + i * k + r, none⟩ = cs'[r]? := fun r hr => by
          have := hcell r hr
          rw [Ro.add, Ro.add] at this
          exact this
        refine ⟨b, o, n', cs', _, rfl, ?_, hc, hg, ?_⟩
        · have := hc 0 hk0
          rw [List.getElem?_eq_getElem (by omega)] at this
          exact World.block_lt_of_cell? _ _ this
        · have hp := Rx.part (elems.map (fun x => x.fst)) i (elems[i]'(by omega)).1 (by rw [List.getElem?_map, List.getElem?_eq_getElem (by omega)]; rfl)
          rw [hx4]
          simp only [Rows.uptoBulk]
          omega
theorem Rx.list {α : Type} (P : Nat → α → Prop) : ∀ n, (∀ i, i < n → ∃ x, P i x) → ∃ l : List α, l.length = n ∧ ∀ i x, l[i]? = some x → P i x
  | 0, _ => ⟨[], rfl, fun i x h => by simp at h⟩
  | n + 1, h => by
    obtain ⟨l, hl, hp⟩ := Rx.list P n (fun i hi => h i (by omega))
    obtain ⟨x, hx⟩ := h n (by omega)
    refine ⟨l ++ [x], by simp [hl], fun i y hi => ?_⟩
    by_cases hlt : i < l.length
    · rw [List.getElem?_append_left hlt] at hi
      exact hp i y hi
    · have : i = n := by
        have := (List.getElem?_eq_some_iff.1 hi).1
        simp at this
        omega
      subst this
      rw [List.getElem?_append_right (by omega), hl, Nat.sub_self] at hi
      simp at hi
      subst hi
      exact hx
/-- records one by one, in memory, are a row -/
theorem Rx.rows {α : Type} {k : Nat} {f : α → List Dt} {W : World} {ak : Option Addr} {cap : Nat} (Q : α → Prop) (hk : ∀ x, (f x).length = k) (hk0 : 0 < k) (len : Nat) (h1 : len ≤ cap) (h2 : cap ≤ maxLen)
    (hx : ∀ i, i < len → ∃ (b o : Nat) (cs : List Value) (y : α), ak = some ⟨b, o, none⟩ ∧ b < W.heap.size ∧ (∀ r, r < k → W.cell? ⟨b, o + i * k + r, none⟩ = cs[r]?) ∧ Dt.fits W (· < W.heap.size) (f y) cs ∧ Q y) :
    ∃ l : List α, l.length = len ∧ Dt.Lies W (· < W.heap.size) (Dt.rows k f l) (.slice ak len cap) ∧ ∀ y ∈ l, Q y := by
  obtain ⟨l, hl, hp⟩ := Rx.list (fun i (y : α) => (∃ b o cs, ak = some ⟨b, o, none⟩ ∧ b < W.heap.size ∧ (∀ r, r < k → W.cell? ⟨b, o + i * k + r, none⟩ = cs[r]?) ∧ Dt.fits W (· < W.heap.size) (f y) cs) ∧ Q y) len (fun i hi => by
    obtain ⟨b, o, cs, y, e, hb, hc, hf, hq⟩ := hx i hi
    exact ⟨y, ⟨b, o, cs, e, hb, hc, hf⟩, hq⟩)
  subst hl
  refine ⟨l, rfl, Dt.Lies.put hk hk0 h1 h2 fun i y hi => ?_, fun y hy => ?_⟩
  · obtain ⟨b, o, cs, e, hb, hc, hf⟩ := (hp i y hi).1
    refine ⟨b, o, e, hb, fun r d hr => ?_⟩
    obtain ⟨u, hu, hd⟩ := Dt.fits_get _ _ hf r d hr
    have hrk : r < k := by rw [← hk y]; exact (List.getElem?_eq_some_iff.1 hr).1
    exact ⟨u, (hc r hrk).trans hu, hd⟩
  · obtain ⟨j, hj⟩ := List.getElem?_of_mem hy
    exact (hp j y hj).2
theorem Rx.ints {H : Type} {enc : TypeId × Value → H} {W : World} {base : Nat} {spare : Nat → Bool} {held : Bool} {fuel : Nat} {v : Value} {x : DataW H × List MemPlace} (h : DataW.trod enc Tryz.prog W base spare held fuel 39 [v] = some x) : ∃ ks : List Int, Dt.Lies W (· < W.heap.size) (Dt.ints ks) v := by
  obtain ⟨ak, len, cap, rfl, h1, h2, _, hX⟩ := Rx.slice Tryz.underlying39 Rx.oneI (by decide) h
  obtain ⟨ks, _, hL, _⟩ := Rx.rows (k := 1) (f := fun y : Int => [Dt.int .i64 y]) (fun _ => True) (fun _ => rfl) (by decide) len h1 h2 (fun i hi => by
    obtain ⟨b, o, n', cs, d, e, hb, hc, ht, _⟩ := hX i hi
    obtain ⟨k0, e0, _, _⟩ := DataW.trod_int Tryz.underlying3 ht
    subst e0
    exact ⟨b, o, _, k0, e, hb, hc, ⟨Dt.i, trivial⟩, trivial⟩)
  exact ⟨ks, hL⟩
end Go.Proofs.YtjppobeomocgbaaGreatDoor
/-
  PLAIN: blocks one within the other, from their source.
-/
namespace Go.Proofs.YtjppobeomocgbaaGreatDoor
/-- a row again and again -/
def Fl.rep {α : Type} (n : Nat) (l : List α) : List α := (List.replicate n ()).flatMap fun _ => l
theorem Fl.rep_succ {α : Type} (n : Nat) (l : List α) : Fl.rep (n + 1) l = l ++ Fl.rep n l := by
  unfold Fl.rep
  rw [List.replicate_succ, List.flatMap_cons]
theorem Fl.rep_snoc {α : Type} (n : Nat) (l : List α) : Fl.rep (n + 1) l = Fl.rep n l ++ l := by
  unfold Fl.rep
  rw [List.replicate_succ', List.flatMap_append]
  simp
theorem Fl.rep_len {α : Type} (n : Nat) (l : List α) : (Fl.rep n l).length = n * l.length := by
  induction n with
  | zero => rw [Nat.zero_mul]; rfl
  | succ n ih => rw [Fl.rep_succ, List.length_append, ih, Nat.succ_mul]; omega
theorem Fl.rep_map {α β : Type} (f : α → List β) (n : Nat) (l : List α) : (Fl.rep n l).flatMap f = Fl.rep n (l.flatMap f) := by
  induction n with
  | zero => rfl
  | succ n ih => rw [Fl.rep_succ, Fl.rep_succ, List.flatMap_append, ih]
theorem Fl.rep_mem {α : Type} {n : Nat} {l : List α} {x : α} (h : x ∈ Fl.rep n l) : x ∈ l := by
  unfold Fl.rep at h
  obtain ⟨_, _, h⟩ := List.mem_flatMap.1 h
  exact h
theorem Fl.rep_one {α : Type} (n : Nat) (x : α) : Fl.rep n [x] = List.replicate n x := by
  induction n with
  | zero => rfl
  | succ n ih => rw [Fl.rep_succ, ih]; rfl
/-- a block's begin, its end, in the source -/
def Mn.O (q : Nat) : List UInt8 := [123, 123] ++ Mn.name q ++ [32, 46, 125, 125]
def Mn.E (other : Bool) : List UInt8 := if other = true then [123, 123, 101, 108, 115, 101, 125, 125, 121, 123, 123, 101, 110, 100, 125, 125] else [123, 123, 101, 110, 100, 125, 125]
def Mn.z (z : Bool) : List UInt8 := if z = true then [123, 123, 101, 110, 100, 125, 125] else []
def Mn.src (q : Nat) (other : Bool) (a b : Nat) (z : Bool) : List UInt8 := Fl.rep a (Mn.O q) ++ [120] ++ Fl.rep b (Mn.E other) ++ Mn.z z
def Mn.eu (other : Bool) (t : List UInt8) : List Un := if other = true then [⟨t, Tm.sElse, false⟩, ⟨[121], Tm.sEnd, false⟩] else [⟨t, Tm.sEnd, false⟩]
def Mn.us (q : Nat) (other : Bool) (a c : Nat) (z : Bool) : List Un := Fl.rep a [⟨[], Mn.open q, false⟩] ++ Mn.eu other [120] ++ Fl.rep c (Mn.eu other []) ++ (if z = true then [⟨[], Tm.sEnd, false⟩] else [])
theorem Mn.us_src (q : Nat) (other : Bool) (a c : Nat) (z : Bool) : (Mn.us q other a c z).flatMap Un.src = Mn.src q other a (c + 1) z := by
  have h1 : ∀ t, (Mn.eu other t).flatMap Un.src = t ++ Mn.E other := fun t => by cases other <;> simp [Mn.eu, Mn.E, Un.src, Tm.sElse, Tm.sEnd]
  have h2 : ([⟨[], Mn.open q, false⟩] : List Un).flatMap Un.src = Mn.O q := by simp [Un.src, Mn.open, Mn.O]
  have h3 : ((if z = true then [⟨[], Tm.sEnd, false⟩] else []) : List Un).flatMap Un.src = Mn.z z := by cases z <;> simp [Mn.z, Un.src, Tm.sEnd]
  unfold Mn.us Mn.src
  rw [List.flatMap_append, List.flatMap_append, List.flatMap_append, Fl.rep_map, Fl.rep_map, h1, h1, h2, h3, Fl.rep_succ]
  simp only [List.append_assoc, List.nil_append]
def Mn.all (q : Nat) (other : Bool) (a b : Nat) (z : Bool) : List (Bool × List UInt8) := Fl.rep a [(true, Mn.open q)] ++ [(false, [120])] ++ Fl.rep b (Mn.ek other) ++ (if z = true then [(true, Tm.sEnd)] else [])
theorem Mn.us_pcs (q : Nat) (other : Bool) (a c : Nat) (z : Bool) : (Mn.us q other a c z).flatMap Un.pcs ++ Un.one [] = Mn.all q other a (c + 1) z := by
  have h1 : (Mn.eu other [120]).flatMap Un.pcs = [(false, [120])] ++ Mn.ek other := by cases other <;> rfl
  have h4 : (Mn.eu other []).flatMap Un.pcs = Mn.ek other := by cases other <;> rfl
  have h2 : ([⟨[], Mn.open q, false⟩] : List Un).flatMap Un.pcs = [(true, Mn.open q)] := by simp [Un.pcs, Un.one]
  have h3 : ((if z = true then [⟨[], Tm.sEnd, false⟩] else []) : List Un).flatMap Un.pcs = (if z = true then [(true, Tm.sEnd)] else []) := by cases z <;> rfl
  unfold Mn.us Mn.all
  rw [List.flatMap_append, List.flatMap_append, List.flatMap_append, Fl.rep_map, Fl.rep_map, h1, h2, h3, h4, Fl.rep_succ, show Un.one [] = [] from rfl]
  simp only [List.append_assoc, List.append_nil]
theorem Mn.keys_all (q : Nat) (other : Bool) (k : Nat) : Mn.keys q other k = Fl.rep k [(true, Mn.open q)] ++ [(false, [120])] ++ Fl.rep k (Mn.ek other) := by
  induction k with
  | zero => rfl
  | succ k ih =>
    show (true, Mn.open q) :: (Mn.keys q other k ++ Mn.ek other) = _
    rw [ih, Fl.rep_succ, Fl.rep_snoc]
    simp only [List.append_assoc, List.cons_append, List.nil_append]
theorem Mn.good {q : Nat} (hq : q < 3) (other : Bool) (a c : Nat) (z : Bool) : ∀ u ∈ Mn.us q other a c z, u.Good := by
  have ho : Mq.Act (Mn.open q) := by
    match q, hq with
    | 0, _ => exact Mq.act_of (by decide)
    | 1, _ => exact Mq.act_of (by decide)
    | 2, _ => exact Mq.act_of (by decide)
    | n + 3, h => omega
  have hel : Mq.Act Tm.sElse := Mq.act_of (by decide)
  have hen : Mq.Act Tm.sEnd := Mq.act_of (by decide)
  have he : ∀ t : List UInt8, (∀ c ∈ t, c ≠ 123 ∧ c ≠ 13) → ∀ u ∈ Mn.eu other t, u.Good := fun t ht u hu => by
    cases other with
    | false =>
      have : u = ⟨t, Tm.sEnd, false⟩ := by simpa [Mn.eu] using hu
      subst this
      exact Un.act ht hen
    | true =>
      have : u = ⟨t, Tm.sElse, false⟩ ∨ u = ⟨[121], Tm.sEnd, false⟩ := by simpa [Mn.eu] using hu
      rcases this with rfl | rfl
      · exact Un.act ht hel
      · exact Un.act (by decide) hen
  intro u hu
  unfold Mn.us at hu
  simp only [List.mem_append] at hu
  rcases hu with ((hu | hu) | hu) | hu
  · have := List.mem_singleton.1 (Fl.rep_mem hu)
    subst this
    exact Un.act (fun c hc => by cases hc) ho
  · exact he _ (by decide) u hu
  · exact he _ (fun c hc => by cases hc) u (Fl.rep_mem hu)
  · cases z with
    | false => cases hu
    | true =>
      have : u = ⟨[], Tm.sEnd, false⟩ := by simpa using hu
      subst this
      exact Un.act (fun c hc => by cases hc) hen
theorem Mn.src_len (q : Nat) (other : Bool) (a b : Nat) (z : Bool) : (Mn.src q other a b z).length ≤ 11 * a + 16 * b + 8 := by
  have h1 : (Mn.O q).length ≤ 11 := by
    match q with
    | 0 => decide
    | 1 => decide
    | n + 2 => show ([123, 123] ++ Tm.sRange ++ [32, 46, 125, 125]).length ≤ 11; decide
  have h2 : (Mn.E other).length ≤ 16 := by cases other <;> decide
  have h3 : (Mn.z z).length ≤ 7 := by cases z <;> decide
  unfold Mn.src
  simp only [List.length_append, Fl.rep_len, List.length_cons, List.length_nil]
  have := Nat.mul_le_mul_left a h1
  have := Nat.mul_le_mul_left b h2
  omega
/-- the rows of such a source -/
theorem Mn.pieces {q : Nat} (hq : q < 3) (other : Bool) (a c : Nat) (z : Bool) (s : ByteArray) (hs : s.data.toList = Mn.src q other a (c + 1) z) (ha : a ≤ 64) (hc : c ≤ 64) : ∃ ps, Tm.parse s = Tm.fin (Tm.rows ps (ps.length + 1) 0 false 0 []) ∧ ps.length = (Mn.all q other a (c + 1) z).length ∧ Mn.At ps 0 (Mn.all q other a (c + 1) z) := by
  have hz : s.size ≤ 65536 := by
    have := Mn.src_len q other a (c + 1) z
    rw [← hs, Wk.len_data] at this
    omega
  have hl : (Mn.all q other a (c + 1) z).length ≤ 1024 := by
    have h2 : (Mn.ek other).length ≤ 3 := by cases other <;> decide
    have h3 : ((if z = true then [(true, Tm.sEnd)] else []) : List (Bool × List UInt8)).length ≤ 1 := by cases z <;> decide
    unfold Mn.all
    simp only [List.length_append, Fl.rep_len, List.length_cons, List.length_nil]
    have := Nat.mul_le_mul_left (c + 1) h2
    omega
  obtain ⟨h1, _⟩ := Un.split (s := s) (us := Mn.us q other a c z) (tl := []) (by rw [Mn.us_src, List.append_nil]; exact hs) (Mn.good hq other a c z) (fun c hc => by cases hc) hz
  rw [Mn.us_pcs] at h1
  obtain ⟨ps, h3, h4⟩ := h1 hl
  refine ⟨ps, ?_, by rw [← h4, List.length_map], fun j x hj => by rw [Nat.zero_add, ← List.getElem?_map, h4]; exact hj⟩
  unfold Tm.parse
  rw [h3]
  rfl
theorem Mn.too {q : Nat} (hq : q < 3) (other : Bool) (a c : Nat) (z : Bool) (s : ByteArray) (hs : s.data.toList = Mn.src q other a (c + 1) z) (ha : a ≤ 64) (hc : c ≤ 64) (h17 : 17 ≤ a) : Tm.parse s = ([], 1603) := by
  obtain ⟨ps, h1, h2, h3⟩ := Mn.pieces hq other a c z s hs ha hc
  have hsp : ∃ r, Mn.all q other a (c + 1) z = List.replicate 17 (true, Mn.open q) ++ r := by
    refine ⟨Fl.rep (a - 17) [(true, Mn.open q)] ++ ([(false, [120])] ++ (Fl.rep (c + 1) (Mn.ek other) ++ (if z = true then [(true, Tm.sEnd)] else []))), ?_⟩
    unfold Mn.all
    rw [Fl.rep_one, Fl.rep_one, show a = 17 + (a - 17) by omega, List.replicate_append_replicate.symm]
    simp only [List.append_assoc, Nat.add_sub_cancel_left]
  obtain ⟨r, hr⟩ := hsp
  rw [hr] at h3
  have hlen : 17 ≤ ps.length := by rw [h2, hr, List.length_append, List.length_replicate]; omega
  rw [h1, Mn.deep hq 16 (ps.length + 1) 0 0 false [] (h3.app).1 rfl (by omega)]
  rfl
theorem Mn.parse1 {q : Nat} (hq : q < 3) (other : Bool) (c : Nat) (s : ByteArray) (hs : s.data.toList = Mn.src q other (c + 1) (c + 1) false) (hc : c + 1 ≤ 16) : Tm.parse s = ([Mn.item q other (c + 1)], 0) := by
  obtain ⟨ps, h1, h2, h3⟩ := Mn.pieces hq other (c + 1) c false s hs (by omega) (by omega)
  have hk : Mn.all q other (c + 1) (c + 1) false = Mn.keys q other (c + 1) := by rw [Mn.keys_all]; exact List.append_nil _
  rw [hk] at h2 h3
  have hl := (Mn.keys_len (q := q) (other := other) (c + 1)).1
  rw [h1, Mn.rows hq other (c + 1) ps.length 0 0 false [] h3 (by omega) (by omega), Tm.flat_end (List.getElem?_eq_none (by omega))]
  rfl
theorem Mn.parse2 {q : Nat} (hq : q < 3) (other : Bool) (c : Nat) (s : ByteArray) (hs : s.data.toList = Mn.src q other (c + 1) (c + 1) true) (hc : c + 1 ≤ 16) : Tm.parse s = ([], 1600) := by
  obtain ⟨ps, h1, h2, h3⟩ := Mn.pieces hq other (c + 1) c true s hs (by omega) (by omega)
  have hk : Mn.all q other (c + 1) (c + 1) true = Mn.keys q other (c + 1) ++ [(true, Tm.sEnd)] := by rw [Mn.keys_all]; rfl
  rw [hk] at h2 h3
  have hl := (Mn.keys_len (q := q) (other := other) (c + 1)).1
  rw [List.length_append] at h2
  obtain ⟨h4, h5⟩ := h3.app
  rw [h1, Mn.rows hq other (c + 1) ps.length 0 0 false [] h4 (by omega) (by omega)]
  obtain ⟨m, hm⟩ : ∃ m, ps.length = m + 1 := ⟨ps.length - 1, by omega⟩
  rw [hm, Mn.end_at (h5.head).1]
  rfl
theorem Mn.parse3 {q : Nat} (hq : q < 3) (other : Bool) (c : Nat) (s : ByteArray) (hs : s.data.toList = Mn.src q other (c + 1 + 1) (c + 1) false) (hc : c + 1 < 16) : Tm.parse s = ([], 1600) := by
  obtain ⟨ps, h1, h2, h3⟩ := Mn.pieces hq other (c + 1 + 1) c false s hs (by omega) (by omega)
  have hk : Mn.all q other (c + 1 + 1) (c + 1) false = (true, Mn.open q) :: Mn.keys q other (c + 1) := by
    rw [Mn.keys_all]
    unfold Mn.all
    rw [Fl.rep_succ (c + 1) [(true, Mn.open q)]]
    simp
  rw [hk] at h2 h3
  have hl := (Mn.keys_len (q := q) (other := other) (c + 1)).1
  obtain ⟨h4, h5⟩ := h3.head
  rw [List.length_cons] at h2
  obtain ⟨m, hm⟩ : ∃ m, ps.length = m + 1 := ⟨ps.length - 1, by omega⟩
  rw [h1, Mn.open_at hq h4, if_neg (by decide), hm, Mn.rows hq other (c + 1) m (0 + 1) (0 + 1) _ [] h5 (by omega) (by omega), Tm.flat_end (List.getElem?_eq_none (by omega))]
  rfl
end Go.Proofs.YtjppobeomocgbaaGreatDoor

/-
  THE WALK of the program's value.Get.
-/
import Derived.Test.YtboalkfagfgnpaaGreatDoorBVOwntoVFind
import Derived.Test.YtboalkfagfgnpaaGreatDoorBVSame
import Derived.BigQuiet
namespace Go.Proofs.YtboalkfagfgnpaaGreatDoor
open Go.RowKit

/-- each value of the tree is formed -/
def Vt.fit : Vt → Prop
  | .nil => False
  | .mk k x b s n it m ks => Vt.formed k x b s n m ks = true ∧ ∀ i, i < n → (it i).fit
theorem Vt.run_yes {f : Nat → Int → Bool × Int} {L : Int} {n : Nat} (h : (Vt.run f n L).1 = true) {i : Nat} (hi : i < n) : (Vt.run f i L).1 = true ∧ (f i (Vt.run f i L).2).1 = true := by
  have h1 : (Vt.run f i L).1 = true := by
    cases e : (Vt.run f i L).1 with
    | true => rfl
    | false => rw [Vt.run_no e n (by omega), e] at h; cases h
  have h2 : (Vt.run f (i + 1) L).1 = true := by
    cases e : (Vt.run f (i + 1) L).1 with
    | true => rfl
    | false => rw [Vt.run_no e n (by omega), e] at h; cases h
  rw [Vt.run, h1, if_pos rfl] at h2
  exact ⟨h1, h2⟩
theorem Vt.fit_of : ∀ (t : Vt) (deep L : Int), (t.stand deep L).1 = true → t.fit := by
  intro t
  induction t with
  | nil => intro deep L h; cases h
  | mk k x b s n it m ks ih =>
    intro deep L h
    unfold Vt.stand at h
    split at h
    · cases h
    · next hc =>
      refine ⟨?_, fun i hi => ih i _ _ (Vt.run_yes h hi).2⟩
      cases e : Vt.formed k x b s n m ks with
      | true => rfl
      | false => exact absurd (.inr (.inr e)) hc
theorem Vt.formed_le {k x : Int} {b : Nat} {s : ByteArray} {n m : Nat} {ks : Nat → ByteArray} (h : Vt.formed k x b s n m ks = true) : n ≤ 64 ∧ m ≤ 64 := by
  unfold Vt.formed at h
  repeat' split at h
  all_goals simp at h
  all_goals omega
theorem Vt.fit.tidy : ∀ {t : Vt}, t.fit → t.tidy := by
  intro t
  induction t with
  | nil => intro h; exact h.elim
  | mk k x b s n it m ks ih =>
    rintro ⟨h1, h2⟩
    have := Vt.formed_le h1
    exact ⟨this.1, this.2, fun i hi => ih i (h2 i hi)⟩
theorem Vt.formed6 {x : Int} {b : Nat} {s : ByteArray} {n m : Nat} {ks : Nat → ByteArray} (h : Vt.formed 6 x b s n m ks = true) : n ≤ 64 ∧ m = n ∧ Vt.keysOk ks m = true := by
  simp [Vt.formed] at h
  exact ⟨h.1.1.1.1.1, h.1.1.1.1.2, h.1.1.1.2⟩

/-- the last of m keys that is x -/
def Vt.pos (ks : Nat → ByteArray) (x : List UInt8) : Nat → Option Nat
  | 0 => none
  | j + 1 => if (ks j).toList = x then some j else Vt.pos ks x j
theorem Vt.pos_none {ks : Nat → ByteArray} {x : List UInt8} {m : Nat} (h : ∀ j, j < m → (ks j).toList ≠ x) : Vt.pos ks x m = none := by
  induction m with
  | zero => rfl
  | succ m ih => rw [Vt.pos, if_neg (h m (by omega))]; exact ih fun j hj => h j (by omega)
theorem Vt.pos_some {ks : Nat → ByteArray} {x : List UInt8} {m I : Nat} (hok : Vt.keysOk ks m = true) (h : (ks I).toList = x) : ∀ m', m' ≤ m → I < m' → Vt.pos ks x m' = some I := by
  intro m' hm hi
  induction m' with
  | zero => omega
  | succ m' ih =>
    rw [Vt.pos]
    by_cases e : I = m'
    · subst e; rw [if_pos h]
    · rw [if_neg (fun e' => Vo.ne (Vo.rise hok (show I < m' by omega) (by omega)) (h.trans e'.symm))]
      exact ih (by omega) (by omega)
/-- what stands behind one name: an error's number, or a value -/
def Vt.under : Vt → List UInt8 → Except Int Vt
  | .nil, _ => .error 402
  | .mk k _ _ _ _ it m ks, x => if k = 6 then (match Vt.pos ks x m with | none => .error 401 | some j => .ok (it j)) else .error 402
/-- .. behind the first names of a path -/
def Vt.getTo (t : Vt) (p : Nat → ByteArray) : Nat → Except Int Vt
  | 0 => .ok t
  | i + 1 => match Vt.getTo t p i with | .error e => .error e | .ok u => u.under (p i).toList
theorem Vt.getTo_err {t : Vt} {p : Nat → ByteArray} {i : Nat} {e : Int} (h : Vt.getTo t p i = .error e) : ∀ n, i ≤ n → Vt.getTo t p n = .error e := by
  intro n hn
  induction n with
  | zero => rw [Nat.le_zero.1 hn] at h; exact h
  | succ n ih =>
    by_cases e' : i = n + 1
    · rw [← e']; exact h
    · rw [Vt.getTo, ih (by omega)]
def Vt.zero : Vt := .mk 0 0 0 ⟨#[]⟩ 0 (fun _ => .nil) 0 (fun _ => ⟨#[]⟩)
def Vt.get (t : Vt) (L : Nat) (p : Nat → ByteArray) : Vt × Int :=
  if 8 < L ∨ t.may = false then (Vt.zero, 400) else match Vt.getTo t p L with | .error e => (Vt.zero, e) | .ok u => (u, 0)
theorem Vt.zero_own (w : World) (B C : Nat) (h : B ≤ C) : Vt.zero.Own w B C (.agg #[.int .i64 0, .int .i64 0, .int .u64 0, .string ⟨#[]⟩, .slice none 0 0, .slice none 0 0]) :=
  ⟨none, 0, none, 0, B, rfl, by decide, ⟨Nat.le_refl _, by decide⟩, ⟨Nat.le_refl _, by decide⟩, Nat.le_refl _, h, fun h => absurd h (by decide), fun h => absurd h (by decide)⟩

theorem Vt.Own.wide {w : World} {lo hi lo' hi' : Nat} {t : Vt} {v : Value} (h : t.Own w lo hi v) (h1 : lo' ≤ lo) (h2 : hi ≤ hi') : t.Own w lo' hi' v := by
  cases t with
  | nil => exact h.elim
  | mk k x b s n it m ks =>
    obtain ⟨ai, c, ak, d, mid, e, hb, hd, hc, l1, l2, hk, hi⟩ := h
    refine ⟨ai, c, ak, d, mid, e, hb, hd, hc, by omega, by omega, fun hm => ?_, fun hn => ?_⟩
    · obtain ⟨g, cur, e, g1, g2, r⟩ := hk hm
      exact ⟨g, cur, e, by omega, g2, r⟩
    · obtain ⟨g, cur, A, B, e, g1, g2, hg, hj, hp⟩ := hi hn
      refine ⟨g, cur, A, B, e, g1, by omega, hg, fun i hin => ?_, hp⟩
      obtain ⟨a1, a2, r⟩ := hj i hin
      exact ⟨a1, by omega, r⟩
theorem Vt.Lies.root {w : World} {R : Nat → Prop} {t : Vt} {k x : Int} {b : Nat} {s : ByteArray} {ai ak : Option Addr} {n c m d : Nat} (h : t.Lies w R (.agg #[.int .i64 k, .int .i64 x, .int .u64 (b : Int), .string s, .slice ai n c, .slice ak m d])) : ∃ it ks, t = .mk k x b s n it m ks := by
  cases t with
  | nil => exact h.elim
  | mk k' x' b' s' n' it m' ks =>
    obtain ⟨ai', c', ak', d', e, _⟩ := h
    simp only [Value.agg.injEq, Array.mk.injEq, List.cons.injEq, Value.slice.injEq, Value.int.injEq, Value.string.injEq, true_and, and_true] at e
    obtain ⟨rfl, rfl, e3, rfl, ⟨_, rfl, _⟩, _, rfl, _⟩ := e
    have : b = b' := by omega
    subst this
    exact ⟨it, ks, rfl⟩

end Go.Proofs.YtboalkfagfgnpaaGreatDoor
/-
  SMALL TREES, and the walks of the law's own num, text, bits, Num.
-/
namespace Go.Proofs.YtboalkfagfgnpaaGreatDoor
open Go.RowKit

/-- a value without parts -/
def Vt.leaf (k x : Int) (b : Nat) (s : ByteArray) : Vt := .mk k x b s 0 (fun _ => .nil) 0 (fun _ => ⟨#[]⟩)
theorem Vt.leaf_lies (k x : Int) (b : Nat) (s : ByteArray) (hb : b < 18446744073709551616) (w : World) (R : Nat → Prop) : (Vt.leaf k x b s).Lies w R (.agg #[.int .i64 k, .int .i64 x, .int .u64 (b : Int), .string s, .slice none 0 0, .slice none 0 0]) :=
  ⟨none, 0, none, 0, rfl, hb, Nat.le_refl _, by decide, ⟨Nat.le_refl _, by decide, fun j hj => absurd hj (by omega)⟩, fun i hi => absurd hi (by omega)⟩
theorem Vt.leaf_may (k x : Int) (b : Nat) (s : ByteArray) : (Vt.leaf k x b s).may = Vt.formed k x b s 0 0 (fun _ => ⟨#[]⟩) := by
  unfold Vt.may Vt.leaf Vt.stand
  cases e : Vt.formed k x b s 0 0 (fun _ => ⟨#[]⟩) with
  | true => simp [Vt.run]
  | false => simp

theorem Vn.errno (x : Int) (w : World) : Calls Tryz.prog 10 #[.int .i64 x] w fun e w' => e = .returned (.int .i64 x) ∧ w' = w := by
  go_enter Tryz.func10, Tryz.ntmps10
  go_wp2
  go_ret
  exact ⟨rfl, rfl⟩
end Go.Proofs.YtboalkfagfgnpaaGreatDoor
/-
  THE VALUES of the law's awake: what each call comes to.
-/
namespace Go.Proofs.YtboalkfagfgnpaaGreatDoor
open Go.RowKit

/-- the record of awake -/
def Vt.rec2 : Vt := .mk 6 0 0 ⟨#[]⟩ 2 (fun i => if i = 0 then Vt.leaf 2 5 0 ⟨#[]⟩ else Vt.leaf 4 0 0 ⟨#[120]⟩) 2 (fun j => if j = 0 then ⟨#[97]⟩ else ⟨#[98]⟩)
theorem Vw.empty : (⟨#[]⟩ : ByteArray).toList = [] := by rw [Lib.toList_data]
theorem Vw.one (c : UInt8) : (⟨#[c]⟩ : ByteArray).toList = [c] := by rw [Lib.toList_data]
theorem Vw.size (c : UInt8) : (⟨#[c]⟩ : ByteArray).size = 1 := rfl
theorem Vw.may : Vt.rec2.may = true := by
  simp [Vt.rec2, Vt.may, Vt.stand, Vt.run, Vt.leaf, Vt.formed, Vt.keysOk, Vt.key, Vt.prev, Op.bytesLess, Vw.size]
theorem Vw.truth : Vt.rec2.truth = true := by
  have := Vw.may
  unfold Vt.rec2 at this
  simp [Vt.rec2, Vt.truth, this]
theorem Vw.told : Vt.rec2.told.2 = 402 := by
  have := Vw.may
  unfold Vt.rec2 at this
  simp [Vt.rec2, Vt.told, this]
theorem Vw.real_may (b : Nat) : (Vt.leaf 3 0 b ⟨#[]⟩).may = true := by
  rw [Vt.leaf_may]
  simp [Vt.formed]
theorem Vw.int_may (x : Int) : (Vt.leaf 2 x 0 ⟨#[]⟩).may = (decide (-9007199254740991 ≤ x) && decide (x ≤ 9007199254740991)) := by
  rw [Vt.leaf_may]
  simp [Vt.formed]
theorem Vw.text_may (s : ByteArray) : (Vt.leaf 4 0 0 s).may = decide (s.size ≤ 65536) := by
  rw [Vt.leaf_may]
  simp [Vt.formed]
theorem Vw.real_told (b : Nat) : (Vt.leaf 3 0 b ⟨#[]⟩).told = (⟨(Re.text b).toArray⟩, 0) := by
  have := Vw.real_may b
  unfold Vt.leaf at this
  simp [Vt.leaf, Vt.told, this]
theorem Vw.t2 : Re.text 9223372036854775808 = [45, 48] := by
  have k : Re.kind 9223372036854775808 = 2 := by decide +kernel
  unfold Re.text
  rw [k]
  decide +kernel
theorem Vw.real_truth (b : Nat) : (Vt.leaf 3 0 b ⟨#[]⟩).truth = (!((Re.kind b : Int) == 2) && !((Re.kind b : Int) == 0)) := by
  have := Vw.real_may b
  unfold Vt.leaf at this
  simp [Vt.leaf, Vt.truth, this]
theorem Vw.real_less (a b : Nat) : (Vt.leaf 3 0 a ⟨#[]⟩).less (Vt.leaf 3 0 b ⟨#[]⟩) = (Re.num a && Re.num b && decide (Re.rank a < Re.rank b), 0) := by
  have h1 := Vw.real_may a
  have h2 := Vw.real_may b
  unfold Vt.leaf at h1 h2
  simp [Vt.leaf, Vt.less, h1, h2]
theorem Vw.real_same (a b : Nat) : (Vt.leaf 3 0 a ⟨#[]⟩).same (Vt.leaf 3 0 b ⟨#[]⟩) = (Re.num a && decide (Re.rank a = Re.rank b)) := by
  have h1 := Vw.real_may a
  have h2 := Vw.real_may b
  unfold Vt.leaf at h1 h2
  simp [Vt.leaf, Vt.same, Vt.alike, h1, h2]
theorem Vw.mixed_less (x : Int) (hx : -9007199254740991 ≤ x ∧ x ≤ 9007199254740991) (s : ByteArray) (hs : s.size ≤ 65536) : ((Vt.leaf 2 x 0 ⟨#[]⟩).less (Vt.leaf 4 0 0 s)).2 = 402 := by
  have h1 := Vw.int_may x
  have h2 := Vw.text_may s
  rw [decide_eq_true hx.1, decide_eq_true hx.2] at h1
  rw [decide_eq_true hs] at h2
  unfold Vt.leaf at h1 h2
  simp at h1 h2
  simp [Vt.leaf, Vt.less, h1, h2]
theorem Vw.get1 (p : Nat → ByteArray) (hp : p 0 = ⟨#[98]⟩) : Vt.rec2.get 1 p = (Vt.leaf 4 0 0 ⟨#[120]⟩, 0) := by
  have h1 := Vw.may
  unfold Vt.get
  rw [if_neg (by rw [h1]; simp)]
  simp [Vt.rec2, Vt.getTo, Vt.under, Vt.pos, hp]
theorem Vw.get2 (p : Nat → ByteArray) (hp : p 0 = ⟨#[99]⟩) : (Vt.rec2.get 1 p).2 = 401 := by
  have h1 := Vw.may
  unfold Vt.get
  rw [if_neg (by rw [h1]; simp)]
  simp [Vt.rec2, Vt.getTo, Vt.under, Vt.pos, hp]
theorem Vw.get3 (p : Nat → ByteArray) (hp : p 0 = ⟨#[97]⟩) : (Vt.rec2.get 2 p).2 = 402 := by
  have h1 := Vw.may
  unfold Vt.get
  rw [if_neg (by rw [h1]; simp)]
  simp [Vt.rec2, Vt.getTo, Vt.under, Vt.pos, hp, Vt.leaf]
theorem Vw.eq (s : ByteArray) : (Vt.leaf 4 0 0 s).eq (Vt.leaf 4 0 0 s) = true := by
  simp [Vt.leaf, Vt.eq, Vt.sameKeys, Vt.allTo]
theorem Vw.big : (Vt.leaf 2 9007199254740992 0 ⟨#[]⟩).may = false := by
  rw [Vw.int_may]
  decide
theorem Vw.less1 : (Vt.leaf 3 0 13830554455654793216 ⟨#[]⟩).less (Vt.leaf 3 0 0 ⟨#[]⟩) = (true, 0) := by
  rw [Vw.real_less]
  decide +kernel
theorem Vw.same1 : (Vt.leaf 3 0 0 ⟨#[]⟩).same (Vt.leaf 3 0 9223372036854775808 ⟨#[]⟩) = true := by
  rw [Vw.real_same]
  decide +kernel
theorem Vw.same2 : (Vt.leaf 3 0 9221120237041090560 ⟨#[]⟩).same (Vt.leaf 3 0 9221120237041090560 ⟨#[]⟩) = false := by
  rw [Vw.real_same]
  decide +kernel
theorem Vw.truth2 : (Vt.leaf 3 0 9223372036854775808 ⟨#[]⟩).truth = false := by
  rw [Vw.real_truth]
  decide +kernel
end Go.Proofs.YtboalkfagfgnpaaGreatDoor
/-
  THE WALK of stolelaw4.awake: it returns true, and turns nothing that was there.
-/
namespace Go.Proofs.YtboalkfagfgnpaaGreatDoor
open Go.RowKit

theorem Vw.rLies (b : Nat) (z : Int) (hz : z = b) (hb : b < 18446744073709551616) (w : World) (R : Nat → Prop) : (Vt.leaf 3 0 b ⟨#[]⟩).Lies w R (.agg #[.int .i64 3, .int .i64 0, .int .u64 z, .string ⟨#[]⟩, .slice none 0 0, .slice none 0 0]) := by
  subst hz
  exact Vt.leaf_lies 3 0 b ⟨#[]⟩ hb w R
theorem Vw.iLies (x : Int) (w : World) (R : Nat → Prop) : (Vt.leaf 2 x 0 ⟨#[]⟩).Lies w R (.agg #[.int .i64 2, .int .i64 x, .int .u64 0, .string ⟨#[]⟩, .slice none 0 0, .slice none 0 0]) := Vt.leaf_lies 2 x 0 ⟨#[]⟩ (by decide) w R
theorem Vw.sLies (s : ByteArray) (w : World) (R : Nat → Prop) : (Vt.leaf 4 0 0 s).Lies w R (.agg #[.int .i64 4, .int .i64 0, .int .u64 0, .string s, .slice none 0 0, .slice none 0 0]) := Vt.leaf_lies 4 0 0 s (by decide) w R

/-- how things stand in awake: the record lies in memory, its variable holds it -/
structure Vw.St (w W : World) (gK gI gR : Nat) : Prop where
  below : Below w.heap.size w W
  tabs : Re.Tabs W
  lies : Vt.rec2.Lies W (· < W.heap.size) (.agg #[.int .i64 6, .int .i64 0, .int .u64 0, .string ⟨#[]⟩, .slice (some ⟨gI, 0, none⟩) 2 2, .slice (some ⟨gK, 0, none⟩) 2 2])
  lt : gR < W.heap.size
  box : Vm.Box W gR (.int .i64 6) (.int .i64 0) (.int .u64 0) (.string ⟨#[]⟩) (.slice (some ⟨gI, 0, none⟩) 2 2) (.slice (some ⟨gK, 0, none⟩) 2 2)
theorem Vw.St.on {w W W' : World} {gK gI gR : Nat} (h : Vw.St w W gK gI gR) (hb : Below W.heap.size W W') : Vw.St w W' gK gI gR :=
  ⟨Vm.then h.below hb, h.tabs.on hb, h.lies.on' hb, Nat.lt_of_lt_of_le h.lt hb.size, h.box.on h.lt hb⟩
theorem Vw.St.alloc {w W : World} {gK gI gR : Nat} (h : Vw.St w W gK gI gR) (o : Obj) : Vw.St w (W.alloc o) gK gI gR := h.on ((Below.refl _ _).alloc (Nat.le_refl _) o)
theorem Vw.St.drew {w W : World} {gK gI gR : Nat} (h : Vw.St w W gK gI gR) : Vw.St w W.drew gK gI gR := h.on ⟨rfl, rfl, rfl, Nat.le_refl _, fun _ _ => rfl⟩
theorem Vw.start {w w1 w2 : World} (ht : Re.Tabs w) (hb1 : Below (w.alloc (.cells #[.string ⟨#[97]⟩, .string ⟨#[98]⟩] 9)).heap.size (w.alloc (.cells #[.string ⟨#[97]⟩, .string ⟨#[98]⟩] 9)) w1) (hb2 : Below w1.heap.size w1 w2) :
    Vw.St w ((w2.alloc (.cells #[.int .i64 2, .int .i64 5, .int .u64 0, .string ⟨#[]⟩, .slice none 0 0, .slice none 0 0, .int .i64 4, .int .i64 0, .int .u64 0, .string ⟨#[120]⟩, .slice none 0 0, .slice none 0 0] 26)).alloc (.cells #[.int .i64 6, .int .i64 0, .int .u64 0, .string ⟨#[]⟩, .slice (some ⟨w2.heap.size, 0, none⟩) 2 2, .slice (some ⟨w.heap.size, 0, none⟩) 2 2] 26)) w.heap.size w2.heap.size (w2.heap.size + 1) := by
  have hb3 := Vm.then (Vm.behind hb1) hb2
  have k1 : w1.heap[w.heap.size]? = some (.cells #[.string ⟨#[97]⟩, .string ⟨#[98]⟩] 9) := Vm.boxed hb1
  have hs1 : w.heap.size < w1.heap.size := (Array.getElem?_eq_some_iff.1 k1).1
  have k2 := (hb2.block _ hs1).trans k1
  have hs2 : w.heap.size < w2.heap.size := (Array.getElem?_eq_some_iff.1 k2).1
  generalize hX : (Obj.cells #[.int .i64 2, .int .i64 5, .int .u64 0, .string ⟨#[]⟩, .slice none 0 0, .slice none 0 0, .int .i64 4, .int .i64 0, .int .u64 0, .string ⟨#[120]⟩, .slice none 0 0, .slice none 0 0] 26) = X
  generalize hY : (Obj.cells #[.int .i64 6, .int .i64 0, .int .u64 0, .string ⟨#[]⟩, .slice (some ⟨w2.heap.size, 0, none⟩) 2 2, .slice (some ⟨w.heap.size, 0, none⟩) 2 2] 26) = Y
  have hbw : Below w.heap.size w ((w2.alloc X).alloc Y) := (hb3.alloc (by omega) X).alloc (by simp; omega) Y
  have k3 : ((w2.alloc X).alloc Y).heap[w.heap.size]? = some (.cells #[.string ⟨#[97]⟩, .string ⟨#[98]⟩] 9) := by
    rw [Below.heap_alloc _ _ _ (by simp; omega), Below.heap_alloc _ _ _ hs2]
    exact k2
  have i3 : ((w2.alloc X).alloc Y).heap[w2.heap.size]? = some X := by
    rw [Below.heap_alloc _ _ _ (by simp)]
    show (w2.heap.push _)[w2.heap.size]? = _
    simp
  have r3 : ((w2.alloc X).alloc Y).heap[w2.heap.size + 1]? = some Y := by
    show ((w2.heap.push _).push _)[w2.heap.size + 1]? = _
    rw [Array.getElem?_push, if_pos (by simp)]
  have hsz : ((w2.alloc X).alloc Y).heap.size = w2.heap.size + 2 := by simp
  subst hX hY
  generalize (w2.alloc _).alloc _ = W at *
  refine ⟨hbw, ht.on hbw, ?_, by omega, ⟨r3⟩⟩
  refine ⟨_, _, _, _, rfl, by decide, Nat.le_refl _, by decide, ⟨Nat.le_refl _, by decide, fun j hj => ?_⟩, fun i hi => ?_⟩
  · refine ⟨_, 0, rfl, by omega, Vm.boxCell k3 _ ?_⟩
    have : j = 0 ∨ j = 1 := by omega
    rcases this with rfl | rfl <;> rfl
  · have : i = 0 ∨ i = 1 := by omega
    rcases this with rfl | rfl
    · exact ⟨_, 0, _, _, _, _, _, _, rfl, by omega, Vm.boxCell i3 _ rfl, Vm.boxCell i3 _ rfl, Vm.boxCell i3 _ rfl, Vm.boxCell i3 _ rfl, Vm.boxCell i3 _ rfl, Vm.boxCell i3 _ rfl, Vw.iLies 5 _ _⟩
    · exact ⟨_, 0, _, _, _, _, _, _, rfl, by omega, Vm.boxCell i3 _ rfl, Vm.boxCell i3 _ rfl, Vm.boxCell i3 _ rfl, Vm.boxCell i3 _ rfl, Vm.boxCell i3 _ rfl, Vm.boxCell i3 _ rfl, Vw.sLies ⟨#[120]⟩ _ _⟩
/-- one or two names in a row of their own -/
theorem Vw.path1 (W : World) (a : ByteArray) (g : Nat) (hg : g = W.heap.size) : Vt.Keys (W.alloc (.cells #[.string a] 9)) (· < (W.alloc (.cells #[.string a] 9)).heap.size) 1 (fun _ => a) (some ⟨g, 0, none⟩) 1 := by
  subst hg
  refine ⟨Nat.le_refl _, by decide, fun j hj => ⟨W.heap.size, 0, rfl, by simp, ?_⟩⟩
  have : j = 0 := by omega
  subst this
  exact Vm.boxCell (cs := #[.string a]) (ty := 9) (by show (W.heap.push _)[W.heap.size]? = _; simp) 0 rfl
theorem Vw.path2 (W : World) (a b : ByteArray) (g : Nat) (hg : g = W.heap.size) : Vt.Keys (W.alloc (.cells #[.string a, .string b] 9)) (· < (W.alloc (.cells #[.string a, .string b] 9)).heap.size) 2 (fun j => if j = 0 then a else b) (some ⟨g, 0, none⟩) 2 := by
  subst hg
  refine ⟨Nat.le_refl _, by decide, fun j hj => ⟨W.heap.size, 0, rfl, by simp, ?_⟩⟩
  have : j = 0 ∨ j = 1 := by omega
  rcases this with rfl | rfl
  · exact Vm.boxCell (cs := #[.string a, .string b]) (ty := 9) (by show (W.heap.push _)[W.heap.size]? = _; simp) 0 rfl
  · exact Vm.boxCell (cs := #[.string a, .string b]) (ty := 9) (by show (W.heap.push _)[W.heap.size]? = _; simp) 1 rfl

/-- the variable that holds what Get gave -/
structure Vw.Ct (W : World) (gC : Nat) (v0 v1 v2 v3 v4 v5 : Value) : Prop where
  lt : gC < W.heap.size
  box : Vm.Box W gC v0 v1 v2 v3 v4 v5
  lies : (Vt.leaf 4 0 0 ⟨#[120]⟩).Lies W (· < W.heap.size) (.agg #[v0, v1, v2, v3, v4, v5])
theorem Vw.Ct.on {W W' : World} {gC : Nat} {v0 v1 v2 v3 v4 v5 : Value} (h : Vw.Ct W gC v0 v1 v2 v3 v4 v5) (hb : Below W.heap.size W W') : Vw.Ct W' gC v0 v1 v2 v3 v4 v5 :=
  ⟨Nat.lt_of_lt_of_le h.lt hb.size, h.box.on h.lt hb, h.lies.on' hb⟩
theorem Vw.Ct.alloc {W : World} {gC : Nat} {v0 v1 v2 v3 v4 v5 : Value} (h : Vw.Ct W gC v0 v1 v2 v3 v4 v5) (o : Obj) : Vw.Ct (W.alloc o) gC v0 v1 v2 v3 v4 v5 := h.on ((Below.refl _ _).alloc (Nat.le_refl _) o)
theorem Vw.Ct.drew {W : World} {gC : Nat} {v0 v1 v2 v3 v4 v5 : Value} (h : Vw.Ct W gC v0 v1 v2 v3 v4 v5) : Vw.Ct W.drew gC v0 v1 v2 v3 v4 v5 := h.on ⟨rfl, rfl, rfl, Nat.le_refl _, fun _ _ => rfl⟩
theorem Vw.Ct.start {W : World} {B : Nat} {v0 v1 v2 v3 v4 v5 : Value} (h : (Vt.leaf 4 0 0 ⟨#[120]⟩).Own W B W.heap.size (.agg #[v0, v1, v2, v3, v4, v5])) : Vw.Ct (W.alloc (.cells #[v0, v1, v2, v3, v4, v5] 26)) W.heap.size v0 v1 v2 v3 v4 v5 :=
  ⟨by simp, ⟨by show (W.heap.push _)[W.heap.size]? = _; simp⟩, Vt.Lies.alloc (h.lies.on fun g hg => ⟨hg.2, rfl⟩) _⟩

/-- THE WORLDS IN WHICH ALL THAT LAY IN L LIES STILL: a class for a region that draws its order and whose calls make memory. -/
def Vw.Wd (L : World) : Type := { u : World // Below L.heap.size L u }
theorem Vw.wd_ne (L : World) : Nonempty (Vw.Wd L) := ⟨⟨L, Below.refl _ _⟩⟩
/-- the quiet walk's theorem at this class -/
theorem Vw.region {L : World} {id : Nat} {Q : Exit → Act → World → Prop} {a : Act} {l : List Oper} (hB : Region.lexB .any l.toArray = true)
    (h : wpQuiet Tryz.prog l.toArray (fun u => ∃ q : Vw.Wd L, u = q.1) (fun a' => ∀ w', (∃ q : Vw.Wd L, w' = q.1) → Q .normal a' w') l a) : (Code.region id l.toArray true).wp Tryz.prog Q a L :=
  wp_region_quiet (C := fun u => ∃ q : Vw.Wd L, u = q.1) (by kernel_rfl) hB ⟨⟨_, (Below.refl _ _).drew⟩, rfl⟩ (by simpa using h)
theorem Vw.call {L : World} {f : FuncId} {args : Array Value} {v v' : Value} (q : Vw.Wd L) (hv : v = v') (h : Calls Tryz.prog f args q.1 fun e w' => e = .returned v ∧ Below q.1.heap.size q.1 w') :
    Calls Tryz.prog f args q.1 fun e w'' => e = .returned v' ∧ ∃ m : Vw.Wd L, w'' = m.1 :=
  h.mono fun _ w'' ⟨he, hb⟩ => ⟨by rw [he, hv], ⟨w'', Vm.then q.2 hb⟩, rfl⟩
theorem Vw.call0 {L : World} {f : FuncId} {args : Array Value} {v : Value} (q : Vw.Wd L) (h : Calls Tryz.prog f args q.1 fun e w' => e = .returned v ∧ w' = q.1) :
    Calls Tryz.prog f args q.1 fun e w'' => e = .returned v ∧ ∃ m : Vw.Wd L, w'' = m.1 :=
  h.mono fun _ _ ⟨he, hb⟩ => ⟨he, q, hb⟩

end Go.Proofs.YtboalkfagfgnpaaGreatDoor
/-
  SMALL THINGS for the walks of the laws on values.
-/
namespace Go.Proofs.YtboalkfagfgnpaaGreatDoor
open Go.RowKit
theorem Bt.and53 (n : Int) : Go.bits .and .i64 n 9007199254740991 = n % 9007199254740992 := by
  have hm : (BitVec.ofInt 64 9007199254740991).toNat = 2 ^ 53 - 1 := by decide
  have key : (BitVec.ofInt 64 n &&& BitVec.ofInt 64 9007199254740991).toNat = (n % ((2 ^ 64 : Nat) : Int)).toNat % 2 ^ 53 := by
    rw [BitVec.toNat_and, BitVec.toNat_ofInt, hm, Nat.and_two_pow_sub_one_eq_mod]
  show IntKind.i64.wrap ((BitVec.ofInt 64 n &&& BitVec.ofInt 64 9007199254740991).toNat : Nat) = n % 9007199254740992
  rw [key, IntKind.wrap_i64]
  omega
structure Vm.Still (p : Prop) : Prop where
  out : p
/-- A PLACE AT WHICH THE WALK STANDS STILL: ahead of the operation that fills this slot -/
theorem Vm.stop (n : Nat) {P : Program} {ops : Array Oper} {Q : Exit → Act → World → Prop} {op : Op} {ty : TypeId} {pos : String} {after : Array Edge} {gd : Option (Nat × Bool)} {rest : List Oper} {a : Act} {w : World} (h : Vm.Still (wpList P ops Q ({ dst := some n, op := op, type := ty, pos := pos, after := after, guard := gd } :: rest) a w)) : wpList P ops Q ({ dst := some n, op := op, type := ty, pos := pos, after := after, guard := gd } :: rest) a w := h.out
theorem Vm.Box.alloc {w : World} {g : Nat} {v0 v1 v2 v3 v4 v5 : Value} (h : Vm.Box w g v0 v1 v2 v3 v4 v5) (hg : g < w.heap.size) (o : Obj) : Vm.Box (w.alloc o) g v0 v1 v2 v3 v4 v5 := ⟨(Below.heap_alloc _ _ _ hg).trans h.all⟩
theorem Vm.Box.other {w : World} {g : Nat} {v0 v1 v2 v3 v4 v5 : Value} (h : Vm.Box w g v0 v1 v2 v3 v4 v5) {g' : Nat} (hg : g ≠ g') (i : Nat) (v : Value) : Vm.Box (w.setCell ⟨g', i, none⟩ v) g v0 v1 v2 v3 v4 v5 := ⟨(Below.heap_setCell _ _ _ _ hg).trans h.all⟩
theorem Vm.new (W : World) (o : Obj) : (W.alloc o).heap[W.heap.size]? = some o := by
  show (W.heap.push _)[W.heap.size]? = _
  simp
/-- a block of memory -/
def Vm.Has (W : World) (g : Nat) (o : Obj) : Prop := W.heap[g]? = some o
theorem Vm.Has.lt {W : World} {g : Nat} {o : Obj} (h : Vm.Has W g o) : g < W.heap.size := (Array.getElem?_eq_some_iff.1 h).1
theorem Vm.Has.on {W W' : World} {g : Nat} {o : Obj} (h : Vm.Has W g o) (hb : Below W.heap.size W W') : Vm.Has W' g o := (hb.block g h.lt).trans h
theorem Vm.Has.alloc {W : World} {g : Nat} {o : Obj} (h : Vm.Has W g o) (o' : Obj) : Vm.Has (W.alloc o') g o := (Below.heap_alloc _ _ _ h.lt).trans h
theorem Vm.Has.other {W : World} {g : Nat} {o : Obj} (h : Vm.Has W g o) {g' : Nat} (hg : g ≠ g') (i : Nat) (v : Value) : Vm.Has (W.setCell ⟨g', i, none⟩ v) g o := (Below.heap_setCell _ _ _ _ hg).trans h
theorem Vm.Has.new (W : World) (o : Obj) (g : Nat) (hg : g = W.heap.size) : Vm.Has (W.alloc o) g o := by
  subst hg
  exact Vm.new W o
theorem Vm.Has.set {W : World} {g : Nat} {cs : Array Value} {ty : TypeId} (h : Vm.Has W g (.cells cs ty)) (i : Nat) (v : Value) : Vm.Has (W.setCell ⟨g, i, none⟩ v) g (.cells (cs.setIfInBounds i v) ty) := Vm.setAt h i v
theorem Vm.Has.cell {W : World} {g : Nat} {cs : Array Value} {ty : TypeId} (h : Vm.Has W g (.cells cs ty)) (i : Nat) {v : Value} (hv : cs[i]? = some v) : W.cell? ⟨g, i, none⟩ = some v := Vm.boxCell h i hv
theorem Vm.Has.frozen {W : World} {g : Nat} {cs : Array Value} {ty : TypeId} (h : Vm.Has W g (.cells cs ty)) (i : Nat) : W.frozen? ⟨g, i, none⟩ = false := Vc.row_frozen h i
theorem Vm.Box.has {W : World} {g : Nat} {v0 v1 v2 v3 v4 v5 : Value} (h : Vm.Box W g v0 v1 v2 v3 v4 v5) : Vm.Has W g (.cells #[v0, v1, v2, v3, v4, v5] 26) := h.all
theorem Vm.Box.lt {W : World} {g : Nat} {v0 v1 v2 v3 v4 v5 : Value} (h : Vm.Box W g v0 v1 v2 v3 v4 v5) : g < W.heap.size := h.has.lt
/-- an object of values is a row with all six cells of each -/
theorem Vm.Box.set0 {w : World} {g : Nat} {v0 v1 v2 v3 v4 v5 : Value} (h : Vm.Box w g v0 v1 v2 v3 v4 v5) (v : Value) : Vm.Box (w.setCell ⟨g, 0, none⟩ v) g v v1 v2 v3 v4 v5 := ⟨Vm.setAt h.all 0 v⟩
theorem Vm.Box.set1 {w : World} {g : Nat} {v0 v1 v2 v3 v4 v5 : Value} (h : Vm.Box w g v0 v1 v2 v3 v4 v5) (v : Value) : Vm.Box (w.setCell ⟨g, 1, none⟩ v) g v0 v v2 v3 v4 v5 := ⟨Vm.setAt h.all 1 v⟩
theorem Vm.Box.set2 {w : World} {g : Nat} {v0 v1 v2 v3 v4 v5 : Value} (h : Vm.Box w g v0 v1 v2 v3 v4 v5) (v : Value) : Vm.Box (w.setCell ⟨g, 2, none⟩ v) g v0 v1 v v3 v4 v5 := ⟨Vm.setAt h.all 2 v⟩
theorem Vm.Has.wrote {W W' : World} {g g' : Nat} {o : Obj} (h : Vm.Has W g o) (hw : Vm.Wrote g' W W') (hg : g ≠ g') : Vm.Has W' g o := (hw.block g hg).trans h
theorem Vm.Box.wrote {W W' : World} {g g' : Nat} {v0 v1 v2 v3 v4 v5 : Value} (h : Vm.Box W g v0 v1 v2 v3 v4 v5) (hw : Vm.Wrote g' W W') (hg : g ≠ g') : Vm.Box W' g v0 v1 v2 v3 v4 v5 := ⟨(hw.block g hg).trans h.all⟩
/-- ONE value in a row of its own -/
theorem Vt.one_lies {W : World} {t : Vt} {g : Nat} {v0 v1 v2 v3 v4 v5 : Value} (h : Vm.Has W g (.cells #[v0, v1, v2, v3, v4, v5] 26)) (hl : t.Lies W (· < W.heap.size) (.agg #[v0, v1, v2, v3, v4, v5])) : (Vt.mk 5 0 0 ⟨#[]⟩ 1 (fun _ => t) 0 (fun _ => ⟨#[]⟩)).Lies W (· < W.heap.size) (.agg #[.int .i64 5, .int .i64 0, .int .u64 0, .string ⟨#[]⟩, .slice (some ⟨g, 0, none⟩) 1 1, .slice none 0 0]) := by
  refine ⟨_, _, _, _, rfl, by decide, Nat.le_refl _, by decide, ⟨Nat.le_refl _, by decide, fun j hj => absurd hj (by omega)⟩, fun i hi => ?_⟩
  have : i = 0 := by omega
  subst this
  exact ⟨g, 0, _, _, _, _, _, _, rfl, h.lt, h.cell _ rfl, h.cell _ rfl, h.cell _ rfl, h.cell _ rfl, h.cell _ rfl, h.cell _ rfl, hl⟩
end Go.Proofs.YtboalkfagfgnpaaGreatDoor

/-
  THE WALK of the program's value.Get.
-/
import Derived.Test.YtiajclmhimkpnaaDoorBVOwntoVFind
import Derived.Test.YtiajclmhimkpnaaDoorBVSame
import Derived.Test.YtiajclmhimkpnaaDoorBShelf10toJEw
import Derived.Test.YtiajclmhimkpnaaDoorBRToktoJText
import Derived.Test.YtiajclmhimkpnaaDoorBVTreetoVKeys
namespace Go.Proofs.YtiajclmhimkpnaaDoor
open Go.RowKit

/-- each value of the tree is formed -/
def Vt.fit : Vt → Prop
  | .nil => False
  | .mk k x b s n it m ks => Vt.formed k x b s n m ks = true ∧ ∀ i, i < n → (it i).fit
theorem Vt.run_yes {f : Nat → Int → Bool × Int} {L : Int} {n : Nat} (h : (Vt.run f n L).1 = true) {i : Nat} (hi : i < n) : (Vt.run f i L).1 = true ∧ (f i (Vt.run f i L).2).1 = true := by
  have h1 : (Vt.run f i L).1 = true := by
    cases e : (Vt.run f i L).1 with
    | true => rfl
    | false => rw [Vt.run_no e n (by omega), e] at h; cases h
  have h2 : (Vt.run f (i + 1) L).1 = true := by
    cases e : (Vt.run f (i + 1) L).1 with
    | true => rfl
    | false => rw [Vt.run_no e n (by omega), e] at h; cases h
  rw [Vt.run, h1, if_pos rfl] at h2
  exact ⟨h1, h2⟩
theorem Vt.fit_of : ∀ (t : Vt) (deep L : Int), (t.stand deep L).1 = true → t.fit := by
  intro t
  induction t with
  | nil => intro deep L h; cases h
  | mk k x b s n it m ks ih =>
    intro deep L h
    unfold Vt.stand at h
    split at h
    · cases h
    · next hc =>
      refine ⟨?_, fun i hi => ih i _ _ (Vt.run_yes h hi).2⟩
      cases e : Vt.formed k x b s n m ks with
      | true => rfl
      | false => exact absurd (.inr (.inr e)) hc
theorem Vt.formed_le {k x : Int} {b : Nat} {s : ByteArray} {n m : Nat} {ks : Nat → ByteArray} (h : Vt.formed k x b s n m ks = true) : n ≤ 64 ∧ m ≤ 64 := by
  unfold Vt.formed at h
  repeat' split at h
  all_goals simp at h
  all_goals omega
theorem Vt.fit.tidy : ∀ {t : Vt}, t.fit → t.tidy := by
  intro t
  induction t with
  | nil => intro h; exact h.elim
  | mk k x b s n it m ks ih =>
    rintro ⟨h1, h2⟩
    have := Vt.formed_le h1
    exact ⟨this.1, this.2, fun i hi => ih i (h2 i hi)⟩
theorem Vt.formed6 {x : Int} {b : Nat} {s : ByteArray} {n m : Nat} {ks : Nat → ByteArray} (h : Vt.formed 6 x b s n m ks = true) : n ≤ 64 ∧ m = n ∧ Vt.keysOk ks m = true := by
  simp [Vt.formed] at h
  exact ⟨h.1.1.1.1.1, h.1.1.1.1.2, h.1.1.1.2⟩

/-- the last of m keys that is x -/
def Vt.pos (ks : Nat → ByteArray) (x : List UInt8) : Nat → Option Nat
  | 0 => none
  | j + 1 => if (ks j).toList = x then some j else Vt.pos ks x j
theorem Vt.pos_none {ks : Nat → ByteArray} {x : List UInt8} {m : Nat} (h : ∀ j, j < m → (ks j).toList ≠ x) : Vt.pos ks x m = none := by
  induction m with
  | zero => rfl
  | succ m ih => rw [Vt.pos, if_neg (h m (by omega))]; exact ih fun j hj => h j (by omega)
theorem Vt.pos_some {ks : Nat → ByteArray} {x : List UInt8} {m I : Nat} (hok : Vt.keysOk ks m = true) (h : (ks I).toList = x) : ∀ m', m' ≤ m → I < m' → Vt.pos ks x m' = some I := by
  intro m' hm hi
  induction m' with
  | zero => omega
  | succ m' ih =>
    rw [Vt.pos]
    by_cases e : I = m'
    · subst e; rw [if_pos h]
    · rw [if_neg (fun e' => Vo.ne (Vo.rise hok (show I < m' by omega) (by omega)) (h.trans e'.symm))]
      exact ih (by omega) (by omega)
/-- what stands behind one name: an error's number, or a value -/
def Vt.under : Vt → List UInt8 → Except Int Vt
  | .nil, _ => .error 402
  | .mk k _ _ _ _ it m ks, x => if k = 6 then (match Vt.pos ks x m with | none => .error 401 | some j => .ok (it j)) else .error 402
/-- .. behind the first names of a path -/
def Vt.getTo (t : Vt) (p : Nat → ByteArray) : Nat → Except Int Vt
  | 0 => .ok t
  | i + 1 => match Vt.getTo t p i with | .error e => .error e | .ok u => u.under (p i).toList
theorem Vt.getTo_err {t : Vt} {p : Nat → ByteArray} {i : Nat} {e : Int} (h : Vt.getTo t p i = .error e) : ∀ n, i ≤ n → Vt.getTo t p n = .error e := by
  intro n hn
  induction n with
  | zero => rw [Nat.le_zero.1 hn] at h; exact h
  | succ n ih =>
    by_cases e' : i = n + 1
    · rw [← e']; exact h
    · rw [Vt.getTo, ih (by omega)]
def Vt.zero : Vt := .mk 0 0 0 ⟨#[]⟩ 0 (fun _ => .nil) 0 (fun _ => ⟨#[]⟩)
def Vt.get (t : Vt) (L : Nat) (p : Nat → ByteArray) : Vt × Int :=
  if 8 < L ∨ t.may = false then (Vt.zero, 400) else match Vt.getTo t p L with | .error e => (Vt.zero, e) | .ok u => (u, 0)
theorem Vt.zero_own (w : World) (B C : Nat) (h : B ≤ C) : Vt.zero.Own w B C (.agg #[.int .i64 0, .int .i64 0, .int .u64 0, .string ⟨#[]⟩, .slice none 0 0, .slice none 0 0]) :=
  ⟨none, 0, none, 0, B, rfl, by decide, ⟨Nat.le_refl _, by decide⟩, ⟨Nat.le_refl _, by decide⟩, Nat.le_refl _, h, fun h => absurd h (by decide), fun h => absurd h (by decide)⟩

theorem Vt.Own.wide {w : World} {lo hi lo' hi' : Nat} {t : Vt} {v : Value} (h : t.Own w lo hi v) (h1 : lo' ≤ lo) (h2 : hi ≤ hi') : t.Own w lo' hi' v := by
  cases t with
  | nil => exact h.elim
  | mk k x b s n it m ks =>
    obtain ⟨ai, c, ak, d, mid, e, hb, hd, hc, l1, l2, hk, hi⟩ := h
    refine ⟨ai, c, ak, d, mid, e, hb, hd, hc, by omega, by omega, fun hm => ?_, fun hn => ?_⟩
    · obtain ⟨g, cur, e, g1, g2, r⟩ := hk hm
      exact ⟨g, cur, e, by omega, g2, r⟩
    · obtain ⟨g, cur, A, B, e, g1, g2, hg, hj, hp⟩ := hi hn
      refine ⟨g, cur, A, B, e, g1, by omega, hg, fun i hin => ?_, hp⟩
      obtain ⟨a1, a2, r⟩ := hj i hin
      exact ⟨a1, by omega, r⟩
theorem Vt.Lies.root {w : World} {R : Nat → Prop} {t : Vt} {k x : Int} {b : Nat} {s : ByteArray} {ai ak : Option Addr} {n c m d : Nat} (h : t.Lies w R (.agg #[.int .i64 k, .int .i64 x, .int .u64 (b : Int), .string s, .slice ai n c, .slice ak m d])) : ∃ it ks, t = .mk k x b s n it m ks := by
  cases t with
  | nil => exact h.elim
  | mk k' x' b' s' n' it m' ks =>
    obtain ⟨ai', c', ak', d', e, _⟩ := h
    simp only [Value.agg.injEq, Array.mk.injEq, List.cons.injEq, Value.slice.injEq, Value.int.injEq, Value.string.injEq, true_and, and_true] at e
    obtain ⟨rfl, rfl, e3, rfl, ⟨_, rfl, _⟩, _, rfl, _⟩ := e
    have : b = b' := by omega
    subst this
    exact ⟨it, ks, rfl⟩

end Go.Proofs.YtiajclmhimkpnaaDoor
/-
  SMALL TREES, and the walks of the law's own num, text, bits, Num.
-/
namespace Go.Proofs.YtiajclmhimkpnaaDoor
open Go.RowKit

/-- a value without parts -/
def Vt.leaf (k x : Int) (b : Nat) (s : ByteArray) : Vt := .mk k x b s 0 (fun _ => .nil) 0 (fun _ => ⟨#[]⟩)
theorem Vt.leaf_lies (k x : Int) (b : Nat) (s : ByteArray) (hb : b < 18446744073709551616) (w : World) (R : Nat → Prop) : (Vt.leaf k x b s).Lies w R (.agg #[.int .i64 k, .int .i64 x, .int .u64 (b : Int), .string s, .slice none 0 0, .slice none 0 0]) :=
  ⟨none, 0, none, 0, rfl, hb, Nat.le_refl _, by decide, ⟨Nat.le_refl _, by decide, fun j hj => absurd hj (by omega)⟩, fun i hi => absurd hi (by omega)⟩
theorem Vt.leaf_may (k x : Int) (b : Nat) (s : ByteArray) : (Vt.leaf k x b s).may = Vt.formed k x b s 0 0 (fun _ => ⟨#[]⟩) := by
  unfold Vt.may Vt.leaf Vt.stand
  cases e : Vt.formed k x b s 0 0 (fun _ => ⟨#[]⟩) with
  | true => simp [Vt.run]
  | false => simp

theorem Vn.errno (x : Int) (w : World) : Calls Tryd.prog 11 #[.int .i64 x] w fun e w' => e = .returned (.int .i64 x) ∧ w' = w := by
  go_enter Tryd.func11, Tryd.ntmps11
  go_wp2
  go_ret
  exact ⟨rfl, rfl⟩
end Go.Proofs.YtiajclmhimkpnaaDoor
/-
  jstr.Escape as the landed program has it; stolelaw11.awake.
-/
namespace Go.Proofs.YtiajclmhimkpnaaDoor
open Go.RowKit
/-- jstr.Escape gives X -/
theorem Je.prog {X : ByteArray} (s : ByteArray) (hX : X = ⟨(Js.esc s.data.toList).toArray⟩) (w : World) (hT : Lib.Utf8Tabs 1 2 w) (hs : s.size ≤ 1099511627776) :
    Calls Tryd.prog 6 #[.string s] w fun e w' => e = .returned (.string X) ∧ Below w.heap.size w w' := by
  have c := Jw.escape s w hT hs
  rw [← hX] at c
  clear hX hT hs
  go_enter Tryd.func6, Tryd.ntmps6
  go_wp2_with (go_at_call 12; refine c.mono ?_; rintro e w1 ⟨rfl, b1⟩)
  go_ret
  exact ⟨rfl, b1⟩
theorem Je.awake (w : World) (hT : Lib.Utf8Tabs 1 2 w) : Calls Tryd.prog 8 #[] w fun e w' => e = .returned (.bool true) ∧ Below w.heap.size w w' := by
  have c := Je.prog (X := ⟨#[97, 92, 117, 48, 48, 50, 55, 92, 117, 48, 48, 53, 99, 92, 117, 48, 48, 48, 97, 92, 117, 50, 48, 50, 57]⟩) ⟨#[97, 39, 92, 10, 226, 128, 169]⟩ (by kernel_rfl) w hT (by decide)
  have er := fun u => Vn.errno 0 u
  clear hT
  go_enter Tryd.func8, Tryd.ntmps8
  go_wp2_with (first | (go_at_call 6; refine c.mono ?_; rintro e w1 ⟨rfl, b1⟩) | (go_at_call 11; refine (er _).mono ?_; rintro e w' ⟨rfl, hw⟩; have hw := hw.symm; subst hw))
  go_ret
  exact ⟨rfl, b1⟩
end Go.Proofs.YtiajclmhimkpnaaDoor
/-
  PLAIN: JSON texts read: values.
-/
namespace Go.Proofs.YtiajclmhimkpnaaDoor
def Js.blank (c : UInt8) : Bool := decide (c = 32) || decide (c = 9) || decide (c = 10) || decide (c = 13)
def Js.ws (l : List UInt8) : List UInt8 := l.dropWhile Js.blank
/-- a sign behind blanks -/
def Js.is (c : UInt8) (l : List UInt8) : Option (List UInt8) :=
  match Js.ws l with
  | [] => none
  | d :: r => if d = c then some r else none
def Js.leaf (k x : Int) (b : Nat) (s : ByteArray) : Vt := .mk k x b s 0 (fun _ => .nil) 0 (fun _ => ⟨#[]⟩)
def Js.node (k : Int) (ks : List ByteArray) (L : List Vt) : Vt := .mk k 0 0 ⟨#[]⟩ L.length (fun i => L.getD i .nil) ks.length (fun j => ks.getD j ⟨#[]⟩)
/-- a number's digits, and what stands behind them -/
def Js.numOf (neg : Bool) (ds r : List UInt8) : Option (Vt × List UInt8) :=
  if ds = [] ∨ (1 < ds.length ∧ ds.head? = some 48) ∨ 9007199254740991 < Pl.val 10 ds ∨ r.head? = some 46 ∨ r.head? = some 101 ∨ r.head? = some 69 then none
  else if neg = true ∧ Pl.val 10 ds = 0 then some (Js.leaf 3 0 9223372036854775808 ⟨#[]⟩, r)
  else some (Js.leaf 2 (if neg then -(Pl.val 10 ds : Int) else (Pl.val 10 ds : Int)) 0 ⟨#[]⟩, r)
def Js.number (l : List UInt8) : Option (Vt × List UInt8) :=
  if l.head? = some 45 then Js.numOf true ((l.drop 1).takeWhile Pl.digit) ((l.drop 1).dropWhile Pl.digit) else Js.numOf false (l.takeWhile Pl.digit) (l.dropWhile Pl.digit)
/-- a key and its ':', where there are keys -/
def Js.key (rec : Bool) (l : List UInt8) : Option (List ByteArray × List UInt8) :=
  if rec = true then
    (match Js.is 34 l with
    | none => none
    | some r =>
      match Js.text r with
      | none => none
      | some (k, r1) =>
        match Js.is 58 r1 with
        | none => none
        | some r2 => some ([⟨k.toArray⟩], r2))
  else some ([], l)
/-- parts, up to the end's sign -/
def Js.itemsF (val : List UInt8 → Option (Vt × List UInt8)) (rec : Bool) (e : UInt8) : Nat → List UInt8 → Option ((List ByteArray × List Vt) × List UInt8)
  | 0, _ => none
  | f + 1, l =>
    match Js.key rec l with
    | none => none
    | some (ks, r1) =>
      match val r1 with
      | none => none
      | some (t, r2) =>
        match Js.is e r2 with
        | some r3 => some ((ks, [t]), r3)
        | none =>
          match Js.is 44 r2 with
          | none => none
          | some r3 => (Js.itemsF val rec e f r3).map fun p => ((ks ++ p.1.1, t :: p.1.2), p.2)
def Js.list (val : List UInt8 → Option (Vt × List UInt8)) (rec : Bool) (e : UInt8) (l : List UInt8) : Option ((List ByteArray × List Vt) × List UInt8) :=
  match Js.is e l with
  | some r => some (([], []), r)
  | none => Js.itemsF val rec e l.length l
/-- a value that begins here; 'val': one within it -/
def Js.at (val : List UInt8 → Option (Vt × List UInt8)) (l : List UInt8) : Option (Vt × List UInt8) :=
  if l = [] then none
  else if Pl.pre [110, 117, 108, 108] l = true then some (Js.leaf 0 0 0 ⟨#[]⟩, l.drop 4)
  else if Pl.pre [116, 114, 117, 101] l = true then some (Js.leaf 1 1 0 ⟨#[]⟩, l.drop 4)
  else if Pl.pre [102, 97, 108, 115, 101] l = true then some (Js.leaf 1 0 0 ⟨#[]⟩, l.drop 5)
  else if l.head? = some 34 then (Js.text (l.drop 1)).map fun p => (Js.leaf 4 0 0 ⟨p.1.toArray⟩, p.2)
  else if l.head? = some 91 then (Js.list val false 93 (l.drop 1)).map fun p => (Js.node 5 p.1.1 p.1.2, p.2)
  else if l.head? = some 123 then (Js.list val true 125 (l.drop 1)).map fun p => (Js.node 6 p.1.1 p.1.2, p.2)
  else Js.number l
def Js.value : Nat → List UInt8 → Option (Vt × List UInt8)
  | 0, _ => none
  | d + 1, l => Js.at (Js.value d) (Js.ws l)
/-- Get -/
def Js.get (l : List UInt8) : Option Vt :=
  if 65536 < l.length then none
  else match Js.value 8 l with
    | none => none
    | some (t, r) => if Js.ws r = [] ∧ t.may = true then some t else none
theorem Js.ws_len (l : List UInt8) : (Js.ws l).length ≤ l.length := (List.dropWhile_sublist _).length_le
theorem Js.is_len {c : UInt8} {l r : List UInt8} (h : Js.is c l = some r) : r.length < l.length := by
  have hw := Js.ws_len l
  unfold Js.is at h
  split at h
  · cases h
  · rename_i d r' hr
    split at h
    · injection h with h
      subst h
      rw [hr, List.length_cons] at hw
      omega
    · cases h
theorem Js.textF_len : ∀ (f : Nat) (l b r : List UInt8), Js.textF f l = some (b, r) → r.length < l.length ∧ b.length ≤ 4 * l.length
  | 0, _, _, _, h => by cases h
  | f + 1, [], _, _, h => by cases h
  | f + 1, c :: t, b, r, h => by
    rw [Js.textF] at h
    split at h
    · simp only [Option.some.injEq, Prod.mk.injEq] at h
      obtain ⟨rfl, rfl⟩ := h
      exact ⟨by simp, by simp⟩
    · split at h
      · split at h
        · cases h
        · rename_i b1 r1 he
          obtain ⟨⟨q1, q2⟩, hq, e⟩ := Option.map_eq_some_iff.1 h
          simp only [Prod.mk.injEq] at e
          obtain ⟨rfl, rfl⟩ := e
          have h1 := Js.escaped_len he
          have h2 := Js.textF_len f r1 q1 q2 hq
          simp only [List.length_append, List.length_cons]
          omega
      · split at h
        · cases h
        · rename_i hs
          obtain ⟨⟨q1, q2⟩, hq, e⟩ := Option.map_eq_some_iff.1 h
          simp only [Prod.mk.injEq] at e
          obtain ⟨rfl, rfl⟩ := e
          have h2 := Js.textF_len f _ q1 q2 hq
          have h3 := Pl.sgn_le (c :: t)
          rw [List.length_drop] at h2
          simp only [List.length_append, List.length_take, List.length_cons] at h2 h3 ⊢
          omega
theorem Js.text_len {l b r : List UInt8} (h : Js.text l = some (b, r)) : r.length < l.length ∧ b.length ≤ 4 * l.length := Js.textF_len _ _ _ _ h
theorem Js.numOf_rest {neg : Bool} {ds r r' : List UInt8} {t : Vt} (h : Js.numOf neg ds r = some (t, r')) : ds ≠ [] ∧ r' = r := by
  unfold Js.numOf at h
  split at h
  · cases h
  · rename_i hd
    refine ⟨fun q => hd (.inl q), ?_⟩
    split at h
    all_goals
      simp only [Option.some.injEq, Prod.mk.injEq] at h
      exact h.2.symm
theorem Js.digs_len (l : List UInt8) (h : l.takeWhile Pl.digit ≠ []) : (l.dropWhile Pl.digit).length < l.length := by
  have e : (l.takeWhile Pl.digit ++ l.dropWhile Pl.digit).length = l.length := by rw [List.takeWhile_append_dropWhile]
  have := List.length_pos_iff.2 h
  rw [List.length_append] at e
  omega
theorem Js.number_len {l r : List UInt8} {t : Vt} (h : Js.number l = some (t, r)) : r.length < l.length := by
  unfold Js.number at h
  split at h
  · obtain ⟨h1, rfl⟩ := Js.numOf_rest h
    have := Js.digs_len _ h1
    rw [List.length_drop] at this
    omega
  · obtain ⟨h1, rfl⟩ := Js.numOf_rest h
    exact Js.digs_len _ h1
theorem Js.key_len {rec : Bool} {l r : List UInt8} {ks : List ByteArray} (h : Js.key rec l = some (ks, r)) : r.length ≤ l.length ∧ ks.length = if rec = true then 1 else 0 := by
  unfold Js.key at h
  split at h
  · rename_i hr
    split at h
    · cases h
    · rename_i r0 h0
      split at h
      · cases h
      · rename_i k r1 h1
        split at h
        · cases h
        · rename_i r2 h2
          simp only [Option.some.injEq, Prod.mk.injEq] at h
          obtain ⟨rfl, rfl⟩ := h
          have e0 := Js.is_len h0
          have e1 := (Js.text_len h1).1
          have e2 := Js.is_len h2
          exact ⟨by omega, by rw [if_pos hr]; rfl⟩
  · rename_i hr
    simp only [Option.some.injEq, Prod.mk.injEq] at h
    obtain ⟨rfl, rfl⟩ := h
    exact ⟨Nat.le_refl _, by rw [if_neg hr]; rfl⟩
theorem Js.itemsF_len {val : List UInt8 → Option (Vt × List UInt8)} (hv : ∀ l t r, val l = some (t, r) → r.length < l.length) (rec : Bool) (e : UInt8) : ∀ (f : Nat) (l : List UInt8) (p : List ByteArray × List Vt) (r : List UInt8), Js.itemsF val rec e f l = some (p, r) → r.length < l.length ∧ (p.1.length = if rec = true then p.2.length else 0) ∧ 1 ≤ p.2.length
  | 0, _, _, _, h => by cases h
  | f + 1, l, p, r, h => by
    rw [Js.itemsF] at h
    split at h
    · cases h
    · rename_i ks r1 h1
      have e1 := Js.key_len h1
      split at h
      · cases h
      · rename_i t r2 h2
        have e2 := hv _ _ _ h2
        split at h
        · rename_i r3 h3
          have e3 := Js.is_len h3
          simp only [Option.some.injEq, Prod.mk.injEq] at h
          obtain ⟨rfl, rfl⟩ := h
          refine ⟨by omega, ?_, by simp⟩
          rw [e1.2]
          rfl
        · split at h
          · cases h
          · rename_i r3 h3
            have e3 := Js.is_len h3
            obtain ⟨⟨q1, q2⟩, hq, e⟩ := Option.map_eq_some_iff.1 h
            simp only [Prod.mk.injEq] at e
            obtain ⟨rfl, rfl⟩ := e
            have e4 := Js.itemsF_len hv rec e f r3 q1 q2 hq
            refine ⟨by omega, ?_, by simp⟩
            have e1 := e1.2
            have e4 := e4.2.1
            simp only [List.length_append, List.length_cons]
            split at e1
            · rename_i hr
              rw [if_pos hr] at e4
              rw [if_pos hr]
              omega
            · rename_i hr
              rw [if_neg hr] at e4
              rw [if_neg hr]
              omega
theorem Js.list_len {val : List UInt8 → Option (Vt × List UInt8)} (hv : ∀ l t r, val l = some (t, r) → r.length < l.length) {rec : Bool} {e : UInt8} {l : List UInt8} {p : List ByteArray × List Vt} {r : List UInt8} (h : Js.list val rec e l = some (p, r)) : r.length < l.length ∧ (p.1.length = if rec = true then p.2.length else 0) := by
  unfold Js.list at h
  split at h
  · rename_i r0 h0
    simp only [Option.some.injEq, Prod.mk.injEq] at h
    obtain ⟨rfl, rfl⟩ := h
    exact ⟨Js.is_len h0, by split <;> rfl⟩
  · have := Js.itemsF_len hv rec e _ _ _ _ h
    exact ⟨this.1, this.2.1⟩
theorem Js.at_len {val : List UInt8 → Option (Vt × List UInt8)} (hv : ∀ l t r, val l = some (t, r) → r.length < l.length) {l r : List UInt8} {t : Vt} (h : Js.at val l = some (t, r)) : r.length < l.length := by
  unfold Js.at at h
  split at h
  · cases h
  · rename_i hne
    have hpos : 0 < l.length := List.length_pos_iff.2 hne
    have hd : ∀ n, 0 < n → (l.drop n).length < l.length := fun n hn => by rw [List.length_drop]; omega
    split at h
    · simp only [Option.some.injEq, Prod.mk.injEq] at h
      rw [← h.2]; exact hd 4 (by decide)
    · split at h
      · simp only [Option.some.injEq, Prod.mk.injEq] at h
        rw [← h.2]; exact hd 4 (by decide)
      · split at h
        · simp only [Option.some.injEq, Prod.mk.injEq] at h
          rw [← h.2]; exact hd 5 (by decide)
        · have h1 := hd 1 (by decide)
          split at h
          · obtain ⟨⟨q1, q2⟩, hq, e⟩ := Option.map_eq_some_iff.1 h
            simp only [Prod.mk.injEq] at e
            have := (Js.text_len hq).1
            rw [← e.2]
            omega
          · split at h
            · obtain ⟨⟨q1, q2⟩, hq, e⟩ := Option.map_eq_some_iff.1 h
              simp only [Prod.mk.injEq] at e
              have := (Js.list_len hv hq).1
              rw [← e.2]
              omega
            · split at h
              · obtain ⟨⟨q1, q2⟩, hq, e⟩ := Option.map_eq_some_iff.1 h
                simp only [Prod.mk.injEq] at e
                have := (Js.list_len hv hq).1
                rw [← e.2]
                omega
              · exact Js.number_len h
theorem Js.value_len : ∀ (d : Nat) (l : List UInt8) (t : Vt) (r : List UInt8), Js.value d l = some (t, r) → r.length < l.length
  | 0, _, _, _, h => by cases h
  | d + 1, l, t, r, h => by
    rw [Js.value] at h
    have h1 := Js.at_len (Js.value_len d) h
    have h2 := Js.ws_len l
    omega
/-- as many rounds as there are bytes are enough -/
theorem Js.itemsF_fuel {val : List UInt8 → Option (Vt × List UInt8)} (hv : ∀ l t r, val l = some (t, r) → r.length < l.length) (rec : Bool) (e : UInt8) : ∀ (f g : Nat) (l : List UInt8), l.length ≤ f → l.length ≤ g → Js.itemsF val rec e f l = Js.itemsF val rec e g l := by
  intro f
  induction f with
  | zero =>
    intro g l h1 _
    have : l = [] := List.length_eq_zero_iff.1 (by omega)
    subst this
    cases g with
    | zero => rfl
    | succ g =>
      rw [Js.itemsF, Js.itemsF]
      split
      · rfl
      · rename_i ks r1 h1
        have e1 := (Js.key_len h1).1
        have : r1 = [] := List.length_eq_zero_iff.1 (by simpa using e1)
        subst this
        split
        · rfl
        · rename_i t r2 h2
          have := hv _ _ _ h2
          simp at this
  | succ f ih =>
    intro g l h1 h2
    cases g with
    | zero =>
      have : l = [] := List.length_eq_zero_iff.1 (by omega)
      subst this
      rw [Js.itemsF, Js.itemsF]
      split
      · rfl
      · rename_i ks r1 h1
        have e1 := (Js.key_len h1).1
        have : r1 = [] := List.length_eq_zero_iff.1 (by simpa using e1)
        subst this
        split
        · rfl
        · rename_i t r2 h2
          have := hv _ _ _ h2
          simp at this
    | succ g =>
      rw [Js.itemsF, Js.itemsF]
      split
      · rfl
      · rename_i ks r1 h3
        have e1 := (Js.key_len h3).1
        split
        · rfl
        · rename_i t r2 h4
          have e2 := hv _ _ _ h4
          split
          · rfl
          · split
            · rfl
            · rename_i r3 h5
              have e3 := Js.is_len h5
              rw [ih g r3 (by omega) (by omega)]
end Go.Proofs.YtiajclmhimkpnaaDoor
/-
  PLAIN: what Escape writes is read again as it was normed.
-/
namespace Go.Proofs.YtiajclmhimkpnaaDoor
theorem Js.text_quote (r : List UInt8) : Js.text (34 :: r) = some ([], r) := rfl
theorem Js.text_esc {r b r1 : List UInt8} (h : Js.escaped r = some (b, r1)) : Js.text (92 :: r) = (Js.text r1).map fun p => (b ++ p.1, p.2) := by
  have hl := (Js.escaped_len h).1
  unfold Js.text
  rw [List.length_cons, Js.textF, if_neg (by decide), if_pos rfl, h]
  show (Js.textF r.length r1).map _ = _
  rw [Js.textF_fuel r.length r1.length r1 (by omega) (Nat.le_refl _)]
theorem Js.text_sign {c : UInt8} {r : List UInt8} (h1 : c ≠ 34) (h2 : c ≠ 92) (h3 : ¬ c.toNat < 32) (h4 : Pl.sgn (c :: r) ≠ 0) : Js.text (c :: r) = (Js.text ((c :: r).drop (Pl.sgn (c :: r)))).map fun p => ((c :: r).take (Pl.sgn (c :: r)) ++ p.1, p.2) := by
  unfold Js.text
  rw [List.length_cons, Js.textF, if_neg h1, if_neg h2, if_neg (fun o => o.elim h3 h4)]
  rw [Js.textF_fuel r.length ((c :: r).drop (Pl.sgn (c :: r))).length _ (by rw [List.length_drop, List.length_cons]; omega) (Nat.le_refl _)]
theorem Js.text_bad {c : UInt8} {r : List UInt8} (h1 : c ≠ 34) (h2 : c ≠ 92) (h3 : c.toNat < 32 ∨ Pl.sgn (c :: r) = 0) : Js.text (c :: r) = none := by
  unfold Js.text
  rw [List.length_cons, Js.textF, if_neg h1, if_neg h2, if_pos h3]
theorem Js.text_noesc {r : List UInt8} (h : Js.escaped r = none) : Js.text (92 :: r) = none := by
  unfold Js.text
  rw [List.length_cons, Js.textF, if_neg (by decide), if_pos rfl, h]
/-- a sign of several bytes: one great byte, then bytes from 128 to 191 -/
theorem Js.sgnN_cont (n b0 b1 b2 b3 k : Nat) (h : Pl.sgnN n b0 b1 b2 b3 = k) (hk : 1 < k) : 194 ≤ b0 ∧ (1 < k → 128 ≤ b1 ∧ b1 ≤ 191) ∧ (2 < k → 128 ≤ b2 ∧ b2 ≤ 191) ∧ (3 < k → 128 ≤ b3 ∧ b3 ≤ 191) := by
  unfold Pl.sgnN at h
  repeat' split at h
  all_goals subst h
  all_goals omega
theorem Js.sgn_cont {c : UInt8} {r : List UInt8} (hk : 1 < Pl.sgn (c :: r)) : 194 ≤ c.toNat ∧ ∀ d ∈ r.take (Pl.sgn (c :: r) - 1), 128 ≤ d.toNat ∧ d.toNat ≤ 191 := by
  have h4 := Pl.sgn_le_four (c :: r)
  obtain ⟨g0, g1, g2, g3⟩ := Js.sgnN_cont (c :: r).length (Pl.nb (c :: r) 0) (Pl.nb (c :: r) 1) (Pl.nb (c :: r) 2) (Pl.nb (c :: r) 3) (Pl.sgn (c :: r)) rfl hk
  refine ⟨g0, fun d hd => ?_⟩
  obtain ⟨i, hi⟩ := List.mem_iff_getElem?.1 hd
  rw [List.getElem?_take] at hi
  split at hi
  · rename_i hlt
    have e : Pl.nb (c :: r) (i + 1) = d.toNat := Pl.nb_get (c :: r) (i + 1) d hi
    have : i = 0 ∨ i = 1 ∨ i = 2 := by omega
    rcases this with rfl | rfl | rfl
    all_goals (rw [← e])
    · exact g1 (by omega)
    · exact g2 (by omega)
    · exact g3 (by omega)
  · cases hi
theorem Js.byte_high {c : UInt8} (h : 128 ≤ c.toNat) : Js.byte c = [c] := if_pos (.inr h)
theorem Js.line_not {c : UInt8} (h : c ≠ 226) (r : List UInt8) : Js.line c r = false := by
  unfold Js.line
  rw [decide_eq_false h]
  rfl
theorem Js.escS_cont : ∀ (m t : List UInt8), (∀ d ∈ m, 128 ≤ d.toNat ∧ d.toNat ≤ 191) → Js.escS (m ++ t) = m ++ Js.escS t
  | [], _, _ => rfl
  | d :: m, t, h => by
    have hd := h d List.mem_cons_self
    rw [List.cons_append, Js.escS_byte (Js.line_not (fun q => by rw [q] at hd; exact absurd hd.2 (by decide)) _), Js.byte_high hd.1, Js.escS_cont m t (fun x hx => h x (List.mem_cons_of_mem _ hx))]
    rfl
/-- a byte below 128 told by its number -/
theorem Js.byte_told (c : UInt8) (h0 : c ≠ 0) (h : c.toNat < 128) (hs : Js.stays c = false) (t : List UInt8) : Js.text (Js.byte c ++ t) = (Js.text t).map fun p => (c :: p.1, p.2) := by
  have hb : Js.byte c = [92, 117, 48, 48, Js.hex (c.toNat / 16), Js.hex (c.toNat % 16)] := if_neg (fun o => o.elim (fun q => by rw [hs] at q; cases q) (fun q => by omega))
  have hd : ∀ n, n < 16 → Pl.dig (Js.hex n) = n := by decide
  have h1 := hd (c.toNat / 16) (by omega)
  have h2 := hd (c.toNat % 16) (by omega)
  have hr : Pl.runeL c.toNat = [c] := by
    have hc : c.toNat ≠ 0 := fun q => h0 (UInt8.toNat_inj.1 q)
    unfold Pl.runeL
    rw [if_neg (by omega), if_pos h]
    simp
  have h48 : Pl.dig 48 = 0 := by decide
  have h4 : Js.four (48 :: 48 :: Js.hex (c.toNat / 16) :: Js.hex (c.toNat % 16) :: t) = some (c.toNat, t) := by
    rw [Js.four, h1, h2, h48, if_pos (by omega)]
    congr 2
    omega
  have he : Js.escaped (117 :: 48 :: 48 :: Js.hex (c.toNat / 16) :: Js.hex (c.toNat % 16) :: t) = some ([c], t) := by
    rw [Js.escaped, if_neg (by decide), if_neg (by decide), if_neg (by decide), if_neg (by decide), if_neg (by decide), if_neg (by decide), if_pos rfl]
    unfold Js.uni
    rw [h4]
    show (if 55296 ≤ c.toNat ∧ c.toNat ≤ 56319 then _ else _) = _
    rw [if_neg (by omega), if_neg (by omega), if_neg (fun q : c.toNat = 0 => h0 (UInt8.toNat_inj.1 q)), hr]
  rw [hb]
  exact Js.text_esc he
theorem Js.stays_low (c : UInt8) (h : Js.stays c = true) : c ≠ 34 ∧ c ≠ 92 ∧ ¬ c.toNat < 32 ∧ c ≠ 0 ∧ c.toNat < 128 := by
  have : ∀ n : Fin 256, (!Js.stays (UInt8.ofNat n.val) || decide (UInt8.ofNat n.val ≠ 34 ∧ UInt8.ofNat n.val ≠ 92 ∧ ¬ (UInt8.ofNat n.val).toNat < 32 ∧ UInt8.ofNat n.val ≠ 0 ∧ (UInt8.ofNat n.val).toNat < 128)) = true := by decide +kernel
  have h1 := this ⟨c.toNat, c.toNat_lt⟩
  simp only [UInt8.ofNat_toNat] at h1
  rw [h, Bool.not_true, Bool.false_or] at h1
  exact of_decide_eq_true h1
theorem Js.byte_ascii (c : UInt8) (h0 : c ≠ 0) (h : c.toNat < 128) (t : List UInt8) : Js.text (Js.byte c ++ t) = (Js.text t).map fun p => (c :: p.1, p.2) := by
  cases hs : Js.stays c
  · exact Js.byte_told c h0 h hs t
  · obtain ⟨g1, g2, g3, _, _⟩ := Js.stays_low c hs
    have hb : Js.byte c = [c] := if_pos (.inl hs)
    have e := Pl.sgn_one c t h0 h
    rw [hb]
    show Js.text (c :: t) = _
    rw [Js.text_sign g1 g2 g3 (by rw [e]; decide), e]
    rfl
theorem Js.text_back : ∀ (x t : List UInt8), Pl.mayL x = true → Js.text (Js.escS x ++ t) = (Js.text t).map fun p => (x ++ p.1, p.2) := by
  intro x t
  refine Pl.ind (p := fun x => Pl.mayL x = true → Js.text (Js.escS x ++ t) = (Js.text t).map fun p => (x ++ p.1, p.2)) ?_ ?_ ?_ x
  · intro _
    show Js.text t = _
    cases Js.text t <;> rfl
  · intro l hl h0 _ hm
    rw [Pl.mayL_bad l hl h0] at hm
    cases hm
  · intro l hs ih hm
    rw [Pl.mayL_sign l hs] at hm
    have ih := ih hm
    cases l with
    | nil => exact absurd rfl (Pl.ne_nil_of_sgn hs)
    | cons c r =>
      by_cases h1 : Pl.sgn (c :: r) = 1
      · have hp : c ≠ 0 ∧ c.toNat < 128 := by
          rcases Pl.sgnN_parts (c :: r).length (Pl.nb (c :: r) 0) (Pl.nb (c :: r) 1) (Pl.nb (c :: r) 2) (Pl.nb (c :: r) 3) _ rfl hs with ⟨_, q1, q2⟩ | ⟨_, _, _, _, q⟩
          · exact ⟨fun q => by rw [q] at q1; exact q1 rfl, q2⟩
          · have q : 1 < Pl.sgn (c :: r) := q
            omega
        rw [h1] at ih
        have ih : Js.text (Js.escS r ++ t) = (Js.text t).map fun p => (r ++ p.1, p.2) := ih
        rw [Js.escS_byte (Js.line_not (fun q => by rw [q] at hp; exact absurd hp.2 (by decide)) _), List.append_assoc, Js.byte_ascii c hp.1 hp.2, ih]
        cases Js.text t <;> rfl
      · have hk : 1 < Pl.sgn (c :: r) := by omega
        obtain ⟨g0, g1⟩ := Js.sgn_cont hk
        cases hl : Js.line c r
        · have e : c :: r = c :: (r.take (Pl.sgn (c :: r) - 1) ++ r.drop (Pl.sgn (c :: r) - 1)) := by rw [List.take_append_drop]
          have ed : (c :: r).drop (Pl.sgn (c :: r)) = r.drop (Pl.sgn (c :: r) - 1) := by
            conv => lhs; rw [show Pl.sgn (c :: r) = (Pl.sgn (c :: r) - 1) + 1 by omega]
            rfl
          have et : (c :: r).take (Pl.sgn (c :: r)) = c :: r.take (Pl.sgn (c :: r) - 1) := by
            conv => lhs; rw [show Pl.sgn (c :: r) = (Pl.sgn (c :: r) - 1) + 1 by omega]
            rfl
          have ee : Js.escS (c :: r) = (c :: r).take (Pl.sgn (c :: r)) ++ Js.escS ((c :: r).drop (Pl.sgn (c :: r))) := by
            rw [Js.escS_byte hl, Js.byte_high (by omega), et, ed]
            conv => lhs; rw [← List.take_append_drop (Pl.sgn (c :: r) - 1) r]
            rw [Js.escS_cont _ _ g1]
            rfl
          have hsn := Pl.sgn_take_append (c :: r) (Js.escS ((c :: r).drop (Pl.sgn (c :: r))) ++ t) hs
          have hkl : Pl.sgn (c :: r) ≤ (c :: r).length := Pl.sgn_le _
          rw [ee, List.append_assoc]
          generalize hK : Pl.sgn (c :: r) = K at *
          generalize hW : (c :: r).drop K = W at *
          have hc : (c :: r).take K ++ (Js.escS W ++ t) = c :: (r.take (K - 1) ++ (Js.escS W ++ t)) := by rw [et]; rfl
          have hdrop : (c :: (r.take (K - 1) ++ (Js.escS W ++ t))).drop K = Js.escS W ++ t := by rw [← hc]; exact Pl.drop_take_append _ _ _ hkl
          have htake : (c :: (r.take (K - 1) ++ (Js.escS W ++ t))).take K = (c :: r).take K := by rw [← hc]; exact Pl.take_take_append _ _ _ hkl
          rw [hc] at hsn ⊢
          rw [Js.text_sign (fun q => by rw [q] at g0; exact absurd g0 (by decide)) (fun q => by rw [q] at g0; exact absurd g0 (by decide)) (by omega) (by rw [hsn]; exact hs), hsn, hdrop, htake, ih]
          have hj : (c :: r) = (c :: r).take K ++ W := by rw [← hW, List.take_append_drop]
          generalize (c :: r).take K = P at hj ⊢
          rw [hj]
          cases Js.text t
          · rfl
          · simp [List.append_assoc]
        · obtain ⟨rfl, q, hq⟩ := Js.line_parts hl
          have hs3 : Pl.sgn (226 :: r) = 3 := by
            unfold Pl.sgn Pl.sgnN at hk ⊢
            rcases hq with rfl | rfl <;> simp [Pl.nb]
          rw [hs3] at ih
          rcases hq with rfl | rfl
          · have ih : Js.text (Js.escS q ++ t) = (Js.text t).map fun p => (q ++ p.1, p.2) := ih
            rw [Js.escS_line hl]
            have he : Js.escaped (117 :: 50 :: 48 :: 50 :: 56 :: (Js.escS q ++ t)) = some ([226, 128, 168], Js.escS q ++ t) := rfl
            refine Eq.trans ?_ ((Js.text_esc he).trans (c := (Js.text t).map fun p => (226 :: 128 :: 168 :: q ++ p.1, p.2)) ?_)
            · show Js.text (92 :: 117 :: 50 :: 48 :: 50 :: (48 + (168 - 160)) :: (Js.escS q ++ t)) = _
              rw [show (48 : UInt8) + (168 - 160) = 56 from by decide]
            · rw [ih]
              cases Js.text t <;> rfl
          · have ih : Js.text (Js.escS q ++ t) = (Js.text t).map fun p => (q ++ p.1, p.2) := ih
            rw [Js.escS_line hl]
            have he : Js.escaped (117 :: 50 :: 48 :: 50 :: 57 :: (Js.escS q ++ t)) = some ([226, 128, 169], Js.escS q ++ t) := rfl
            refine Eq.trans ?_ ((Js.text_esc he).trans (c := (Js.text t).map fun p => (226 :: 128 :: 169 :: q ++ p.1, p.2)) ?_)
            · show Js.text (92 :: 117 :: 50 :: 48 :: 50 :: (48 + (169 - 160)) :: (Js.escS q ++ t)) = _
              rw [show (48 : UInt8) + (169 - 160) = 57 from by decide]
            · rw [ih]
              cases Js.text t <;> rfl
/-- a text that was put is read normed -/
theorem Js.text_put (l r : List UInt8) : Js.text (Js.esc l ++ 34 :: r) = some (Pl.normL l, r) := by
  have := Js.text_back (Pl.normL l) (34 :: r) (Pl.may_norm l)
  unfold Js.esc
  rw [this, Js.text_quote]
  simp
end Go.Proofs.YtiajclmhimkpnaaDoor

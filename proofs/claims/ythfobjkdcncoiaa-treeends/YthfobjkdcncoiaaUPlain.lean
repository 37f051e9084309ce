/-
  PLAIN: which token may be; tokens as a tree, the document's way: nodes in their row, a stack of numbers.
-/
import Derived.Test.YthfobjkdcncoiaaTPlain
namespace Go.Proofs.Ythfobjkdcncoiaa
/-- a node -/
structure Nd where
  kind : Int
  name : ByteArray
  text : ByteArray
  attrs : List (ByteArray × ByteArray)
  parent : Int
deriving DecidableEq
/-- names of attributes: none empty, no two alike, up to n of them -/
def Bt.named (al : List (ByteArray × ByteArray)) (n : Nat) : Prop := ∀ i x, i < n → al[i]? = some x → x.1 ≠ Ts.e ∧ ∀ j y, j < i → al[j]? = some y → y.1 ≠ x.1
/-- may a token be? -/
def Tk.May (t : Tk) : Prop :=
  ((t.kind = 0 ∨ t.kind = 3) ∧ t.name = Ts.e ∧ t.attrs = [] ∧ t.self = false) ∨
  ((t.kind = 1 ∨ (t.kind = 2 ∧ t.attrs = [] ∧ t.self = false)) ∧ t.name ≠ Ts.e ∧ t.text = Ts.e ∧ t.attrs.length ≤ 32 ∧ Bt.named t.attrs t.attrs.length)
/-- a tree under way: its nodes, the numbers of those that are open -/
structure Bt where
  out : List Nd
  opn : List Nat
def Bt.start : Bt := ⟨[⟨0, Ts.e, Ts.e, [], -1⟩], [0]⟩
def Bt.top (m : Bt) : Nat := m.opn.getLastD 0
def Bt.node (m : Bt) (x : Nd) : Bt := { m with out := m.out ++ [{ x with parent := (m.top : Int) }] }
def Nd.zero : Nd := ⟨0, Ts.e, Ts.e, [], 0⟩
def Bt.nth (m : Bt) (i : Nat) : Nd := (m.out[i]?).getD Nd.zero
/-- which of the open ones bears this name: the innermost, of those below k; 0: none -/
def Bt.find (m : Bt) (n : ByteArray) : Nat → Nat
  | 0 => 0
  | k + 1 => if k = 0 then 0 else if (m.nth (m.opn.getD k 0)).name = n then k else Bt.find m n k
def Bt.last (m : Bt) : Nat := m.out.length - 1
def Bt.put (m : Bt) (x : ByteArray) : Bt := { m with out := m.out.set m.last { m.nth m.last with text := (m.nth m.last).text ++ x } }
def Bt.token (m : Bt) (t : Tk) : Bt :=
  if t.kind = 0 then
    if t.text = Ts.e then m
    else if (m.nth m.last).kind = 2 ∧ (m.nth m.last).parent = (m.top : Int) then m.put t.text
    else m.node ⟨2, Ts.e, t.text, [], 0⟩
  else if t.kind = 3 then m.node ⟨3, Ts.e, t.text, [], 0⟩
  else if t.kind = 1 then
    if Ts.kind t.name ≠ 1 ∧ m.opn.length ≤ 32 then { m.node ⟨1, t.name, Ts.e, t.attrs, 0⟩ with opn := m.opn ++ [m.out.length] }
    else m.node ⟨1, t.name, Ts.e, t.attrs, 0⟩
  else if t.kind = 2 then
    if m.find t.name m.opn.length = 0 then m else { m with opn := m.opn.take (m.find t.name m.opn.length) }
  else m
/-- the tokens one behind the other, as long as there is room -/
def Bt.run (m : Bt) : List Tk → Bt × Bool
  | [] => (m, true)
  | t :: ts => if 4096 < (m.token t).out.length then (m.token t, false) else Bt.run (m.token t) ts
/-- what holds along the way -/
structure Bt.Ok (m : Bt) : Prop where
  some : 0 < m.out.length
  opn : 0 < m.opn.length
  lt : ∀ k ∈ m.opn, k < m.out.length
  few : m.opn.length ≤ 33
theorem Bt.Ok.start : Bt.Ok Bt.start := ⟨by decide, by decide, by decide, by decide⟩
theorem Bt.find_lt (m : Bt) (n : ByteArray) : ∀ k, 0 < k → m.find n k < k
  | k + 1, _ => by
    unfold Bt.find
    split
    · omega
    · split
      · omega
      · next h1 _ => have := Bt.find_lt m n k (by omega); omega
theorem Bt.top_lt {m : Bt} (h : Bt.Ok m) : m.top < m.out.length := by
  unfold Bt.top
  have hne : m.opn ≠ [] := fun e => by have := h.opn; rw [e] at this; simp at this
  rw [List.getLastD_eq_getLast?, List.getLast?_eq_some_getLast hne, Option.getD_some]
  exact h.lt _ (List.getLast_mem hne)
theorem Bt.Ok.node {m : Bt} (h : Bt.Ok m) (x : Nd) : Bt.Ok (m.node x) :=
  ⟨by show 0 < (m.out ++ _).length; rw [List.length_append]; have := h.some; omega, h.opn, fun k hk => by show k < (m.out ++ _).length; rw [List.length_append]; have := h.lt k hk; omega, h.few⟩
theorem Bt.Ok.token {m : Bt} (h : Bt.Ok m) (t : Tk) : Bt.Ok (m.token t) := by
  unfold Bt.token
  split
  · split
    · exact h
    · split
      · unfold Bt.put
        refine ⟨?_, h.opn, fun k hk => ?_, h.few⟩
        · show 0 < (m.out.set _ _).length
          rw [List.length_set]; exact h.some
        · show k < (m.out.set _ _).length
          rw [List.length_set]; exact h.lt k hk
      · exact h.node _
  split
  · exact h.node _
  split
  · split
    · next q =>
      have hn := h.node ⟨1, t.name, Ts.e, t.attrs, 0⟩
      refine ⟨hn.some, ?_, fun k hk => ?_, ?_⟩
      · show 0 < (m.opn ++ [m.out.length]).length
        rw [List.length_append]; simp
      · show k < (m.out ++ _).length
        rw [List.length_append]
        rcases List.mem_append.1 hk with q | q
        · have := h.lt k q; omega
        · have := List.mem_singleton.1 q; simp; omega
      · show (m.opn ++ [m.out.length]).length ≤ 33
        rw [List.length_append]; simp; omega
    · exact h.node _
  split
  · split
    · exact h
    · next q =>
      have hl := Bt.find_lt m t.name m.opn.length h.opn
      refine ⟨h.some, ?_, fun k hk => h.lt k (List.mem_of_mem_take hk), ?_⟩
      · show 0 < (m.opn.take _).length
        rw [List.length_take]; omega
      · show (m.opn.take _).length ≤ 33
        rw [List.length_take]; have := h.few; omega
  · exact h
theorem Bt.token_len (m : Bt) (t : Tk) : m.out.length ≤ (m.token t).out.length ∧ (m.token t).out.length ≤ m.out.length + 1 := by
  unfold Bt.token Bt.node Bt.put
  repeat' split
  all_goals simp
/-- how many bytes the texts of these tokens have -/
def Bt.bulk (ts : List Tk) : Nat := (ts.map (·.text.size)).sum
theorem Bt.nth_small {m : Bt} {B : Nat} (h : ∀ x ∈ m.out, x.text.size ≤ B) (i : Nat) : (m.nth i).text.size ≤ B := by
  unfold Bt.nth
  cases q : m.out[i]? with
  | none => exact Nat.zero_le _
  | some x => exact h x (List.mem_of_getElem? q)
theorem Bt.token_small {m : Bt} {B : Nat} (h : ∀ x ∈ m.out, x.text.size ≤ B) (t : Tk) : ∀ x ∈ (m.token t).out, x.text.size ≤ B + t.text.size := by
  have hn : ∀ y : Nd, y.text.size ≤ t.text.size → ∀ x ∈ (m.node y).out, x.text.size ≤ B + t.text.size := fun y hy x hx => by
    rcases List.mem_append.1 hx with q | q
    · have := h x q; omega
    · rw [List.mem_singleton.1 q]
      show y.text.size ≤ _
      omega
  have hm : ∀ x ∈ m.out, x.text.size ≤ B + t.text.size := fun x hx => by have := h x hx; omega
  unfold Bt.token
  split
  · split
    · exact hm
    · split
      · intro x hx
        rcases List.mem_or_eq_of_mem_set hx with q | q
        · exact hm x q
        · rw [q]
          show ((m.nth m.last).text ++ t.text).size ≤ _
          rw [ByteArray.size_append]
          have := Bt.nth_small h m.last
          omega
      · exact hn _ (Nat.le_refl _)
  split
  · exact hn _ (Nat.le_refl _)
  split
  · split
    · exact hn _ (Nat.zero_le _)
    · exact hn _ (Nat.zero_le _)
  split
  · split
    · exact hm
    · exact hm
  · exact hm
end Go.Proofs.Ythfobjkdcncoiaa

/-
  PLAIN: an action's words, by places in its bytes.
-/
import Derived.Test.YtnophkbbeipaaaaLPlain
import Derived.Test.YtnophkbbeipaaaaGLet
namespace Go.Proofs.Ytnophkbbeipaaaa
/-- a word -/
structure Wo where
  kind : Nat
  text : List UInt8
  path : List (List UInt8)
  num : Int
  deriving DecidableEq
/-- may a byte stand in a name (first: at its begin)? -/
def Wx.sign (first : Bool) (c : UInt8) : Bool := Pl.letter c || c == 95 || (!first && Pl.digit c)
def Wx.signs : Bool → List UInt8 → Bool
  | _, [] => true
  | f, c :: l => Wx.sign f c && Wx.signs false l
/-- a name -/
def Wx.nm (t : List UInt8) : Prop := Wx.signs true t = true ∧ t ≠ [] ∧ t.length ≤ 32
def Wx.nms (p : List (List UInt8)) : Prop := p.length ≤ 8 ∧ ∀ t ∈ p, Wx.nm t
/-- where a name ends -/
def Wx.nend : Bool → Nat → List UInt8 → Nat
  | _, i, [] => i
  | f, i, c :: l => if Wx.sign f c = true then Wx.nend false (i + 1) l else i
/-- a name at a place, and the place behind it -/
def Wx.name (S : List UInt8) (i : Nat) : Option (List UInt8 × Nat) :=
  let j := Wx.nend true i (S.drop i)
  if j = i ∨ 32 < j - i then none else some ((S.drop i).take (j - i), j)
/-- names, each behind a point -/
def Wx.names : Nat → List UInt8 → Nat → List (List UInt8) → Option (List (List UInt8) × Nat)
  | 0, _, i, out => some (out, i)
  | n + 1, S, i, out =>
    if S[i]? = some 46 then
      match Wx.name S (i + 1) with
      | none => none
      | some (t, j) => Wx.names n S j (out ++ [t])
    else some (out, i)
def Wx.path (S : List UInt8) (i : Nat) : Option (List (List UInt8) × Nat) :=
  match Wx.names (S.length + 1) S i [] with
  | none => none
  | some (p, j) => if 8 < p.length then none else some (p, j)
/-- a text behind its quote: its signs, and the place behind it -/
def Wx.text : Bool → Nat → List UInt8 → List UInt8 → Option (List UInt8 × Nat)
  | _, _, [], _ => none
  | true, i, c :: l, acc => if c = 34 ∨ c = 92 then Wx.text false (i + 1) l (acc ++ [c]) else if c = 110 then Wx.text false (i + 1) l (acc ++ [10]) else if c = 116 then Wx.text false (i + 1) l (acc ++ [9]) else none
  | false, i, c :: l, acc => if c = 34 then some (acc, i + 1) else if c = 92 then Wx.text true (i + 1) l acc else Wx.text false (i + 1) l (acc ++ [c])
/-- digits: the number (as far as it is told), and where they end -/
def Wx.digs : Nat → List UInt8 → Nat → Nat × Nat
  | i, [], x => (x, i)
  | i, c :: l, x => if Pl.digit c = true then Wx.digs (i + 1) l (if x ≤ 9007199254740991 then 10 * x + (c.toNat - 48) else x) else (x, i)
def Wx.int (S : List UInt8) (i : Nat) : Option (Int × Nat) :=
  let neg := decide (S[i]? = some 45)
  let p := if neg = true then i + 1 else i
  let r := Wx.digs p (S.drop p) 0
  if r.2 = p ∨ 9007199254740991 < r.1 then none else some (if neg = true then -(r.1 : Int) else (r.1 : Int), r.2)
/-- what an option gives, else an error -/
def Wx.or {α : Type} (o : Option α) (e : Int) : Except Int α :=
  match o with
  | none => .error e
  | some a => .ok a
/-- the word that stands at a place -/
def Wx.word (S : List UInt8) (i : Nat) : Except Int (Wo × Nat) :=
  let c := S.getD i 0
  if c = 124 then .ok (⟨5, [], [], 0⟩, i + 1)
  else if c = 58 ∧ S[i + 1]? = some 61 then .ok (⟨6, [], [], 0⟩, i + 2)
  else if c = 34 then (Wx.or (Wx.text false (i + 1) (S.drop (i + 1)) []) 1401).map fun r => (⟨4, r.1, [], 0⟩, r.2)
  else if c = 45 ∨ Pl.digit c = true then (Wx.or (Wx.int S i) 1402).map fun r => (⟨3, [], [], r.1⟩, r.2)
  else if c = 46 then
    if i + 1 < S.length ∧ Lx.blank (S.getD (i + 1) 0) = false ∧ S.getD (i + 1) 0 ≠ 124 then (Wx.or (Wx.path S i) 1400).map fun r => (⟨1, [], r.1, 0⟩, r.2)
    else .ok (⟨1, [], [], 0⟩, i + 1)
  else if c = 36 then
    match Wx.name S (i + 1) with
    | none => .error 1400
    | some (t, j) => (Wx.or (Wx.path S j) 1400).map fun r => (⟨2, t, r.1, 0⟩, r.2)
  else (Wx.or (Wx.name S i) 1400).map fun r => (⟨0, r.1, [], 0⟩, r.2)
/-- may a word end here? -/
def Wx.ends (S : List UInt8) (k : Nat) (j : Nat) : Bool := decide (k = 5) || decide (S.length ≤ j) || Lx.blank (S.getD j 0) || decide (S.getD j 0 = 124)
def Wx.go : Nat → List UInt8 → Nat → List Wo → Except Int (List Wo)
  | 0, _, _, out => .ok out
  | n + 1, S, i, out =>
    let p := Lx.skip i (S.drop i)
    if S.length ≤ p then .ok out
    else
      match Wx.word S p with
      | .error e => .error e
      | .ok (w, j) => if Wx.ends S w.kind j = true then Wx.go n S j (out ++ [w]) else .error 1400
def Wx.words (s : ByteArray) : List Wo × Int :=
  match Wx.go (s.size + 1) s.data.toList 0 [] with
  | .error e => ([], e)
  | .ok ws => (ws, 0)
end Go.Proofs.Ytnophkbbeipaaaa

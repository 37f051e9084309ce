/-
  PLAIN: words, arguments, commands; a pipe's reading.
-/
import Derived.Test.YtnophkbbeipaaaaOPlain
namespace Go.Proofs.Ytnophkbbeipaaaa
/-- a word, of whatever kind -/
structure Wi where
  kind : Int
  text : List UInt8
  path : List (List UInt8)
  num : Int
/-- an argument -/
structure Ar where
  kind : Int
  name : List UInt8
  path : List (List UInt8)
  num : Int
  text : List UInt8
/-- a command -/
structure Cm where
  fn : List UInt8
  args : List Ar
def Pi.name (t : List UInt8) : Bool := Wx.signs true t && (!t.isEmpty && decide (t.length ≤ 32))
def Pi.path (p : List (List UInt8)) : Bool := p.all Pi.name && decide (p.length ≤ 8)
def Pi.fns : List (List UInt8) := [[108, 101, 110], [105, 110, 100, 101, 120], [101, 113], [108, 116], [110, 111, 116], [97, 110, 100], [111, 114], [99, 97, 116]]
def Pi.isFn (t : List UInt8) : Bool := Pi.fns.contains t
/-- may a whole number be? -/
def Pi.small (x : Int) : Bool := decide (-9007199254740991 ≤ x) && decide (x ≤ 9007199254740991)
/-- the argument that a word is; or it is none -/
def Pi.arg (w : Wi) : Ar × Bool :=
  if w.kind = 1 then (⟨0, [], w.path, 0, []⟩, w.text.isEmpty && (decide (w.num = 0) && Pi.path w.path))
  else if w.kind = 2 then (⟨1, w.text, w.path, 0, []⟩, decide (w.num = 0) && (Pi.name w.text && Pi.path w.path))
  else if w.kind = 3 then (⟨2, [], [], w.num, []⟩, w.text.isEmpty && (w.path.isEmpty && Pi.small w.num))
  else if w.kind = 4 then (⟨3, [], [], 0, w.text⟩, decide (w.num = 0) && (w.path.isEmpty && decide (w.text.length ≤ 65536)))
  else if w.kind ≠ 0 ∨ w.num ≠ 0 ∨ w.path ≠ [] then (⟨0, [], [], 0, []⟩, false)
  else if w.text = [116, 114, 117, 101] then (⟨4, [], [], 1, []⟩, true)
  else if w.text = [102, 97, 108, 115, 101] then (⟨4, [], [], 0, []⟩, true)
  else (⟨5, [], [], 0, []⟩, decide (w.text = [110, 117, 108, 108]))
/-- arguments of words, as far as they are some -/
def Pi.args : List Wi → List Ar → Option (List Ar)
  | [], out => some out
  | w :: ws, out => if (Pi.arg w).2 = true then Pi.args ws (out ++ [(Pi.arg w).1]) else none
def Pi.command (ws : List Wi) (first : Bool) : Option Cm :=
  match ws with
  | [] => none
  | w :: rest =>
    if w.kind = 0 ∧ Pi.isFn w.text = true then
      if w.num ≠ 0 ∨ w.path ≠ [] then none else (Pi.args rest []).map (Cm.mk w.text)
    else
      match Pi.args (w :: rest) [] with
      | none => none
      | some r => if first = true ∧ r.length = 1 then some ⟨[], r⟩ else none
def Pi.bar (w : Wi) : Bool := decide (w.kind = 5) && (w.text.isEmpty && (decide (w.num = 0) && w.path.isEmpty))
def Pi.go : List Wi → List Wi → List Cm → Option (List Cm)
  | [], cur, out => (Pi.command cur out.isEmpty).map fun c => out ++ [c]
  | w :: ws, cur, out =>
    if Pi.bar w = true then
      match Pi.command cur out.isEmpty with
      | none => none
      | some c => Pi.go ws [] (out ++ [c])
    else Pi.go ws (cur ++ [w]) out
def Pi.parse (ws : List Wi) : List Cm × Int :=
  match Pi.go ws [] [] with
  | none => ([], 1500)
  | some cs => if (cs.any fun c => decide (8 < c.args.length)) = true ∨ 8 < cs.length then ([], 1501) else (cs, 0)
def Pi.argMay (a : Ar) : Bool :=
  if a.kind ≠ 3 ∧ a.text ≠ [] ∨ a.kind ≠ 1 ∧ a.name ≠ [] ∨ a.kind ≠ 2 ∧ a.kind ≠ 4 ∧ a.num ≠ 0 ∨ a.kind ≠ 0 ∧ a.kind ≠ 1 ∧ a.path ≠ [] then false
  else if a.kind = 0 ∨ a.kind = 5 then Pi.path a.path
  else if a.kind = 1 then Pi.name a.name && Pi.path a.path
  else if a.kind = 2 then Pi.small a.num
  else if a.kind = 3 then decide (a.text.length ≤ 65536)
  else if a.kind = 4 then decide (a.num = 0) || decide (a.num = 1)
  else false
def Pi.cmdMay (i : Nat) (c : Cm) : Bool := (Pi.isFn c.fn || (c.fn.isEmpty && (decide (i = 0) && decide (c.args.length = 1)))) && (decide (c.args.length ≤ 8) && c.args.all Pi.argMay)
def Pi.rowMay : Nat → List Cm → Bool
  | _, [] => true
  | i, c :: cs => Pi.cmdMay i c && Pi.rowMay (i + 1) cs
def Pi.may (p : List Cm) : Bool := Pi.rowMay 0 p && (decide (1 ≤ p.length) && decide (p.length ≤ 8))
end Go.Proofs.Ytnophkbbeipaaaa

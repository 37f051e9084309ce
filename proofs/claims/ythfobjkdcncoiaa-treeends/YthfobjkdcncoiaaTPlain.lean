/-
  A PAGE AS TOKENS, plain: a state, the step from one to the next, what a page is made of.
-/
import Derived.Test.YthfobjkdcncoiaaRPlain
namespace Go.Proofs.Ythfobjkdcncoiaa

/-- a state: At, Name, End, Attr, Held, Read -/
structure Ts where
  pl : Int
  name : ByteArray
  fin : Bool
  attr : ByteArray
  held : ByteArray
  read : Int
deriving DecidableEq

def Ts.e : ByteArray := ⟨#[]⟩
def Ts.val (s : Ts) : Value := .agg #[.int .i64 s.pl, .string s.name, .bool s.fin, .string s.attr, .string s.held, .int .i64 s.read]
def Ts.start : Ts := ⟨0, Ts.e, false, Ts.e, Ts.e, 0⟩
def Ts.inTag (a : Int) : Bool := decide (3 ≤ a) && decide (a ≤ 12)
def Ts.hasAttr (a : Int) : Bool := decide (5 ≤ a) && decide (a ≤ 10)
def Ts.blank (c : UInt8) : Bool := c == 9 || c == 10 || c == 12 || c == 13 || c == 32
def Ts.letter (c : UInt8) : Bool := (decide (65 ≤ c.toNat) && decide (c.toNat ≤ 90)) || (decide (97 ≤ c.toNat) && decide (c.toNat ≤ 122))
def Ts.low (c : UInt8) : ByteArray := ⟨#[Pl.lowB c]⟩
def Ts.grown (n : ByteArray) (c : UInt8) : ByteArray := if 32 ≤ n.size then n.extract 0 32 else n ++ Ts.low c
/-- the state at another place -/
def Ts.to (s : Ts) (a : Int) : Ts :=
  ⟨a, if Ts.inTag a = true then s.name else Ts.e, if Ts.inTag a = true then s.fin else false, if Ts.hasAttr a = true then s.attr else Ts.e, if 19 ≤ a then s.held else Ts.e, if a = 22 then s.read else 0⟩
def Ts.openTag (s : Ts) (c : UInt8) : Ts := { s.to 3 with name := Ts.low c }
def Ts.openAttr (s : Ts) (c : UInt8) : Ts := { s.to 5 with attr := Ts.low c }
/-- which of the elements a name is -/
def Ts.kind (n : ByteArray) : Int :=
  let l := n.data.toList
  if l = [98, 114] ∨ l = [105, 109, 103] ∨ l = [105, 110, 112, 117, 116] ∨ l = [104, 114] ∨ l = [109, 101, 116, 97] ∨ l = [108, 105, 110, 107] then 1
  else if l = [116, 105, 116, 108, 101] ∨ l = [116, 101, 120, 116, 97, 114, 101, 97] then 2
  else if l = [115, 99, 114, 105, 112, 116] then 3
  else if l = [115, 116, 121, 108, 101] then 4 else 0
def Ts.closed (s : Ts) : Ts := if s.fin = true ∨ Ts.kind s.name = 0 ∨ Ts.kind s.name = 1 then s.to 0 else ({ s with held := s.name } : Ts).to 19
def Ts.data (s : Ts) (c : UInt8) : Ts := if c = 60 then s.to 1 else s
def Ts.tagOpen (s : Ts) (c : UInt8) : Ts := if Ts.letter c = true then s.openTag c else if c = 47 then s.to 2 else if c = 33 then s.to 13 else if c = 60 then s else s.to 0
def Ts.endOpen (s : Ts) (c : UInt8) : Ts := if Ts.letter c = true then { s.openTag c with fin := true } else if c = 60 then s.to 1 else s.to 0
def Ts.tagName (s : Ts) (c : UInt8) : Ts := if Ts.blank c = true then s.to 4 else if c = 47 then s.to 12 else if c = 62 then s.closed else { s with name := Ts.grown s.name c }
def Ts.beforeAttr (s : Ts) (c : UInt8) : Ts := if Ts.blank c = true then s else if c = 47 then s.to 12 else if c = 62 then s.closed else s.openAttr c
def Ts.attrName (s : Ts) (c : UInt8) : Ts := if Ts.blank c = true then s.to 6 else if c = 47 then s.to 12 else if c = 62 then s.closed else if c = 61 then s.to 7 else { s with attr := Ts.grown s.attr c }
def Ts.afterName (s : Ts) (c : UInt8) : Ts := if Ts.blank c = true then s else if c = 47 then s.to 12 else if c = 62 then s.closed else if c = 61 then s.to 7 else s.openAttr c
def Ts.beforeValue (s : Ts) (c : UInt8) : Ts := if Ts.blank c = true then s else if c = 34 then s.to 8 else if c = 39 then s.to 9 else if c = 62 then s.closed else s.to 10
def Ts.quoted (q : UInt8) (s : Ts) (c : UInt8) : Ts := if c = q then s.to 11 else s
def Ts.bare (s : Ts) (c : UInt8) : Ts := if Ts.blank c = true then s.to 4 else if c = 62 then s.closed else s
def Ts.afterValue (s : Ts) (c : UInt8) : Ts := if Ts.blank c = true then s.to 4 else if c = 47 then s.to 12 else if c = 62 then s.closed else s.openAttr c
def Ts.selfClose (s : Ts) (c : UInt8) : Ts := if c = 62 then s.closed else if Ts.blank c = true then s.to 4 else if c = 47 then s else s.openAttr c
def Ts.bang (s : Ts) (c : UInt8) : Ts := if c = 45 then s.to 14 else if c = 62 then s.to 0 else s.to 18
def Ts.bangDash (s : Ts) (c : UInt8) : Ts := if c = 45 then s.to 15 else if c = 62 then s.to 0 else s.to 18
def Ts.comment (s : Ts) (c : UInt8) : Ts := if c = 45 then s.to 16 else s
def Ts.commentDash (s : Ts) (c : UInt8) : Ts := if c = 45 then s.to 17 else s.to 15
def Ts.commentEnd (s : Ts) (c : UInt8) : Ts := if c = 62 then s.to 0 else if c = 45 then s else s.to 15
def Ts.bogus (s : Ts) (c : UInt8) : Ts := if c = 62 then s.to 0 else s
def Ts.heldS (s : Ts) (c : UInt8) : Ts := if c = 60 then s.to 20 else s
def Ts.heldLt (s : Ts) (c : UInt8) : Ts := if c = 47 then s.to 21 else if c = 60 then s else s.to 19
/-- is c the byte of Held that is to be read next? -/
def Ts.heldAt (s : Ts) (c : UInt8) : Bool := decide (0 ≤ s.read) && decide (s.read < s.held.size) && (Pl.lowB (s.held.data.toList.getD s.read.toNat 0) == Pl.lowB c)
def Ts.heldOn (s : Ts) (c : UInt8) : Ts := if c = 60 then s.to 20 else s.to 19
def Ts.heldSlash (s : Ts) (c : UInt8) : Ts := if Ts.heldAt s c = true then { s.to 22 with read := 1 } else s.heldOn c
def Ts.heldEnd (s : Ts) (a : Int) : Ts := ({ s with name := s.held, fin := true } : Ts).to a
def Ts.heldName (s : Ts) (c : UInt8) : Ts :=
  if Ts.heldAt s c = true then { s with read := s.read + 1 } else if s.read < s.held.size then s.heldOn c else if Ts.blank c = true then s.heldEnd 4 else if c = 47 then s.heldEnd 12 else if c = 62 then s.to 0 else s.heldOn c
/-- the function of a place -/
def Ts.at (s : Ts) (c : UInt8) : Nat → Ts
  | 0 => s.data c
  | 1 => s.tagOpen c
  | 2 => s.endOpen c
  | 3 => s.tagName c
  | 4 => s.beforeAttr c
  | 5 => s.attrName c
  | 6 => s.afterName c
  | 7 => s.beforeValue c
  | 8 => s.quoted 34 c
  | 9 => s.quoted 39 c
  | 10 => s.bare c
  | 11 => s.afterValue c
  | 12 => s.selfClose c
  | 13 => s.bang c
  | 14 => s.bangDash c
  | 15 => s.comment c
  | 16 => s.commentDash c
  | 17 => s.commentEnd c
  | 18 => s.bogus c
  | 19 => s.heldS c
  | 20 => s.heldLt c
  | 21 => s.heldSlash c
  | _ => s.heldName c
def Ts.step (s : Ts) (c : UInt8) : Ts := if s.pl < 0 ∨ 23 ≤ s.pl then s else (s.to s.pl).at c s.pl.toNat

/-- a token: Kind, Name, Text, Attrs, Self -/
structure Tk where
  kind : Int
  name : ByteArray
  text : ByteArray
  attrs : List (ByteArray × ByteArray)
  self : Bool
deriving DecidableEq

/-- the reader's parts -/
structure Rd where
  st : Ts
  toks : List Tk
  text : Nat
  opn : Nat
  value : Nat
  attrs : List (ByteArray × ByteArray)
  taken : Bool
deriving DecidableEq

def Rd.loose (a : Int) : Bool := decide (a < 3) || decide (19 ≤ a)
def Rd.dec (b : ByteArray) : ByteArray := ⟨(Pl.decL b.data.toList).toArray⟩
def Rd.tell (r : Rd) (t : Tk) (next : Nat) : Rd := { r with toks := r.toks ++ [t], text := next, attrs := [] }
def Rd.textOf (P : ByteArray) (a b : Nat) (held : ByteArray) : ByteArray := if Ts.kind held = 3 ∨ Ts.kind held = 4 then P.extract a b else Rd.dec (P.extract a b)
def Rd.tellText (P : ByteArray) (r : Rd) (fin : Nat) (held : ByteArray) : Rd := if r.text = fin then r else r.tell ⟨0, Ts.e, Rd.textOf P r.text fin held, [], false⟩ fin
def Rd.tellTag (r : Rd) (was : Ts) (i : Nat) : Rd := if was.fin = true then r.tell ⟨2, was.name, Ts.e, [], false⟩ (i + 1) else r.tell ⟨1, was.name, Ts.e, r.attrs, was.pl == 12⟩ (i + 1)
def Rd.tellComment (P : ByteArray) (r : Rd) (was : Ts) (i : Nat) : Rd := r.tell ⟨3, Ts.e, if was.pl = 17 then P.extract (r.opn + 4) (i - 2) else P.extract (r.opn + 2) i, [], false⟩ (i + 1)
def Rd.addAttr (r : Rd) (n : ByteArray) : Rd :=
  if r.attrs.length < 32 ∧ r.attrs.any (fun a => decide (a.1 = n)) = false then { r with attrs := r.attrs ++ [(n, Ts.e)], taken := true } else { r with taken := false }
/-- the last attribute's value -/
def Rd.setLast (l : List (ByteArray × ByteArray)) (v : ByteArray) : List (ByteArray × ByteArray) := l.modify (l.length - 1) (fun a => (a.1, v))
def Rd.readAttr (P : ByteArray) (r : Rd) (was now : Ts) (i : Nat) : Rd :=
  if was.pl = now.pl then r
  else if was.pl = 5 then r.addAttr was.attr
  else if was.pl = 7 then { r with value := if now.pl = 10 then i else i + 1 }
  else if was.pl = 8 ∨ was.pl = 9 ∨ was.pl = 10 then (if r.taken = true then { r with attrs := Rd.setLast r.attrs (Rd.dec (P.extract r.value i)) } else r)
  else r
def Rd.tags (P : ByteArray) (r : Rd) (was : Ts) (i : Nat) : Rd :=
  let r2 := Rd.readAttr P r was r.st i
  if Rd.loose r.st.pl = true then r2.tellTag was i else r2
def Rd.read (P : ByteArray) (r0 : Rd) (i : Nat) (c : UInt8) : Rd :=
  let was := r0.st
  let now := was.step c
  let r : Rd := { r0 with st := now, opn := if now.pl = 1 ∨ now.pl = 20 then i else r0.opn }
  if was.pl = 22 ∧ now.pl = 0 then (Rd.tellText P r r.opn was.held).tell ⟨2, was.held, Ts.e, [], false⟩ (i + 1)
  else if Rd.loose was.pl = true ∧ Rd.loose now.pl = false then Rd.tellText P r r.opn was.held
  else if Ts.inTag was.pl = true then Rd.tags P r was i
  else if Rd.loose was.pl = false ∧ Rd.loose now.pl = true then Rd.tellComment P r was i
  else r
/-- over the bytes from a place on -/
def Rd.run (P : ByteArray) (r : Rd) (i : Nat) : List UInt8 → Rd
  | [] => r
  | c :: l => Rd.run P (Rd.read P r i c) (i + 1) l
def Rd.start : Rd := ⟨Ts.start, [], 0, 0, 0, [], false⟩
def Rd.done (P : ByteArray) (r : Rd) : List Tk := if Rd.loose r.st.pl = true then (Rd.tellText P r P.size r.st.held).toks else r.toks
/-- a byte 10 for each end of a line -/
def Rd.lines : List UInt8 → List UInt8
  | [] => []
  | 13 :: 10 :: l => 10 :: Rd.lines l
  | c :: l => (if c = 13 then 10 else c) :: Rd.lines l
def Rd.page (s : ByteArray) : ByteArray := ⟨(Rd.lines s.data.toList).toArray⟩
def Rd.tokens (s : ByteArray) : List Tk := Rd.done (Rd.page s) (Rd.run (Rd.page s) Rd.start 0 (Rd.lines s.data.toList))
end Go.Proofs.Ythfobjkdcncoiaa

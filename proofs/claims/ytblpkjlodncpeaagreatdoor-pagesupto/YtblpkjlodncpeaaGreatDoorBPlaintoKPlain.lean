/-
  PLAIN LISTS OF BYTES, no program: what utf.May, utf.Norm and utf.Lower give, as functions on lists of bytes, and the laws among them that the statements of layer 1 ask.
-/
import GoSem.Core.Value
import Derived.Lib.ItoaNum
namespace Go.Proofs.YtblpkjlodncpeaaGreatDoor.Pl
def fffd : List UInt8 := [239, 191, 189]
def lowB (c : UInt8) : UInt8 := if 65 ≤ c.toNat ∧ c.toNat ≤ 90 then c + 32 else c
def lowL (l : List UInt8) : List UInt8 := l.map lowB
theorem lowB_toNat (c : UInt8) : (lowB c).toNat = if 65 ≤ c.toNat ∧ c.toNat ≤ 90 then c.toNat + 32 else c.toNat := by
 unfold lowB
 split
 ·
  rw [UInt8.toNat_add]; simp; omega
 ·
  rfl
theorem low_length (l : List UInt8) : (lowL l).length = l.length := by simp [lowL]
def dig (c : UInt8) : Nat :=
 if 48 ≤ c.toNat ∧ c.toNat ≤ 57 then c.toNat - 48 else if 97 ≤ c.toNat ∧ c.toNat ≤ 102 then c.toNat - 87 else if 65 ≤ c.toNat ∧ c.toNat ≤ 70 then c.toNat - 55 else 16
theorem dig_le (c : UInt8) : dig c ≤ 16 := by
 unfold dig; repeat' split
 all_goals omega
def runeL (x : Nat) : List UInt8 :=
 if x = 0 ∨ (55296 ≤ x ∧ x ≤ 57343) ∨ 1114111 < x then fffd
 else if x < 128 then [UInt8.ofNat x]
 else if x < 2048 then [UInt8.ofNat (192 + x / 64), UInt8.ofNat (128 + x % 64)]
 else if x < 65536 then [UInt8.ofNat (224 + x / 4096), UInt8.ofNat (128 + x / 64 % 64), UInt8.ofNat (128 + x % 64)]
 else [UInt8.ofNat (240 + x / 262144), UInt8.ofNat (128 + x / 4096 % 64), UInt8.ofNat (128 + x / 64 % 64), UInt8.ofNat (128 + x % 64)]
theorem runeL_len (x : Nat) : (runeL x).length ≤ 4 := by
 unfold runeL; repeat' split
 all_goals simp [fffd]
def scan (base : Nat) : Nat → List UInt8 → Nat → Nat → Nat × Nat
 | 0, _, x, i => (x, i)
 | _ + 1, [], x, i => (x, i)
 | m + 1, c :: r, x, i => if dig c < base then scan base m r (x * base + dig c) (i + 1) else (x, i)
def numL (l : List UInt8) (start base most : Nat) : List UInt8 × Nat :=
 let p := scan base most (l.drop start) 0 start
 if p.2 = start ∨ l[p.2]? ≠ some 59 then ([], 0) else (runeL p.1, p.2 + 1)
def names : List (List UInt8 × List UInt8) :=
 [([97, 109, 112, 59], [38]), ([108, 116, 59], [60]), ([103, 116, 59], [62]), ([113, 117, 111, 116, 59], [34]), ([97, 112, 111, 115, 59], [39]), ([110, 98, 115, 112, 59], [194, 160]), ([99, 111, 112, 121, 59], [194, 169])]
def pre (p l : List UInt8) : Bool := p.isPrefixOf l
def nameL : List (List UInt8 × List UInt8) → List UInt8 → List UInt8 × Nat
 | [], _ => ([], 0)
 | n :: ns, l => if pre n.1 l then (n.2, n.1.length) else nameL ns l
def refL (l : List UInt8) : List UInt8 × Nat :=
 if pre [35, 120] l || pre [35, 88] l then numL l 2 16 6 else if pre [35] l then numL l 1 10 7 else nameL names l
def decF : Nat → List UInt8 → List UInt8
 | 0, _ => []
 | _ + 1, [] => []
 | f + 1, c :: r => if c = 38 ∧ (refL r).2 ≠ 0 then (refL r).1 ++ decF f (r.drop (refL r).2) else c :: decF f r
def decL (l : List UInt8) : List UInt8 := decF l.length l
theorem decF_fuel : ∀ (f g : Nat) (l : List UInt8), l.length ≤ f → l.length ≤ g → decF f l = decF g l := by
 intro f
 induction f with
 | zero =>
  intro g l hf _
  have : l = [] := List.eq_nil_of_length_eq_zero (by omega)
  subst this
  cases g <;> simp [decF]
 | succ f ih =>
  intro g l hf hg
  cases l with
  | nil => cases g <;> simp [decF]
  | cons c r =>
   cases g with
   | zero => simp at hg
   | succ g =>
    simp only [List.length_cons] at hf hg
    simp only [decF]
    rw [ih g r (by omega) (by omega), ih g (r.drop (refL r).2) (by simp; omega) (by simp; omega)]
theorem decL_nil : decL [] = [] := rfl
theorem decL_ref (c : UInt8) (r : List UInt8) (hc : c = 38) (h : (refL r).2 ≠ 0) : decL (c :: r) = (refL r).1 ++ decL (r.drop (refL r).2) := by
 have : decL (c :: r) = (refL r).1 ++ decF r.length (r.drop (refL r).2) := by simp [decL, decF, hc, h]
 rw [this, decF_fuel _ _ _ (by simp) (Nat.le_refl _)]; rfl
theorem decL_step (c : UInt8) (r : List UInt8) (h : ¬ (c = 38 ∧ (refL r).2 ≠ 0)) : decL (c :: r) = c :: decL r := by
 show decF (r.length + 1) (c :: r) = _
 rw [decF, if_neg h]; rfl
theorem decL_other (c : UInt8) (r : List UInt8) (hc : c ≠ 38) : decL (c :: r) = c :: decL r := decL_step c r (fun h => hc h.1)
theorem decL_none (c : UInt8) (r : List UInt8) (h : (refL r).2 = 0) : decL (c :: r) = c :: decL r := decL_step c r (fun x => x.2 h)
theorem scan_at (base : Nat) : ∀ (m : Nat) (d : List UInt8) (x i : Nat), i ≤ (scan base m d x i).2 ∧ (scan base m d x i).2 ≤ i + d.length ∧ (scan base m d x i).2 ≤ i + m := by
 intro m
 induction m with
 | zero => intro d x i; simp [scan]
 | succ m ih =>
  intro d x i
  cases d with
  | nil => simp [scan]
  | cons c r =>
   rw [scan]
   split
   ·
    have := ih r (x * base + dig c) (i + 1)
    simp only [List.length_cons]; omega
   ·
    simp only [List.length_cons]; omega
theorem pre_iff (p l : List UInt8) : pre p l = true ↔ ∃ r, l = p ++ r := by
 unfold pre
 rw [List.isPrefixOf_iff_prefix]
 exact ⟨fun ⟨r, h⟩ => ⟨r, h.symm⟩, fun ⟨r, h⟩ => ⟨r, h.symm⟩⟩
theorem nameL_le : ∀ (ns : List (List UInt8 × List UInt8)) (l : List UInt8), (nameL ns l).2 ≤ l.length := by
 intro ns
 induction ns with
 | nil => intro l; exact Nat.zero_le _
 | cons n ns ih =>
  intro l
  rw [nameL]
  split
  ·
   rename_i h
   obtain ⟨r, rfl⟩ := (pre_iff _ _).1 h
   simp
  ·
   exact ih l
theorem numL_le (l : List UInt8) (start base most : Nat) : (numL l start base most).2 ≤ l.length := by
 unfold numL
 simp only
 split
 ·
  exact Nat.zero_le _
 ·
  rename_i h1
  have h2 : l[(scan base most (l.drop start) 0 start).2]? = some 59 := Classical.not_not.1 fun x => h1 (.inr x)
  obtain ⟨h3, _⟩ := List.getElem?_eq_some_iff.1 h2
  exact h3
theorem refL_le (l : List UInt8) : (refL l).2 ≤ l.length := by
 unfold refL
 split
 ·
  exact numL_le ..
 ·
  split
  ·
   exact numL_le ..
  ·
   exact nameL_le _ _
theorem nameL_sign : ∀ (ns : List (List UInt8 × List UInt8)) (l : List UInt8), (∀ n ∈ ns, n.2.length ≤ 4) → (nameL ns l).1.length ≤ 4 := by
 intro ns
 induction ns with
 | nil => intro l _; exact Nat.zero_le _
 | cons n ns ih =>
  intro l h
  rw [nameL]
  split
  ·
   exact h n (by simp)
  ·
   exact ih l (fun m hm => h m (by simp [hm]))
theorem numL_sign (l : List UInt8) (start base most : Nat) : (numL l start base most).1.length ≤ 4 := by
 unfold numL
 simp only
 split
 ·
  exact Nat.zero_le _
 ·
  exact runeL_len _
theorem refL_sign (l : List UInt8) : (refL l).1.length ≤ 4 := by
 unfold refL
 split
 ·
  exact numL_sign ..
 ·
  split
  ·
   exact numL_sign ..
  ·
   exact nameL_sign _ _ (by decide)
theorem decF_len : ∀ (f : Nat) (l : List UInt8), (decF f l).length ≤ 4 * l.length := by
 intro f
 induction f with
 | zero => intro l; exact Nat.zero_le _
 | succ f ih =>
  intro l
  cases l with
  | nil => exact Nat.zero_le _
  | cons c r =>
   rw [decF]
   split
   ·
    have h1 := ih (r.drop (refL r).2)
    have h2 := refL_sign r
    have h3 := refL_le r
    rw [List.length_append]
    simp only [List.length_drop, List.length_cons] at *
    omega
   ·
    have h1 := ih r
    simp only [List.length_cons]; omega
theorem decL_len (l : List UInt8) : (decL l).length ≤ 4 * l.length := decF_len _ _
end Go.Proofs.YtblpkjlodncpeaaGreatDoor.Pl
namespace Go.Proofs.YtblpkjlodncpeaaGreatDoor
structure Ts where
 pl : Int
 name : ByteArray
 fin : Bool
 attr : ByteArray
 held : ByteArray
 read : Int
deriving DecidableEq
def Ts.e : ByteArray := ⟨#[]⟩
def Ts.start : Ts := ⟨0, Ts.e, false, Ts.e, Ts.e, 0⟩
def Ts.inTag (a : Int) : Bool := decide (3 ≤ a) && decide (a ≤ 12)
def Ts.hasAttr (a : Int) : Bool := decide (5 ≤ a) && decide (a ≤ 10)
def Ts.blank (c : UInt8) : Bool := c == 9 || c == 10 || c == 12 || c == 13 || c == 32
def Ts.letter (c : UInt8) : Bool := (decide (65 ≤ c.toNat) && decide (c.toNat ≤ 90)) || (decide (97 ≤ c.toNat) && decide (c.toNat ≤ 122))
def Ts.low (c : UInt8) : ByteArray := ⟨#[Pl.lowB c]⟩
def Ts.grown (n : ByteArray) (c : UInt8) : ByteArray := if 32 ≤ n.size then n.extract 0 32 else n ++ Ts.low c
def Ts.to (s : Ts) (a : Int) : Ts :=
 ⟨a, if Ts.inTag a = true then s.name else Ts.e, if Ts.inTag a = true then s.fin else false, if Ts.hasAttr a = true then s.attr else Ts.e, if 19 ≤ a then s.held else Ts.e, if a = 22 then s.read else 0⟩
def Ts.openTag (s : Ts) (c : UInt8) : Ts := { s.to 3 with name := Ts.low c }
def Ts.openAttr (s : Ts) (c : UInt8) : Ts := { s.to 5 with attr := Ts.low c }
def Ts.kind (n : ByteArray) : Int :=
 let l := n.data.toList
 if l = [98, 114] ∨ l = [105, 109, 103] ∨ l = [105, 110, 112, 117, 116] ∨ l = [104, 114] ∨ l = [109, 101, 116, 97] ∨ l = [108, 105, 110, 107] then 1
 else if l = [116, 105, 116, 108, 101] ∨ l = [116, 101, 120, 116, 97, 114, 101, 97] then 2
 else if l = [115, 99, 114, 105, 112, 116] then 3
 else if l = [115, 116, 121, 108, 101] then 4 else 0
def Ts.closed (s : Ts) : Ts := if s.fin = true ∨ Ts.kind s.name = 0 ∨ Ts.kind s.name = 1 then s.to 0 else ({ s with held := s.name } : Ts).to 19
def Ts.data (s : Ts) (c : UInt8) : Ts := if c = 60 then s.to 1 else s
def Ts.tagOpen (s : Ts) (c : UInt8) : Ts := if Ts.letter c = true then s.openTag c else if c = 47 then s.to 2 else if c = 33 then s.to 13 else if c = 60 then s else s.to 0
def Ts.endOpen (s : Ts) (c : UInt8) : Ts := if Ts.letter c = true then { s.openTag c with fin := true } else if c = 60 then s.to 1 else s.to 0
def Ts.tagName (s : Ts) (c : UInt8) : Ts := if Ts.blank c = true then s.to 4 else if c = 47 then s.to 12 else if c = 62 then s.closed else { s with name := Ts.grown s.name c }
def Ts.beforeAttr (s : Ts) (c : UInt8) : Ts := if Ts.blank c = true then s else if c = 47 then s.to 12 else if c = 62 then s.closed else s.openAttr c
def Ts.attrName (s : Ts) (c : UInt8) : Ts := if Ts.blank c = true then s.to 6 else if c = 47 then s.to 12 else if c = 62 then s.closed else if c = 61 then s.to 7 else { s with attr := Ts.grown s.attr c }
def Ts.afterName (s : Ts) (c : UInt8) : Ts := if Ts.blank c = true then s else if c = 47 then s.to 12 else if c = 62 then s.closed else if c = 61 then s.to 7 else s.openAttr c
def Ts.beforeValue (s : Ts) (c : UInt8) : Ts := if Ts.blank c = true then s else if c = 34 then s.to 8 else if c = 39 then s.to 9 else if c = 62 then s.closed else s.to 10
def Ts.quoted (q : UInt8) (s : Ts) (c : UInt8) : Ts := if c = q then s.to 11 else s
def Ts.bare (s : Ts) (c : UInt8) : Ts := if Ts.blank c = true then s.to 4 else if c = 62 then s.closed else s
def Ts.afterValue (s : Ts) (c : UInt8) : Ts := if Ts.blank c = true then s.to 4 else if c = 47 then s.to 12 else if c = 62 then s.closed else s.openAttr c
def Ts.selfClose (s : Ts) (c : UInt8) : Ts := if c = 62 then s.closed else if Ts.blank c = true then s.to 4 else if c = 47 then s else s.openAttr c
def Ts.bang (s : Ts) (c : UInt8) : Ts := if c = 45 then s.to 14 else if c = 62 then s.to 0 else s.to 18
def Ts.bangDash (s : Ts) (c : UInt8) : Ts := if c = 45 then s.to 15 else if c = 62 then s.to 0 else s.to 18
def Ts.comment (s : Ts) (c : UInt8) : Ts := if c = 45 then s.to 16 else s
def Ts.commentDash (s : Ts) (c : UInt8) : Ts := if c = 45 then s.to 17 else s.to 15
def Ts.commentEnd (s : Ts) (c : UInt8) : Ts := if c = 62 then s.to 0 else if c = 45 then s else s.to 15
def Ts.bogus (s : Ts) (c : UInt8) : Ts := if c = 62 then s.to 0 else s
def Ts.heldS (s : Ts) (c : UInt8) : Ts := if c = 60 then s.to 20 else s
def Ts.heldLt (s : Ts) (c : UInt8) : Ts := if c = 47 then s.to 21 else if c = 60 then s else s.to 19
def Ts.heldAt (s : Ts) (c : UInt8) : Bool := decide (0 ≤ s.read) && decide (s.read < s.held.size) && (Pl.lowB (s.held.data.toList.getD s.read.toNat 0) == Pl.lowB c)
def Ts.heldOn (s : Ts) (c : UInt8) : Ts := if c = 60 then s.to 20 else s.to 19
def Ts.heldSlash (s : Ts) (c : UInt8) : Ts := if Ts.heldAt s c = true then { s.to 22 with read := 1 } else s.heldOn c
def Ts.heldEnd (s : Ts) (a : Int) : Ts := ({ s with name := s.held, fin := true } : Ts).to a
def Ts.heldName (s : Ts) (c : UInt8) : Ts :=
 if Ts.heldAt s c = true then { s with read := s.read + 1 } else if s.read < s.held.size then s.heldOn c else if Ts.blank c = true then s.heldEnd 4 else if c = 47 then s.heldEnd 12 else if c = 62 then s.to 0 else s.heldOn c
def Ts.at (s : Ts) (c : UInt8) : Nat → Ts
 | 0 => s.data c
 | 1 => s.tagOpen c
 | 2 => s.endOpen c
 | 3 => s.tagName c
 | 4 => s.beforeAttr c
 | 5 => s.attrName c
 | 6 => s.afterName c
 | 7 => s.beforeValue c
 | 8 => s.quoted 34 c
 | 9 => s.quoted 39 c
 | 10 => s.bare c
 | 11 => s.afterValue c
 | 12 => s.selfClose c
 | 13 => s.bang c
 | 14 => s.bangDash c
 | 15 => s.comment c
 | 16 => s.commentDash c
 | 17 => s.commentEnd c
 | 18 => s.bogus c
 | 19 => s.heldS c
 | 20 => s.heldLt c
 | 21 => s.heldSlash c
 | _ => s.heldName c
def Ts.step (s : Ts) (c : UInt8) : Ts := if s.pl < 0 ∨ 23 ≤ s.pl then s else (s.to s.pl).at c s.pl.toNat
structure Tk where
 kind : Int
 name : ByteArray
 text : ByteArray
 attrs : List (ByteArray × ByteArray)
 self : Bool
deriving DecidableEq
structure Rd where
 st : Ts
 toks : List Tk
 text : Nat
 opn : Nat
 value : Nat
 attrs : List (ByteArray × ByteArray)
 taken : Bool
deriving DecidableEq
def Rd.loose (a : Int) : Bool := decide (a < 3) || decide (19 ≤ a)
def Rd.dec (b : ByteArray) : ByteArray := ⟨(Pl.decL b.data.toList).toArray⟩
def Rd.tell (r : Rd) (t : Tk) (next : Nat) : Rd := { r with toks := r.toks ++ [t], text := next, attrs := [] }
def Rd.textOf (P : ByteArray) (a b : Nat) (held : ByteArray) : ByteArray := if Ts.kind held = 3 ∨ Ts.kind held = 4 then P.extract a b else Rd.dec (P.extract a b)
def Rd.tellText (P : ByteArray) (r : Rd) (fin : Nat) (held : ByteArray) : Rd := if r.text = fin then r else r.tell ⟨0, Ts.e, Rd.textOf P r.text fin held, [], false⟩ fin
def Rd.tellTag (r : Rd) (was : Ts) (i : Nat) : Rd := if was.fin = true then r.tell ⟨2, was.name, Ts.e, [], false⟩ (i + 1) else r.tell ⟨1, was.name, Ts.e, r.attrs, was.pl == 12⟩ (i + 1)
def Rd.tellComment (P : ByteArray) (r : Rd) (was : Ts) (i : Nat) : Rd := r.tell ⟨3, Ts.e, if was.pl = 17 then P.extract (r.opn + 4) (i - 2) else P.extract (r.opn + 2) i, [], false⟩ (i + 1)
def Rd.addAttr (r : Rd) (n : ByteArray) : Rd :=
 if r.attrs.length < 32 ∧ r.attrs.any (fun a => decide (a.1 = n)) = false then { r with attrs := r.attrs ++ [(n, Ts.e)], taken := true } else { r with taken := false }
def Rd.setLast (l : List (ByteArray × ByteArray)) (v : ByteArray) : List (ByteArray × ByteArray) := l.modify (l.length - 1) (fun a => (a.1, v))
def Rd.readAttr (P : ByteArray) (r : Rd) (was now : Ts) (i : Nat) : Rd :=
 if was.pl = now.pl then r
 else if was.pl = 5 then r.addAttr was.attr
 else if was.pl = 7 then { r with value := if now.pl = 10 then i else i + 1 }
 else if was.pl = 8 ∨ was.pl = 9 ∨ was.pl = 10 then (if r.taken = true then { r with attrs := Rd.setLast r.attrs (Rd.dec (P.extract r.value i)) } else r)
 else r
def Rd.tags (P : ByteArray) (r : Rd) (was : Ts) (i : Nat) : Rd :=
 let r2 := Rd.readAttr P r was r.st i
 if Rd.loose r.st.pl = true then r2.tellTag was i else r2
def Rd.read (P : ByteArray) (r0 : Rd) (i : Nat) (c : UInt8) : Rd :=
 let was := r0.st
 let now := was.step c
 let r : Rd := { r0 with st := now, opn := if now.pl = 1 ∨ now.pl = 20 then i else r0.opn }
 if was.pl = 22 ∧ now.pl = 0 then (Rd.tellText P r r.opn was.held).tell ⟨2, was.held, Ts.e, [], false⟩ (i + 1)
 else if Rd.loose was.pl = true ∧ Rd.loose now.pl = false then Rd.tellText P r r.opn was.held
 else if Ts.inTag was.pl = true then Rd.tags P r was i
 else if Rd.loose was.pl = false ∧ Rd.loose now.pl = true then Rd.tellComment P r was i
 else r
def Rd.run (P : ByteArray) (r : Rd) (i : Nat) : List UInt8 → Rd
 | [] => r
 | c :: l => Rd.run P (Rd.read P r i c) (i + 1) l
def Rd.start : Rd := ⟨Ts.start, [], 0, 0, 0, [], false⟩
def Rd.done (P : ByteArray) (r : Rd) : List Tk := if Rd.loose r.st.pl = true then (Rd.tellText P r P.size r.st.held).toks else r.toks
def Rd.lines : List UInt8 → List UInt8
 | [] => []
 | 13 :: 10 :: l => 10 :: Rd.lines l
 | c :: l => (if c = 13 then 10 else c) :: Rd.lines l
def Rd.page (s : ByteArray) : ByteArray := ⟨(Rd.lines s.data.toList).toArray⟩
def Rd.tokens (s : ByteArray) : List Tk := Rd.done (Rd.page s) (Rd.run (Rd.page s) Rd.start 0 (Rd.lines s.data.toList))
structure Nd where
 kind : Int
 name : ByteArray
 text : ByteArray
 attrs : List (ByteArray × ByteArray)
 parent : Int
deriving DecidableEq
def Bt.named (al : List (ByteArray × ByteArray)) (n : Nat) : Prop := ∀ i x, i < n → al[i]? = some x → x.1 ≠ Ts.e ∧ ∀ j y, j < i → al[j]? = some y → y.1 ≠ x.1
def Tk.May (t : Tk) : Prop :=
 ((t.kind = 0 ∨ t.kind = 3) ∧ t.name = Ts.e ∧ t.attrs = [] ∧ t.self = false) ∨
 ((t.kind = 1 ∨ (t.kind = 2 ∧ t.attrs = [] ∧ t.self = false)) ∧ t.name ≠ Ts.e ∧ t.text = Ts.e ∧ t.attrs.length ≤ 32 ∧ Bt.named t.attrs t.attrs.length)
structure Bt where
 out : List Nd
 opn : List Nat
def Bt.start : Bt := ⟨[⟨0, Ts.e, Ts.e, [], -1⟩], [0]⟩
def Bt.top (m : Bt) : Nat := m.opn.getLastD 0
def Bt.node (m : Bt) (x : Nd) : Bt := { m with out := m.out ++ [{ x with parent := (m.top : Int) }] }
def Nd.zero : Nd := ⟨0, Ts.e, Ts.e, [], 0⟩
def Bt.nth (m : Bt) (i : Nat) : Nd := (m.out[i]?).getD Nd.zero
def Bt.find (m : Bt) (n : ByteArray) : Nat → Nat
 | 0 => 0
 | k + 1 => if k = 0 then 0 else if (m.nth (m.opn.getD k 0)).name = n then k else Bt.find m n k
def Bt.last (m : Bt) : Nat := m.out.length - 1
def Bt.put (m : Bt) (x : ByteArray) : Bt := { m with out := m.out.set m.last { m.nth m.last with text := (m.nth m.last).text ++ x } }
def Bt.token (m : Bt) (t : Tk) : Bt :=
 if t.kind = 0 then
  if t.text = Ts.e then m
  else if (m.nth m.last).kind = 2 ∧ (m.nth m.last).parent = (m.top : Int) then m.put t.text
  else m.node ⟨2, Ts.e, t.text, [], 0⟩
 else if t.kind = 3 then m.node ⟨3, Ts.e, t.text, [], 0⟩
 else if t.kind = 1 then
  if Ts.kind t.name ≠ 1 ∧ m.opn.length ≤ 32 then { m.node ⟨1, t.name, Ts.e, t.attrs, 0⟩ with opn := m.opn ++ [m.out.length] }
  else m.node ⟨1, t.name, Ts.e, t.attrs, 0⟩
 else if t.kind = 2 then
  if m.find t.name m.opn.length = 0 then m else { m with opn := m.opn.take (m.find t.name m.opn.length) }
 else m
def Bt.run (m : Bt) : List Tk → Bt × Bool
 | [] => (m, true)
 | t :: ts => if 4096 < (m.token t).out.length then (m.token t, false) else Bt.run (m.token t) ts
structure Bt.Ok (m : Bt) : Prop where
 some : 0 < m.out.length
 opn : 0 < m.opn.length
 lt : ∀ k ∈ m.opn, k < m.out.length
 few : m.opn.length ≤ 33
theorem Bt.Ok.start : Bt.Ok Bt.start := ⟨by decide, by decide, by decide, by decide⟩
theorem Bt.find_lt (m : Bt) (n : ByteArray) : ∀ k, 0 < k → m.find n k < k
 | k + 1, _ => by
  unfold Bt.find
  split
  ·
   omega
  ·
   split
   ·
    omega
   ·
    next h1 _ => have := Bt.find_lt m n k (by omega); omega
theorem Bt.Ok.node {m : Bt} (h : Bt.Ok m) (x : Nd) : Bt.Ok (m.node x) :=
 ⟨by show 0 < (m.out ++ _).length; rw [List.length_append]; have := h.some; omega, h.opn, fun k hk => by show k < (m.out ++ _).length; rw [List.length_append]; have := h.lt k hk; omega, h.few⟩
theorem Bt.Ok.token {m : Bt} (h : Bt.Ok m) (t : Tk) : Bt.Ok (m.token t) := by
 unfold Bt.token
 split
 ·
  split
  ·
   exact h
  ·
   split
   ·
    unfold Bt.put
    refine ⟨?_, h.opn, fun k hk => ?_, h.few⟩
    ·
     show 0 < (m.out.set _ _).length
     rw [List.length_set]; exact h.some
    ·
     show k < (m.out.set _ _).length
     rw [List.length_set]; exact h.lt k hk
   ·
    exact h.node _
 split
 ·
  exact h.node _
 split
 ·
  split
  ·
   next q =>
   have hn := h.node ⟨1, t.name, Ts.e, t.attrs, 0⟩
   refine ⟨hn.some, ?_, fun k hk => ?_, ?_⟩
   ·
    show 0 < (m.opn ++ [m.out.length]).length
    rw [List.length_append]; simp
   ·
    show k < (m.out ++ _).length
    rw [List.length_append]
    rcases List.mem_append.1 hk with q | q
    ·
     have := h.lt k q; omega
    ·
     have := List.mem_singleton.1 q; simp; omega
   ·
    show (m.opn ++ [m.out.length]).length ≤ 33
    rw [List.length_append]; simp; omega
  ·
   exact h.node _
 split
 ·
  split
  ·
   exact h
  ·
   next q =>
   have hl := Bt.find_lt m t.name m.opn.length h.opn
   refine ⟨h.some, ?_, fun k hk => h.lt k (List.mem_of_mem_take hk), ?_⟩
   ·
    show 0 < (m.opn.take _).length
    rw [List.length_take]; omega
   ·
    show (m.opn.take _).length ≤ 33
    rw [List.length_take]; have := h.few; omega
 ·
  exact h
def Bt.bulk (ts : List Tk) : Nat := (ts.map (·.text.size)).sum
theorem Bt.nth_small {m : Bt} {B : Nat} (h : ∀ x ∈ m.out, x.text.size ≤ B) (i : Nat) : (m.nth i).text.size ≤ B := by
 unfold Bt.nth
 cases q : m.out[i]? with
 | none => exact Nat.zero_le _
 | some x => exact h x (List.mem_of_getElem? q)
theorem Bt.token_small {m : Bt} {B : Nat} (h : ∀ x ∈ m.out, x.text.size ≤ B) (t : Tk) : ∀ x ∈ (m.token t).out, x.text.size ≤ B + t.text.size := by
 have hn : ∀ y : Nd, y.text.size ≤ t.text.size → ∀ x ∈ (m.node y).out, x.text.size ≤ B + t.text.size := fun y hy x hx => by
  rcases List.mem_append.1 hx with q | q
  ·
   have := h x q; omega
  ·
   rw [List.mem_singleton.1 q]
   show y.text.size ≤ _
   omega
 have hm : ∀ x ∈ m.out, x.text.size ≤ B + t.text.size := fun x hx => by have := h x hx; omega
 unfold Bt.token
 split
 ·
  split
  ·
   exact hm
  ·
   split
   ·
    intro x hx
    rcases List.mem_or_eq_of_mem_set hx with q | q
    ·
     exact hm x q
    ·
     rw [q]
     show ((m.nth m.last).text ++ t.text).size ≤ _
     rw [ByteArray.size_append]
     have := Bt.nth_small h m.last
     omega
   ·
    exact hn _ (Nat.le_refl _)
 split
 ·
  exact hn _ (Nat.le_refl _)
 split
 ·
  split
  ·
   exact hn _ (Nat.zero_le _)
  ·
   exact hn _ (Nat.zero_le _)
 split
 ·
  split
  ·
   exact hm
  ·
   exact hm
 ·
  exact hm
theorem Bt.run_len : ∀ (ts : List Tk) (m : Bt), m.out.length ≤ 4096 → (Bt.run m ts).2 = true → (Bt.run m ts).1.out.length ≤ 4096
 | [], m, h, _ => h
 | t :: ts, m, h, hr => by
  unfold Bt.run at hr ⊢
  split at hr
  ·
   cases hr
  ·
   next hq =>
   rw [if_neg hq]
   exact Bt.run_len ts (m.token t) (by omega) hr
theorem Bt.token_attrs (m : Bt) (t : Tk) : ∀ x ∈ (m.token t).out, x.attrs = [] ∨ x.attrs = t.attrs ∨ ∃ y ∈ m.out, x.attrs = y.attrs := by
 have hm : ∀ x ∈ m.out, x.attrs = [] ∨ x.attrs = t.attrs ∨ ∃ y ∈ m.out, x.attrs = y.attrs := fun x hx => .inr (.inr ⟨x, hx, rfl⟩)
 have hn : ∀ y : Nd, (y.attrs = [] ∨ y.attrs = t.attrs) → ∀ x ∈ (m.node y).out, x.attrs = [] ∨ x.attrs = t.attrs ∨ ∃ y ∈ m.out, x.attrs = y.attrs := fun y hy x hx => by
  rcases List.mem_append.1 hx with q | q
  ·
   exact hm x q
  ·
   rw [List.mem_singleton.1 q]
   rcases hy with q | q
   ·
    exact .inl q
   ·
    exact .inr (.inl q)
 unfold Bt.token
 split
 ·
  split
  ·
   exact hm
  ·
   split
   ·
    intro x hx
    rcases List.mem_or_eq_of_mem_set hx with q | q
    ·
     exact hm x q
    ·
     rw [q]
     show (m.nth m.last).attrs = [] ∨ (m.nth m.last).attrs = t.attrs ∨ ∃ y ∈ m.out, (m.nth m.last).attrs = y.attrs
     unfold Bt.nth
     cases hl : m.out[m.last]? with
     | none => exact .inl rfl
     | some z => exact hm z (List.mem_of_getElem? hl)
   ·
    exact hn _ (.inl rfl)
 split
 ·
  exact hn _ (.inl rfl)
 split
 ·
  split
  ·
   exact hn _ (.inr rfl)
  ·
   exact hn _ (.inr rfl)
 split
 ·
  split
  ·
   exact hm
  ·
   exact hm
 ·
  exact hm
theorem Bt.run_attrs {Q : List (ByteArray × ByteArray) → Prop} (h0 : Q []) : ∀ (ts : List Tk) (m : Bt), (∀ t ∈ ts, Q t.attrs) → (∀ x ∈ m.out, Q x.attrs) → ∀ x ∈ (Bt.run m ts).1.out, Q x.attrs
 | [], _, _, hm => hm
 | t :: ts, m, ht, hm => by
  have h1 : ∀ x ∈ (m.token t).out, Q x.attrs := fun x hx => by
   rcases Bt.token_attrs m t x hx with q | q | ⟨y, hy, q⟩
   ·
    rw [q]; exact h0
   ·
    rw [q]; exact ht t (List.mem_cons_self ..)
   ·
    rw [q]; exact hm y hy
  unfold Bt.run
  split
  ·
   exact h1
  ·
   exact Bt.run_attrs h0 ts (m.token t) (fun u hu => ht u (List.mem_cons_of_mem _ hu)) h1
theorem Tk.May.few {t : Tk} (h : t.May) : t.attrs.length ≤ 32 := by
 rcases h with ⟨_, _, h, _⟩ | ⟨_, _, _, h, _⟩
 ·
  rw [h]; exact Nat.zero_le _
 ·
  exact h
theorem Bt.nice (ts : List Tk) {L : Nat} (hm : ∀ t ∈ ts, t.May) (hn : ∀ t ∈ ts, ∀ y ∈ t.attrs, y.1.size ≤ L) : ∀ x ∈ (Bt.run Bt.start ts).1.out, x.attrs.length ≤ 32 ∧ ∀ y ∈ x.attrs, y.1.size ≤ L := by
 refine Bt.run_attrs (Q := fun al => al.length ≤ 32 ∧ ∀ y ∈ al, y.1.size ≤ L) ⟨Nat.zero_le _, fun y hy => by simp at hy⟩ ts Bt.start (fun t ht => ⟨(hm t ht).few, hn t ht⟩) (fun x hx => ?_)
 rw [List.mem_singleton.1 hx]
 exact ⟨Nat.zero_le _, fun y hy => by simp at hy⟩
structure Bt.Sh (m : Bt) (D : List Nat) : Prop where
 len : D.length = m.out.length
 root : ∃ x, m.out[0]? = some x ∧ x.kind = 0 ∧ x.parent = -1
 d0 : D[0]? = some 0
 node : ∀ (i : Nat) (x : Nd), 1 ≤ i → m.out[i]? = some x → ∃ (p : Nat) (y : Nd) (dp : Nat), x.parent = (p : Int) ∧ p < i ∧ m.out[p]? = some y ∧ (y.kind = 0 ∨ y.kind = 1) ∧ x.kind ≠ 0 ∧ D[p]? = some dp ∧ D[i]? = some (dp + 1) ∧ dp ≤ 32
 adj : ∀ (i : Nat) (x y : Nd), m.out[i]? = some x → m.out[i + 1]? = some y → x.kind = 2 → y.kind = 2 → x.parent ≠ y.parent
 opn : ∀ (j k : Nat), m.opn[j]? = some k → (∃ y : Nd, m.out[k]? = some y ∧ (y.kind = 0 ∨ y.kind = 1)) ∧ D[k]? = some j
theorem Bt.Sh.start : Bt.Sh Bt.start [0] := by
 refine ⟨rfl, ⟨_, rfl, rfl, rfl⟩, rfl, fun i x hi hx => ?_, fun i x y _ hy => ?_, fun j k hj => ?_⟩
 ·
  have := (List.getElem?_eq_some_iff.1 hx).1
  simp [Bt.start] at this
  omega
 ·
  have := (List.getElem?_eq_some_iff.1 hy).1
  simp [Bt.start] at this
 ·
  have h1 := (List.getElem?_eq_some_iff.1 hj).1
  have : j = 0 := by simp [Bt.start] at h1; omega
  subst this
  have : k = 0 := by simpa [Bt.start] using hj.symm
  subst this
  exact ⟨⟨_, rfl, .inl rfl⟩, rfl⟩
theorem Bt.top_at {m : Bt} (h : 0 < m.opn.length) : m.opn[m.opn.length - 1]? = some m.top := by
 unfold Bt.top
 rw [List.getLastD_eq_getLast?, List.getLast?_eq_getElem?, List.getElem?_eq_getElem (by omega)]
 rfl
theorem Bt.Sh.push {m : Bt} {D : List Nat} (h : Bt.Sh m D) (ok : Bt.Ok m) (x : Nd) (hk : x.kind ≠ 0) (ha : ∀ y, m.out[m.out.length - 1]? = some y → y.kind = 2 → x.kind = 2 → y.parent ≠ (m.top : Int)) : Bt.Sh (m.node x) (D ++ [m.opn.length]) := by
 have hsome := ok.some
 have hopn := ok.opn
 have hfew := ok.few
 have ht := Bt.top_at hopn
 obtain ⟨⟨yt, hyt, hyk⟩, hdt⟩ := h.opn _ _ ht
 have htl : m.top < m.out.length := (List.getElem?_eq_some_iff.1 hyt).1
 have hlen := h.len
 have old : ∀ {i : Nat} {y : Nd}, m.out[i]? = some y → (m.out ++ [{ x with parent := (m.top : Int) }])[i]? = some y := fun {i y} q => by
  rw [List.getElem?_append_left (List.getElem?_eq_some_iff.1 q).1]; exact q
 have oldD : ∀ {i d : Nat}, D[i]? = some d → (D ++ [m.opn.length])[i]? = some d := fun {i d} q => by
  rw [List.getElem?_append_left (List.getElem?_eq_some_iff.1 q).1]; exact q
 have lastD : (D ++ [m.opn.length])[m.out.length]? = some m.opn.length := by rw [← hlen, List.getElem?_append_right (Nat.le_refl _), Nat.sub_self]; rfl
 have which : ∀ {i : Nat} {y : Nd}, (m.out ++ [{ x with parent := (m.top : Int) }])[i]? = some y → (m.out[i]? = some y) ∨ (i = m.out.length ∧ y = { x with parent := (m.top : Int) }) := fun {i y} q => by
  by_cases e : i < m.out.length
  ·
   rw [List.getElem?_append_left e] at q; exact .inl q
  ·
   have h1 := (List.getElem?_eq_some_iff.1 q).1
   rw [List.length_append] at h1
   have e' : i = m.out.length := by simp at h1; omega
   subst e'
   rw [List.getElem?_append_right (Nat.le_refl _), Nat.sub_self] at q
   exact .inr ⟨rfl, by simpa using q.symm⟩
 refine ⟨?_, ?_, oldD h.d0, fun i y hi hy => ?_, fun i y z hy hz hy2 hz2 => ?_, fun j k hj => ?_⟩
 ·
  show (D ++ [_]).length = (m.out ++ [_]).length
  rw [List.length_append, List.length_append, hlen]; rfl
 ·
  obtain ⟨r, hr, h1, h2⟩ := h.root
  exact ⟨r, old hr, h1, h2⟩
 ·
  rcases which hy with q | ⟨rfl, rfl⟩
  ·
   obtain ⟨p, z, dp, h1, h2, h3, h4, h5, h6, h7, h8⟩ := h.node i y hi q
   exact ⟨p, z, dp, h1, h2, old h3, h4, h5, oldD h6, oldD h7, h8⟩
  ·
   refine ⟨m.top, yt, m.opn.length - 1, rfl, htl, old hyt, hyk, hk, oldD hdt, ?_, by omega⟩
   rw [lastD]
   congr 1
   omega
 ·
  rcases which hz with q | ⟨e, rfl⟩
  ·
   have : i < m.out.length := by have := (List.getElem?_eq_some_iff.1 q).1; omega
   rcases which hy with q1 | ⟨e1, _⟩
   ·
    exact h.adj i y z q1 q hy2 hz2
   ·
    omega
  ·
   rcases which hy with q1 | ⟨e1, _⟩
   ·
    have hi : i = m.out.length - 1 := by omega
    subst hi
    exact ha y q1 hy2 hz2
   ·
    omega
 ·
  obtain ⟨⟨y, h1, h2⟩, h3⟩ := h.opn j k hj
  exact ⟨⟨y, old h1, h2⟩, oldD h3⟩
theorem Bt.Sh.token {m : Bt} {D : List Nat} (h : Bt.Sh m D) (ok : Bt.Ok m) (t : Tk) : ∃ D', Bt.Sh (m.token t) D' := by
 have hsome := ok.some
 unfold Bt.token
 split
 ·
  split
  ·
   exact ⟨D, h⟩
  ·
   split
   ·
    next hq =>
    obtain ⟨y, hy⟩ : ∃ y, m.out[m.last]? = some y := ⟨_, List.getElem?_eq_getElem (by unfold Bt.last; omega)⟩
    have hn : m.nth m.last = y := by unfold Bt.nth; rw [hy]; rfl
    rw [hn] at hq
    unfold Bt.put
    rw [hn]
    have hl : m.last < m.out.length := (List.getElem?_eq_some_iff.1 hy).1
    have same : ∀ (i : Nat) (z : Nd), (m.out.set m.last { y with text := y.text ++ t.text })[i]? = some z → ∃ z' : Nd, m.out[i]? = some z' ∧ z.kind = z'.kind ∧ z.parent = z'.parent := fun i z hz => by
     by_cases e : m.last = i
     ·
      subst e
      rw [List.getElem?_set_self hl] at hz
      injection hz with hz
      exact ⟨y, hy, by rw [← hz], by rw [← hz]⟩
     ·
      rw [List.getElem?_set_ne e] at hz
      exact ⟨z, hz, rfl, rfl⟩
    have back : ∀ (i : Nat) (z' : Nd), m.out[i]? = some z' → ∃ z : Nd, (m.out.set m.last { y with text := y.text ++ t.text })[i]? = some z ∧ z.kind = z'.kind ∧ z.parent = z'.parent := fun i z' hz => by
     by_cases e : m.last = i
     ·
      subst e
      rw [hy] at hz
      injection hz with hz
      exact ⟨_, List.getElem?_set_self hl, by rw [← hz], by rw [← hz]⟩
     ·
      exact ⟨z', by rw [List.getElem?_set_ne e]; exact hz, rfl, rfl⟩
    refine ⟨D, ?_, ?_, h.d0, fun i z hi hz => ?_, fun i z1 z2 h1 h2 k1 k2 => ?_, fun j k hj => ?_⟩
    ·
     show D.length = (m.out.set _ _).length
     rw [List.length_set]; exact h.len
    ·
     obtain ⟨r, hr, h1, h2⟩ := h.root
     obtain ⟨r', hr', e1, e2⟩ := back 0 r hr
     exact ⟨r', hr', e1.trans h1, e2.trans h2⟩
    ·
     obtain ⟨z', hz', e1, e2⟩ := same i z hz
     obtain ⟨p, q, dp, h1, h2, h3, h4, h5, h6, h7, h8⟩ := h.node i z' hi hz'
     obtain ⟨q', hq', f1, f2⟩ := back p q h3
     exact ⟨p, q', dp, by rw [e2]; exact h1, h2, hq', by rw [f1]; exact h4, by rw [e1]; exact h5, h6, h7, h8⟩
    ·
     obtain ⟨w1, g1, e1, e2⟩ := same i z1 h1
     obtain ⟨w2, g2, f1, f2⟩ := same (i + 1) z2 h2
     rw [e2, f2]
     exact h.adj i w1 w2 g1 g2 (by rw [← e1]; exact k1) (by rw [← f1]; exact k2)
    ·
     obtain ⟨⟨z, h1, h2⟩, h3⟩ := h.opn j k hj
     obtain ⟨z', h1', e1, e2⟩ := back k z h1
     exact ⟨⟨z', h1', by rw [e1]; exact h2⟩, h3⟩
   ·
    next hq =>
    refine ⟨_, h.push ok ⟨2, Ts.e, t.text, [], 0⟩ (by show (2 : Int) ≠ 0; decide) fun y hy hk _ => ?_⟩
    intro e
    apply hq
    have hn : m.nth m.last = y := by unfold Bt.nth Bt.last; rw [hy]; rfl
    rw [hn]
    exact ⟨hk, e⟩
 split
 ·
  exact ⟨_, h.push ok ⟨3, Ts.e, t.text, [], 0⟩ (by show (3 : Int) ≠ 0; decide) (fun y _ _ q => absurd q (by show ¬ (3 : Int) = 2; decide))⟩
 split
 ·
  have hp := h.push ok ⟨1, t.name, Ts.e, t.attrs, 0⟩ (by show (1 : Int) ≠ 0; decide) (fun y _ _ q => absurd q (by show ¬ (1 : Int) = 2; decide))
  split
  ·
   refine ⟨D ++ [m.opn.length], hp.len, hp.root, hp.d0, hp.node, hp.adj, fun j k hj => ?_⟩
   have hj : (m.opn ++ [m.out.length])[j]? = some k := hj
   by_cases e : j < m.opn.length
   ·
    rw [List.getElem?_append_left e] at hj
    exact hp.opn j k hj
   ·
    have h1 := (List.getElem?_eq_some_iff.1 hj).1
    rw [List.length_append] at h1
    have e' : j = m.opn.length := by simp at h1; omega
    subst e'
    rw [List.getElem?_append_right (Nat.le_refl _), Nat.sub_self] at hj
    have : k = m.out.length := by simpa using hj.symm
    subst this
    refine ⟨⟨⟨1, t.name, Ts.e, t.attrs, (m.top : Int)⟩, ?_, .inr rfl⟩, ?_⟩
    ·
     show (m.out ++ [_])[m.out.length]? = _
     rw [List.getElem?_append_right (Nat.le_refl _), Nat.sub_self]
     rfl
    ·
     rw [← h.len, List.getElem?_append_right (Nat.le_refl _), Nat.sub_self]
     rfl
  ·
   exact ⟨_, hp⟩
 split
 ·
  split
  ·
   exact ⟨D, h⟩
  ·
   refine ⟨D, h.len, h.root, h.d0, h.node, h.adj, fun j k hj => ?_⟩
   have hj : (m.opn.take _)[j]? = some k := hj
   rw [List.getElem?_take] at hj
   split at hj
   ·
    exact h.opn j k hj
   ·
    cases hj
 ·
  exact ⟨D, h⟩
theorem Bt.Sh.run : ∀ (ts : List Tk) {m : Bt} {D : List Nat}, Bt.Sh m D → Bt.Ok m → ∃ D', Bt.Sh (Bt.run m ts).1 D'
 | [], _, D, h, _ => ⟨D, h⟩
 | t :: ts, m, D, h, ok => by
  obtain ⟨D', h'⟩ := h.token ok t
  unfold Bt.run
  split
  ·
   exact ⟨D', h'⟩
  ·
   exact Bt.Sh.run ts h' (ok.token t)
def Sk.At (ns : List Nd) (i : Nat) (x : Nd) : Prop :=
 (i = 0 ∧ x.kind = 0 ∧ x.parent = -1 ∧ x.name = Ts.e ∧ x.text = Ts.e ∧ x.attrs = []) ∨
 (0 < i ∧ 0 ≤ x.parent ∧ x.parent < (i : Int) ∧ (∃ y, ns[x.parent.toNat]? = some y ∧ (y.kind = 0 ∨ y.kind = 1)) ∧ ((x.kind = 1 ∧ x.text = Ts.e) ∨ ((x.kind = 2 ∨ x.kind = 3) ∧ x.name = Ts.e ∧ x.attrs = [])))
def Sk.May (ns : List Nd) : Prop := 0 < ns.length ∧ ∀ i x, ns[i]? = some x → Sk.At ns i x
def Sk.told (x : Nd) : Bool := x.kind != 2
def Sk.num (ns : List Nd) (q : Nat) : Nat := (ns.take (q + 1)).tail.countP Sk.told
def Sk.line (p : Nat) (x : Nd) : List UInt8 := Lib.decDigits p ++ ((if x.kind = 3 then [32, 99, 32] ++ x.text.data.toList else [32, 101, 32] ++ x.name.data.toList) ++ (x.attrs.flatMap (fun a => 32 :: a.1.data.toList) ++ [10]))
def Sk.one (ns : List Nd) (x : Nd) : List UInt8 := if x.kind = 2 then [] else Sk.line (Sk.num ns x.parent.toNat) x
def Sk.linesFrom (pre : List Nd) : List Nd → List UInt8
 | [] => []
 | x :: l => Sk.one pre x ++ Sk.linesFrom (pre ++ [x]) l
def Sk.skel : List Nd → List UInt8
 | [] => []
 | r :: l => Sk.linesFrom [r] l
def Sk.texts (ns : List Nd) : List ByteArray := ns.filterMap fun x => if x.kind = 2 then some x.text else none
theorem Sk.linesFrom_snoc : ∀ (l : List Nd) (pre : List Nd) (x : Nd), Sk.linesFrom pre (l ++ [x]) = Sk.linesFrom pre l ++ Sk.one (pre ++ l) x
 | [], pre, x => by simp [Sk.linesFrom]
 | y :: l, pre, x => by
  show Sk.one pre y ++ Sk.linesFrom (pre ++ [y]) (l ++ [x]) = Sk.one pre y ++ Sk.linesFrom (pre ++ [y]) l ++ _
  rw [Sk.linesFrom_snoc l (pre ++ [y]) x, List.append_assoc, List.append_assoc]
  rfl
theorem Sk.skel_snoc {ns : List Nd} (h : 0 < ns.length) (x : Nd) : Sk.skel (ns ++ [x]) = Sk.skel ns ++ Sk.one ns x := by
 cases ns with
 | nil => exact absurd h (by decide)
 | cons r l => exact Sk.linesFrom_snoc l [r] x
theorem Sk.count_snoc {ns : List Nd} (h : 0 < ns.length) (x : Nd) : (ns ++ [x]).tail.countP Sk.told = ns.tail.countP Sk.told + (if x.kind = 2 then 0 else 1) := by
 rw [List.tail_append_of_ne_nil (fun e => by rw [e] at h; exact absurd h (by decide)), List.countP_append]
 congr 1
 by_cases q : x.kind = 2
 ·
  simp [Sk.told, q]
 ·
  simp [Sk.told, q]
end Go.Proofs.YtblpkjlodncpeaaGreatDoor

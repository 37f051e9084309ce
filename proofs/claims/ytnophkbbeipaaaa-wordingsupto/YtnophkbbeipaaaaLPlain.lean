/-
  PLAIN: a source as texts and actions: the document's Split, by places in the bytes.
-/
import Derived.Test.YtnophkbbeipaaaaGKit
namespace Go.Proofs.Ytnophkbbeipaaaa
/-- a piece: a text or an action -/
structure Pc where
  act : Bool
  text : List UInt8
  loc : Nat
  deriving DecidableEq
/-- an action that was found: behind its end, its text, whether it trims, whether it is a comment -/
structure La where
  fin : Nat
  text : List UInt8
  trims : Bool
  com : Bool
def Lx.blank (c : UInt8) : Bool := c == 9 || c == 10 || c == 32
def Lx.left (l : List UInt8) : List UInt8 := l.dropWhile Lx.blank
def Lx.right (l : List UInt8) : List UInt8 := (l.reverse.dropWhile Lx.blank).reverse
/-- where the next '{{' stands, or the end -/
def Lx.text : Nat → List UInt8 → Nat
  | i, [] => i
  | i, a :: l => if a = 123 ∧ l.head? = some 123 then i else Lx.text (i + 1) l
/-- where the blanks end -/
def Lx.skip : Nat → List UInt8 → Nat
  | i, [] => i
  | i, a :: l => if Lx.blank a = true then Lx.skip (i + 1) l else i
/-- where the next comment's end stands -/
def Lx.star : Nat → List UInt8 → Option Nat
  | _, [] => none
  | i, a :: l => if a = 42 ∧ l.head? = some 47 then some i else Lx.star (i + 1) l
/-- where the next '}}' in no text stands -/
def Lx.find : Bool → Bool → Nat → List UInt8 → Option Nat
  | _, _, _, [] => none
  | t, sk, i, c :: l => if sk = true then Lx.find t false (i + 1) l else if t = true ∧ c = 92 then Lx.find t true (i + 1) l else if c = 34 then Lx.find (!t) false (i + 1) l else if t = false ∧ c = 125 ∧ l.head? = some 125 then some i else Lx.find t false (i + 1) l
def Lx.two (S : List UInt8) (k : Nat) (a b : UInt8) : Bool := decide (S[k]? = some a) && decide (S[k + 1]? = some b)
def Lx.comment (S : List UInt8) (k : Nat) : Option La :=
  match Lx.star k (S.drop k) with
  | none => none
  | some f =>
    let i := Lx.skip (f + 2) (S.drop (f + 2))
    let tr := decide (f + 2 < i) && decide (S[i]? = some 45)
    let j := if tr = true then i + 1 else i
    if Lx.two S j 125 125 = true then some ⟨j + 2, [], tr, true⟩ else none
/-- does an action's text end with a trim mark? -/
def Lx.trims (t : List UInt8) : Bool := decide (2 ≤ t.length) && decide (t[t.length - 1]? = some 45) && (t.getD (t.length - 2) 0 |> Lx.blank)
def Lx.plain (S : List UInt8) (k : Nat) : Option La :=
  match Lx.find false false k (S.drop k) with
  | none => none
  | some i =>
    let t := (S.drop k).take (i - k)
    some ⟨i + 2, Lx.right (Lx.left (if Lx.trims t = true then t.take (t.length - 1) else t)), Lx.trims t, false⟩
def Lx.act (S : List UInt8) (k : Nat) : Option La := if Lx.two S k 47 42 = true then Lx.comment S (k + 2) else Lx.plain S k
/-- a text, if there is one -/
def Lx.one (t : List UInt8) (k : Nat) : List Pc := if t = [] then [] else [⟨false, t, k⟩]
/-- does a trim mark stand behind '{{'? -/
def Lx.mark (S : List UInt8) (k : Nat) : Bool := decide (S[k]? = some 45) && decide (k + 1 < S.length) && Lx.blank (S.getD (k + 1) 0)
def Lx.go : Nat → List UInt8 → Nat → Bool → List Pc → Option (List Pc)
  | 0, _, _, _, out => some out
  | n + 1, S, p, tr, out =>
    if S.length ≤ p then some out
    else
      let i := Lx.text p (S.drop p)
      let t := (S.drop p).take (i - p)
      let t := if tr = true then Lx.left t else t
      if S.length ≤ i then some (out ++ Lx.one t p)
      else
        let m := Lx.mark S (i + 2)
        let t := if m = true then Lx.right t else t
        let k := if m = true then i + 3 else i + 2
        match Lx.act S (Lx.skip k (S.drop k)) with
        | none => none
        | some a => Lx.go n S a.fin a.trims (out ++ Lx.one t p ++ if a.com = true then [] else [⟨true, a.text, i⟩])
def Lx.long (ps : List Pc) : Bool := ps.any fun p => p.act && decide (256 < p.text.length)
def Lx.limits (ps : List Pc) : List Pc × Int := if Lx.long ps = true then ([], 1301) else if 1024 < ps.length then ([], 1302) else (ps, 0)
def Lx.all (S : List UInt8) : List Pc × Int :=
  match Lx.go (S.length + 1) S 0 false [] with
  | none => ([], 1300)
  | some ps => Lx.limits ps
def Lx.split (s : ByteArray) : List Pc × Int := if 65536 < s.size then ([], 1301) else Lx.all (Rd.lines s.data.toList)
theorem Lx.text_ge : ∀ (l : List UInt8) (i : Nat), i ≤ Lx.text i l ∧ Lx.text i l ≤ i + l.length := by
  intro l
  induction l with
  | nil => intro i; exact ⟨Nat.le_refl _, Nat.le_refl _⟩
  | cons a l ih =>
    intro i
    unfold Lx.text
    split
    · exact ⟨Nat.le_refl _, Nat.le_add_right _ _⟩
    · have := ih (i + 1)
      simp only [List.length_cons]
      omega
theorem Lx.skip_ge : ∀ (l : List UInt8) (i : Nat), i ≤ Lx.skip i l ∧ Lx.skip i l ≤ i + l.length := by
  intro l
  induction l with
  | nil => intro i; exact ⟨Nat.le_refl _, Nat.le_refl _⟩
  | cons a l ih =>
    intro i
    unfold Lx.skip
    split
    · have := ih (i + 1)
      simp only [List.length_cons]
      omega
    · exact ⟨Nat.le_refl _, Nat.le_add_right _ _⟩
theorem Lx.star_ge : ∀ (l : List UInt8) (i f : Nat), Lx.star i l = some f → i ≤ f ∧ f + 2 ≤ i + l.length := by
  intro l
  induction l with
  | nil => intro i f h; cases h
  | cons a l ih =>
    intro i f h
    unfold Lx.star at h
    split at h
    · rename_i q
      injection h with h
      subst h
      have : l ≠ [] := fun e => by rw [e] at q; cases q.2
      have := List.length_pos_iff.2 this
      simp only [List.length_cons]
      omega
    · have := ih (i + 1) f h
      simp only [List.length_cons]
      omega
theorem Lx.find_ge : ∀ (l : List UInt8) (t sk : Bool) (i f : Nat), Lx.find t sk i l = some f → i ≤ f ∧ f + 2 ≤ i + l.length := by
  intro l
  induction l with
  | nil => intro t sk i f h; cases h
  | cons a l ih =>
    intro t sk i f h
    unfold Lx.find at h
    simp only [List.length_cons]
    repeat' split at h
    · have := ih _ _ _ _ h; omega
    · have := ih _ _ _ _ h; omega
    · have := ih _ _ _ _ h; omega
    · rename_i q
      injection h with h
      subst h
      have : l ≠ [] := fun e => by rw [e] at q; cases q.2.2
      have := List.length_pos_iff.2 this
      omega
    · have := ih _ _ _ _ h; omega
theorem Lx.drop_len (S : List UInt8) (k : Nat) : k + (S.drop k).length = max k S.length := by
  rw [List.length_drop]
  omega
theorem Lx.two_lt {S : List UInt8} {k : Nat} {a b : UInt8} (h : Lx.two S k a b = true) : k + 2 ≤ S.length := by
  unfold Lx.two at h
  simp only [Bool.and_eq_true, decide_eq_true_eq] at h
  have := (List.getElem?_eq_some_iff.1 h.2).1
  omega
/-- an action ends within the source, behind its begin -/
theorem Lx.act_fin {S : List UInt8} {k : Nat} {a : La} (hk : k ≤ S.length) (h : Lx.act S k = some a) : k + 2 ≤ a.fin ∧ a.fin ≤ S.length := by
  unfold Lx.act at h
  split at h
  · rename_i h2
    have h2 := Lx.two_lt h2
    unfold Lx.comment at h
    split at h
    · cases h
    · rename_i f hf
      have h3 := Lx.star_ge _ _ _ hf
      have h4 := Lx.skip_ge (S.drop (f + 2)) (f + 2)
      simp only [List.length_drop] at h3 h4
      simp only at h
      generalize (decide (f + 2 < Lx.skip (f + 2) (S.drop (f + 2))) && decide (S[Lx.skip (f + 2) (S.drop (f + 2))]? = some 45)) = b at h
      have hb : Lx.skip (f + 2) (S.drop (f + 2)) ≤ (if b = true then Lx.skip (f + 2) (S.drop (f + 2)) + 1 else Lx.skip (f + 2) (S.drop (f + 2))) := by split <;> omega
      generalize (if b = true then Lx.skip (f + 2) (S.drop (f + 2)) + 1 else Lx.skip (f + 2) (S.drop (f + 2))) = j at h hb
      cases hj : Lx.two S j 125 125 with
      | true =>
        rw [hj, if_pos rfl] at h
        have hj := Lx.two_lt hj
        injection h with h
        rw [← h]
        simp only
        omega
      | false =>
        rw [hj, if_neg (by decide)] at h
        cases h
  · unfold Lx.plain at h
    split at h
    · cases h
    · rename_i i hi
      have h3 := Lx.find_ge _ _ _ _ _ hi
      simp only [List.length_drop] at h3
      injection h with h
      rw [← h]
      simp only
      omega
theorem Lx.plain_none {S : List UInt8} {k : Nat} (h : Lx.find false false k (S.drop k) = none) : Lx.plain S k = none := by
  unfold Lx.plain
  rw [h]
theorem Lx.plain_some {S T U : List UInt8} {k i : Nat} {tr : Bool} (h : Lx.find false false k (S.drop k) = some i) (hT : T = (S.drop k).take (i - k)) (htr : Lx.trims T = tr) (hU : (if tr = true then T.take (T.length - 1) else T) = U) : Lx.plain S k = some ⟨i + 2, Lx.right (Lx.left U), tr, false⟩ := by
  unfold Lx.plain
  rw [h]
  subst hT
  simp only [htr, hU]
theorem Lx.left_len (l : List UInt8) : (Lx.left l).length ≤ l.length := (List.dropWhile_sublist _).length_le
end Go.Proofs.Ytnophkbbeipaaaa

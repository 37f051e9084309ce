/-
  PLAIN LISTS OF BYTES, no program: the document's own way to read a reference (what stands between & and ;) gives what 'Pl.refL' gives; a number written in digits is read back.
-/
import Derived.Test.YtboalkfagfgnpaaGreatDoorCVCopyXtoRPlain
import Derived.Test.YtboalkfagfgnpaaGreatDoorCSize
import Derived.Test.YtboalkfagfgnpaaGreatDoorCShelf3toVKeys
namespace Go.Proofs.YtboalkfagfgnpaaGreatDoor.Pl

/-- a byte that may stand in a reference -/
def tokc (c : UInt8) : Bool := (decide (97 ≤ (lowB c).toNat) && decide ((lowB c).toNat ≤ 122)) || (decide (48 ≤ c.toNat) && decide (c.toNat ≤ 57)) || decide (c = 35)
def tokEnd : Nat → List UInt8 → Nat → Nat
  | 0, _, k => k
  | _ + 1, [], k => k
  | m + 1, c :: r, k => if tokc c then tokEnd m r (k + 1) else k
def numAll (base : Nat) : List UInt8 → Nat → Option Nat
  | [], x => some x
  | c :: r, x => if dig c < base then numAll base r (x * base + dig c) else none
def numR (s : List UInt8) : Option Nat :=
  if s.head? = some 120 ∨ s.head? = some 88 then (if s.tail = [] ∨ 6 < s.tail.length then none else numAll 16 s.tail 0)
  else if s = [] ∨ 7 < s.length then none else numAll 10 s 0
def names0 : List (List UInt8 × List UInt8) :=
  [([97, 109, 112], [38]), ([108, 116], [60]), ([103, 116], [62]), ([113, 117, 111, 116], [34]), ([97, 112, 111, 115], [39]), ([110, 98, 115, 112], [194, 160]), ([99, 111, 112, 121], [194, 169])]
def nameR : List (List UInt8 × List UInt8) → List UInt8 → Option (List UInt8)
  | [], _ => none
  | n :: ns, b => if b = n.1 then some n.2 else nameR ns b
def refR (b : List UInt8) : Option (List UInt8) := if b.head? = some 35 then (numR b.tail).map runeL else nameR names0 b
def refT (r : List UInt8) : List UInt8 × Nat :=
  if r[tokEnd 10 r 0]? = some 59 then (match refR (r.take (tokEnd 10 r 0)) with | some t => (t, tokEnd 10 r 0 + 1) | none => ([], 0)) else ([], 0)

theorem pre_cons (a c : UInt8) (p l : List UInt8) : pre (a :: p) (c :: l) = ((a == c) && pre p l) := rfl
theorem pre_nil (l : List UInt8) : pre [] l = true := by cases l <;> rfl
/-! ### numbers in digits -/
def val (base : Nat) (b : List UInt8) : Nat := b.foldl (fun x c => x * base + dig c) 0
end Go.Proofs.YtboalkfagfgnpaaGreatDoor.Pl
/-
  THE WALKS of stoleref1.Letter and stoleref1.Digit.
-/
namespace Go.Proofs.YtboalkfagfgnpaaGreatDoor
open Go.RowKit

def Pl.letter (c : UInt8) : Bool := decide (97 ≤ (Pl.lowB c).toNat) && decide ((Pl.lowB c).toNat ≤ 122)
def Pl.digit (c : UInt8) : Bool := decide (48 ≤ c.toNat) && decide (c.toNat ≤ 57)
theorem Rt.letter (c : UInt8) (w : World) :
    Calls Tryz.prog 96 #[.int .u8 c.toNat] w fun e w' => e = .returned (.bool (Pl.letter c)) ∧ w' = w := by
  have cl := Sz.low c w
  have HL : Hid (Pl.letter c = (decide (97 ≤ (Pl.lowB c).toNat) && decide ((Pl.lowB c).toNat ≤ 122))) := rfl
  generalize (Pl.lowB c).toNat = m at *
  generalize Pl.letter c = b at *
  by_cases h1 : 97 ≤ m
  · by_cases h2 : m ≤ 122
    · have d1 : decide ((97 : Int) ≤ (m : Int)) = true := decide_eq_true (by omega)
      have d2 : decide ((m : Int) ≤ 122) = true := decide_eq_true (by omega)
      have hb : b = true := by rw [HL.out]; simp [h1, h2]
      subst hb
      clear HL
      go_enter Tryz.func96, Tryz.ntmps96
      go_wp2_with (go_at_call 79; refine cl.mono ?_; rintro e w1 ⟨rfl, rfl⟩)
      go_ret
      exact ⟨rfl, rfl⟩
    · have d1 : decide ((97 : Int) ≤ (m : Int)) = true := decide_eq_true (by omega)
      have d2 : decide ((m : Int) ≤ 122) = false := decide_eq_false (by omega)
      have hb : b = false := by rw [HL.out]; simp [h1, h2]
      subst hb
      clear HL
      go_enter Tryz.func96, Tryz.ntmps96
      go_wp2_with (go_at_call 79; refine cl.mono ?_; rintro e w1 ⟨rfl, rfl⟩)
      go_ret
      exact ⟨rfl, rfl⟩
  · have d1 : decide ((97 : Int) ≤ (m : Int)) = false := decide_eq_false (by omega)
    have hb : b = false := by rw [HL.out]; simp [h1]
    subst hb
    clear HL
    go_enter Tryz.func96, Tryz.ntmps96
    go_wp2_with (go_at_call 79; refine cl.mono ?_; rintro e w1 ⟨rfl, rfl⟩)
    go_ret
    exact ⟨rfl, rfl⟩
theorem Rt.digit (c : UInt8) (w : World) :
    Calls Tryz.prog 78 #[.int .u8 c.toNat] w fun e w' => e = .returned (.bool (Pl.digit c)) ∧ w' = w := by
  have HL : Hid (Pl.digit c = (decide (48 ≤ c.toNat) && decide (c.toNat ≤ 57))) := rfl
  generalize c.toNat = m at *
  generalize Pl.digit c = b at *
  by_cases h1 : 48 ≤ m
  · by_cases h2 : m ≤ 57
    · have hb : b = true := by rw [HL.out]; simp [h1, h2]
      subst hb
      clear HL
      go_enter Tryz.func78, Tryz.ntmps78
      go_wp2
      go_ret
      exact ⟨by simp; omega, rfl⟩
    · have hb : b = false := by rw [HL.out]; simp [h1, h2]
      subst hb
      clear HL
      go_enter Tryz.func78, Tryz.ntmps78
      go_wp2
      go_ret
      exact ⟨by simp; omega, rfl⟩
  · have hb : b = false := by rw [HL.out]; simp [h1]
    subst hb
    clear HL
    go_enter Tryz.func78, Tryz.ntmps78
    go_wp2
    go_ret
    exact ⟨by first | rfl | simp, rfl⟩
end Go.Proofs.YtboalkfagfgnpaaGreatDoor
/-
  PLAIN: a text as it stands in a JSON text, and as it is read again.
-/
namespace Go.Proofs.YtboalkfagfgnpaaGreatDoor
def Js.signs : List UInt8 := [32, 33, 35, 36, 37, 40, 41, 42, 43, 44, 45, 46, 47, 58, 59, 61, 63, 64, 91, 93, 94, 95, 123, 124, 125, 126]
def Js.stays (c : UInt8) : Bool := Pl.letter c || Pl.digit c || Js.signs.contains c
def Js.hex (n : Nat) : UInt8 := if n < 10 then UInt8.ofNat (48 + n) else UInt8.ofNat (87 + n)
/-- a byte that is no part of U+2028, U+2029 -/
def Js.byte (c : UInt8) : List UInt8 := if Js.stays c = true ∨ 128 ≤ c.toNat then [c] else [92, 117, 48, 48, Js.hex (c.toNat / 16), Js.hex (c.toNat % 16)]
/-- are they U+2028, U+2029? -/
def Js.line (c : UInt8) (r : List UInt8) : Bool := decide (c = 226) && decide (r[0]? = some 128) && (decide (r[1]? = some 168) || decide (r[1]? = some 169))
/-- Escape of what is normed; k bytes are passed over first -/
def Js.escK : Nat → List UInt8 → List UInt8
  | _, [] => []
  | k + 1, _ :: r => Js.escK k r
  | 0, c :: r => if Js.line c r = true then [92, 117, 50, 48, 50, 48 + (r.getD 1 0 - 160)] ++ Js.escK 2 r else Js.byte c ++ Js.escK 0 r
def Js.escS (l : List UInt8) : List UInt8 := Js.escK 0 l
def Js.esc (l : List UInt8) : List UInt8 := Js.escS (Pl.normL l)
theorem Js.escK_drop : ∀ (k : Nat) (l : List UInt8), Js.escK k l = Js.escK 0 (l.drop k)
  | 0, l => rfl
  | k + 1, [] => by simp [Js.escK]
  | k + 1, c :: r => by rw [Js.escK, Js.escK_drop k r, List.drop_succ_cons]
theorem Js.escS_nil : Js.escS [] = [] := rfl
theorem Js.escS_line {c : UInt8} {r : List UInt8} (h : Js.line c r = true) : Js.escS (c :: r) = [92, 117, 50, 48, 50, 48 + (r.getD 1 0 - 160)] ++ Js.escS (r.drop 2) := by
  unfold Js.escS
  rw [Js.escK, if_pos h, Js.escK_drop 2]
theorem Js.escS_byte {c : UInt8} {r : List UInt8} (h : Js.line c r = false) : Js.escS (c :: r) = Js.byte c ++ Js.escS r := by
  unfold Js.escS
  rw [Js.escK, if_neg (by rw [h]; exact Bool.false_ne_true)]
theorem Js.line_parts {c : UInt8} {r : List UInt8} (h : Js.line c r = true) : c = 226 ∧ ∃ t, r = 128 :: 168 :: t ∨ r = 128 :: 169 :: t := by
  unfold Js.line at h
  simp only [Bool.and_eq_true, Bool.or_eq_true, decide_eq_true_eq] at h
  obtain ⟨⟨h1, h2⟩, h3⟩ := h
  refine ⟨h1, ?_⟩
  match r, h2, h3 with
  | a :: b :: t, h2, h3 =>
    simp only [List.getElem?_cons_zero, Option.some.injEq, List.getElem?_cons_succ] at h2 h3
    subst h2
    rcases h3 with rfl | rfl
    · exact ⟨t, .inl rfl⟩
    · exact ⟨t, .inr rfl⟩
  | [a], _, h3 => simp at h3
  | [], h2, _ => simp at h2
theorem Js.byte_len (c : UInt8) : 1 ≤ (Js.byte c).length ∧ (Js.byte c).length ≤ 6 := by
  unfold Js.byte
  split <;> simp
theorem Js.escK_len : ∀ (k : Nat) (l : List UInt8), (Js.escK k l).length ≤ 6 * l.length
  | _, [] => by cases ‹Nat› <;> simp [Js.escK]
  | k + 1, c :: r => by
    rw [Js.escK, List.length_cons]
    have := Js.escK_len k r
    omega
  | 0, c :: r => by
    rw [Js.escK]
    split
    · have := Js.escK_len 2 r
      simp only [List.length_append, List.length_cons, List.length_nil]
      omega
    · have h1 := Js.escK_len 0 r
      have h2 := (Js.byte_len c).2
      simp only [List.length_append, List.length_cons]
      omega
theorem Js.esc_len (l : List UInt8) : (Js.esc l).length ≤ 18 * l.length := by
  have h1 := Js.escK_len 0 (Pl.normL l)
  have h2 := Pl.norm_short l
  show (Js.escK 0 (Pl.normL l)).length ≤ _
  omega
/-- four digits of sixteen -/
def Js.four : List UInt8 → Option (Nat × List UInt8)
  | a :: b :: c :: d :: r => if Pl.dig a < 16 ∧ Pl.dig b < 16 ∧ Pl.dig c < 16 ∧ Pl.dig d < 16 then some (((Pl.dig a * 16 + Pl.dig b) * 16 + Pl.dig c) * 16 + Pl.dig d, r) else none
  | _ => none
/-- behind a '\u': two surrogates are one sign -/
def Js.uni (r : List UInt8) : Option (List UInt8 × List UInt8) :=
  match Js.four r with
  | none => none
  | some (x, r1) =>
    if 55296 ≤ x ∧ x ≤ 56319 then
      (match r1 with
      | b :: u :: r2 => if b = 92 ∧ u = 117 then
          (match Js.four r2 with
          | none => none
          | some (y, r3) => if 56320 ≤ y ∧ y ≤ 57343 then some (Pl.runeL (65536 + (x - 55296) * 1024 + (y - 56320)), r3) else none)
        else none
      | _ => none)
    else if 56320 ≤ x ∧ x ≤ 57343 then none
    else some (if x = 0 then [0] else Pl.runeL x, r1)
/-- a sign behind a backslash -/
def Js.escaped : List UInt8 → Option (List UInt8 × List UInt8)
  | [] => none
  | c :: r =>
    if c = 34 ∨ c = 92 ∨ c = 47 then some ([c], r)
    else if c = 98 then some ([8], r)
    else if c = 102 then some ([12], r)
    else if c = 110 then some ([10], r)
    else if c = 114 then some ([13], r)
    else if c = 116 then some ([9], r)
    else if c = 117 then Js.uni r
    else none
/-- a text behind its quote -/
def Js.textF : Nat → List UInt8 → Option (List UInt8 × List UInt8)
  | 0, _ => none
  | _ + 1, [] => none
  | f + 1, c :: r =>
    if c = 34 then some ([], r)
    else if c = 92 then
      (match Js.escaped r with
      | none => none
      | some (b, r1) => (Js.textF f r1).map fun p => (b ++ p.1, p.2))
    else if c.toNat < 32 ∨ Pl.sgn (c :: r) = 0 then none
    else (Js.textF f ((c :: r).drop (Pl.sgn (c :: r)))).map fun p => ((c :: r).take (Pl.sgn (c :: r)) ++ p.1, p.2)
def Js.text (l : List UInt8) : Option (List UInt8 × List UInt8) := Js.textF l.length l
theorem Js.four_len {r r1 : List UInt8} {x : Nat} (h : Js.four r = some (x, r1)) : r.length = r1.length + 4 ∧ x < 65536 ∧ r1 = r.drop 4 := by
  match r, h with
  | a :: b :: c :: d :: r, h =>
    rw [Js.four] at h
    split at h
    · rename_i hd
      simp only [Option.some.injEq, Prod.mk.injEq] at h
      obtain ⟨h1, h2⟩ := h
      subst h2
      refine ⟨by simp, by omega, rfl⟩
    · cases h
theorem Js.uni_len {r b r1 : List UInt8} (h : Js.uni r = some (b, r1)) : r1.length < r.length ∧ b.length ≤ 4 ∧ 1 ≤ b.length ∧ ∃ k, r1 = r.drop k := by
  unfold Js.uni at h
  split at h
  · cases h
  · rename_i x r0 h4
    obtain ⟨q1, q2, q3⟩ := Js.four_len h4
    split at h
    · split at h
      · rename_i _ b0 u0 r2
        split at h
        · split at h
          · cases h
          · rename_i y r3 h5
            obtain ⟨p1, p2, p3⟩ := Js.four_len h5
            split at h
            · simp only [Option.some.injEq, Prod.mk.injEq] at h
              obtain ⟨e1, e2⟩ := h
              subst e1 e2
              refine ⟨by simp only [List.length_cons] at q1; omega, Pl.runeL_len _, ?_, 10, ?_⟩
              · unfold Pl.runeL
                repeat' split
                all_goals simp [Pl.fffd]
              · rw [p3, show r.drop 10 = ((r.drop 4).drop 2).drop 4 by rw [List.drop_drop, List.drop_drop], ← q3]
                rfl
            · cases h
        · cases h
      · cases h
    · split at h
      · cases h
      · simp only [Option.some.injEq, Prod.mk.injEq] at h
        obtain ⟨e1, e2⟩ := h
        subst e2
        refine ⟨by omega, ?_, ?_, 4, q3⟩
        · rw [← e1]
          split
          · simp
          · exact Pl.runeL_len _
        · rw [← e1]
          split
          · simp
          · unfold Pl.runeL
            repeat' split
            all_goals simp [Pl.fffd]
theorem Js.escaped_len {r b r1 : List UInt8} (h : Js.escaped r = some (b, r1)) : r1.length < r.length ∧ b.length ≤ 4 ∧ 1 ≤ b.length ∧ ∃ k, r1 = r.drop k := by
  cases r with
  | nil => cases h
  | cons c r =>
    rw [Js.escaped] at h
    repeat' split at h
    all_goals first
      | (cases h; done)
      | (simp only [Option.some.injEq, Prod.mk.injEq] at h; obtain ⟨e1, e2⟩ := h; subst e1; subst e2; exact ⟨by simp, by simp, by simp, 1, rfl⟩)
      | (obtain ⟨p1, p2, p3, k, p4⟩ := Js.uni_len h; exact ⟨by simp only [List.length_cons]; omega, p2, p3, k + 1, p4⟩)
theorem Js.textF_fuel : ∀ (f g : Nat) (l : List UInt8), l.length ≤ f → l.length ≤ g → Js.textF f l = Js.textF g l
  | 0, 0, _, _, _ => rfl
  | 0, g + 1, [], _, _ => rfl
  | f + 1, 0, [], _, _ => rfl
  | f + 1, g + 1, [], _, _ => rfl
  | f + 1, g + 1, c :: r, h1, h2 => by
    simp only [List.length_cons] at h1 h2
    unfold Js.textF
    split
    · rfl
    · split
      · split
        · rfl
        · rename_i b r1 he
          have := (Js.escaped_len he).1
          rw [Js.textF_fuel f g r1 (by omega) (by omega)]
      · split
        · rfl
        · rename_i hs
          have hp : 1 ≤ Pl.sgn (c :: r) := by omega
          rw [Js.textF_fuel f g _ (by rw [List.length_drop, List.length_cons]; omega) (by rw [List.length_drop, List.length_cons]; omega)]
  | 0, _, _ :: _, h1, _ => by simp at h1
  | _ + 1, 0, _ :: _, _, h2 => by simp at h2
end Go.Proofs.YtboalkfagfgnpaaGreatDoor
/-
  PLAIN: JSON texts read: values.
-/
namespace Go.Proofs.YtboalkfagfgnpaaGreatDoor
def Js.blank (c : UInt8) : Bool := decide (c = 32) || decide (c = 9) || decide (c = 10) || decide (c = 13)
def Js.ws (l : List UInt8) : List UInt8 := l.dropWhile Js.blank
/-- a sign behind blanks -/
def Js.is (c : UInt8) (l : List UInt8) : Option (List UInt8) :=
  match Js.ws l with
  | [] => none
  | d :: r => if d = c then some r else none
def Js.leaf (k x : Int) (b : Nat) (s : ByteArray) : Vt := .mk k x b s 0 (fun _ => .nil) 0 (fun _ => ⟨#[]⟩)
def Js.node (k : Int) (ks : List ByteArray) (L : List Vt) : Vt := .mk k 0 0 ⟨#[]⟩ L.length (fun i => L.getD i .nil) ks.length (fun j => ks.getD j ⟨#[]⟩)
/-- a number's digits, and what stands behind them -/
def Js.numOf (neg : Bool) (ds r : List UInt8) : Option (Vt × List UInt8) :=
  if ds = [] ∨ (1 < ds.length ∧ ds.head? = some 48) ∨ 9007199254740991 < Pl.val 10 ds ∨ r.head? = some 46 ∨ r.head? = some 101 ∨ r.head? = some 69 then none
  else if neg = true ∧ Pl.val 10 ds = 0 then some (Js.leaf 3 0 9223372036854775808 ⟨#[]⟩, r)
  else some (Js.leaf 2 (if neg then -(Pl.val 10 ds : Int) else (Pl.val 10 ds : Int)) 0 ⟨#[]⟩, r)
def Js.number (l : List UInt8) : Option (Vt × List UInt8) :=
  if l.head? = some 45 then Js.numOf true ((l.drop 1).takeWhile Pl.digit) ((l.drop 1).dropWhile Pl.digit) else Js.numOf false (l.takeWhile Pl.digit) (l.dropWhile Pl.digit)
/-- a key and its ':', where there are keys -/
def Js.key (rec : Bool) (l : List UInt8) : Option (List ByteArray × List UInt8) :=
  if rec = true then
    (match Js.is 34 l with
    | none => none
    | some r =>
      match Js.text r with
      | none => none
      | some (k, r1) =>
        match Js.is 58 r1 with
        | none => none
        | some r2 => some ([⟨k.toArray⟩], r2))
  else some ([], l)
/-- parts, up to the end's sign -/
def Js.itemsF (val : List UInt8 → Option (Vt × List UInt8)) (rec : Bool) (e : UInt8) : Nat → List UInt8 → Option ((List ByteArray × List Vt) × List UInt8)
  | 0, _ => none
  | f + 1, l =>
    match Js.key rec l with
    | none => none
    | some (ks, r1) =>
      match val r1 with
      | none => none
      | some (t, r2) =>
        match Js.is e r2 with
        | some r3 => some ((ks, [t]), r3)
        | none =>
          match Js.is 44 r2 with
          | none => none
          | some r3 => (Js.itemsF val rec e f r3).map fun p => ((ks ++ p.1.1, t :: p.1.2), p.2)
def Js.list (val : List UInt8 → Option (Vt × List UInt8)) (rec : Bool) (e : UInt8) (l : List UInt8) : Option ((List ByteArray × List Vt) × List UInt8) :=
  match Js.is e l with
  | some r => some (([], []), r)
  | none => Js.itemsF val rec e l.length l
/-- a value that begins here; 'val': one within it -/
def Js.at (val : List UInt8 → Option (Vt × List UInt8)) (l : List UInt8) : Option (Vt × List UInt8) :=
  if l = [] then none
  else if Pl.pre [110, 117, 108, 108] l = true then some (Js.leaf 0 0 0 ⟨#[]⟩, l.drop 4)
  else if Pl.pre [116, 114, 117, 101] l = true then some (Js.leaf 1 1 0 ⟨#[]⟩, l.drop 4)
  else if Pl.pre [102, 97, 108, 115, 101] l = true then some (Js.leaf 1 0 0 ⟨#[]⟩, l.drop 5)
  else if l.head? = some 34 then (Js.text (l.drop 1)).map fun p => (Js.leaf 4 0 0 ⟨p.1.toArray⟩, p.2)
  else if l.head? = some 91 then (Js.list val false 93 (l.drop 1)).map fun p => (Js.node 5 p.1.1 p.1.2, p.2)
  else if l.head? = some 123 then (Js.list val true 125 (l.drop 1)).map fun p => (Js.node 6 p.1.1 p.1.2, p.2)
  else Js.number l
def Js.value : Nat → List UInt8 → Option (Vt × List UInt8)
  | 0, _ => none
  | d + 1, l => Js.at (Js.value d) (Js.ws l)
/-- Get -/
def Js.get (l : List UInt8) : Option Vt :=
  if 65536 < l.length then none
  else match Js.value 8 l with
    | none => none
    | some (t, r) => if Js.ws r = [] ∧ t.may = true then some t else none
theorem Js.ws_len (l : List UInt8) : (Js.ws l).length ≤ l.length := (List.dropWhile_sublist _).length_le
theorem Js.is_len {c : UInt8} {l r : List UInt8} (h : Js.is c l = some r) : r.length < l.length := by
  have hw := Js.ws_len l
  unfold Js.is at h
  split at h
  · cases h
  · rename_i d r' hr
    split at h
    · injection h with h
      subst h
      rw [hr, List.length_cons] at hw
      omega
    · cases h
theorem Js.textF_len : ∀ (f : Nat) (l b r : List UInt8), Js.textF f l = some (b, r) → r.length < l.length ∧ b.length ≤ 4 * l.length
  | 0, _, _, _, h => by cases h
  | f + 1, [], _, _, h => by cases h
  | f + 1, c :: t, b, r, h => by
    rw [Js.textF] at h
    split at h
    · simp only [Option.some.injEq, Prod.mk.injEq] at h
      obtain ⟨rfl, rfl⟩ := h
      exact ⟨by simp, by simp⟩
    · split at h
      · split at h
        · cases h
        · rename_i b1 r1 he
          obtain ⟨⟨q1, q2⟩, hq, e⟩ := Option.map_eq_some_iff.1 h
          simp only [Prod.mk.injEq] at e
          obtain ⟨rfl, rfl⟩ := e
          have h1 := Js.escaped_len he
          have h2 := Js.textF_len f r1 q1 q2 hq
          simp only [List.length_append, List.length_cons]
          omega
      · split at h
        · cases h
        · rename_i hs
          obtain ⟨⟨q1, q2⟩, hq, e⟩ := Option.map_eq_some_iff.1 h
          simp only [Prod.mk.injEq] at e
          obtain ⟨rfl, rfl⟩ := e
          have h2 := Js.textF_len f _ q1 q2 hq
          have h3 := Pl.sgn_le (c :: t)
          rw [List.length_drop] at h2
          simp only [List.length_append, List.length_take, List.length_cons] at h2 h3 ⊢
          omega
theorem Js.text_len {l b r : List UInt8} (h : Js.text l = some (b, r)) : r.length < l.length ∧ b.length ≤ 4 * l.length := Js.textF_len _ _ _ _ h
theorem Js.numOf_rest {neg : Bool} {ds r r' : List UInt8} {t : Vt} (h : Js.numOf neg ds r = some (t, r')) : ds ≠ [] ∧ r' = r := by
  unfold Js.numOf at h
  split at h
  · cases h
  · rename_i hd
    refine ⟨fun q => hd (.inl q), ?_⟩
    split at h
    all_goals
      simp only [Option.some.injEq, Prod.mk.injEq] at h
      exact h.2.symm
theorem Js.digs_len (l : List UInt8) (h : l.takeWhile Pl.digit ≠ []) : (l.dropWhile Pl.digit).length < l.length := by
  have e : (l.takeWhile Pl.digit ++ l.dropWhile Pl.digit).length = l.length := by rw [List.takeWhile_append_dropWhile]
  have := List.length_pos_iff.2 h
  rw [List.length_append] at e
  omega
theorem Js.number_len {l r : List UInt8} {t : Vt} (h : Js.number l = some (t, r)) : r.length < l.length := by
  unfold Js.number at h
  split at h
  · obtain ⟨h1, rfl⟩ := Js.numOf_rest h
    have := Js.digs_len _ h1
    rw [List.length_drop] at this
    omega
  · obtain ⟨h1, rfl⟩ := Js.numOf_rest h
    exact Js.digs_len _ h1
theorem Js.key_len {rec : Bool} {l r : List UInt8} {ks : List ByteArray} (h : Js.key rec l = some (ks, r)) : r.length ≤ l.length ∧ ks.length = if rec = true then 1 else 0 := by
  unfold Js.key at h
  split at h
  · rename_i hr
    split at h
    · cases h
    · rename_i r0 h0
      split at h
      · cases h
      · rename_i k r1 h1
        split at h
        · cases h
        · rename_i r2 h2
          simp only [Option.some.injEq, Prod.mk.injEq] at h
          obtain ⟨rfl, rfl⟩ := h
          have e0 := Js.is_len h0
          have e1 := (Js.text_len h1).1
          have e2 := Js.is_len h2
          exact ⟨by omega, by rw [if_pos hr]; rfl⟩
  · rename_i hr
    simp only [Option.some.injEq, Prod.mk.injEq] at h
    obtain ⟨rfl, rfl⟩ := h
    exact ⟨Nat.le_refl _, by rw [if_neg hr]; rfl⟩
theorem Js.itemsF_len {val : List UInt8 → Option (Vt × List UInt8)} (hv : ∀ l t r, val l = some (t, r) → r.length < l.length) (rec : Bool) (e : UInt8) : ∀ (f : Nat) (l : List UInt8) (p : List ByteArray × List Vt) (r : List UInt8), Js.itemsF val rec e f l = some (p, r) → r.length < l.length ∧ (p.1.length = if rec = true then p.2.length else 0) ∧ 1 ≤ p.2.length
  | 0, _, _, _, h => by cases h
  | f + 1, l, p, r, h => by
    rw [Js.itemsF] at h
    split at h
    · cases h
    · rename_i ks r1 h1
      have e1 := Js.key_len h1
      split at h
      · cases h
      · rename_i t r2 h2
        have e2 := hv _ _ _ h2
        split at h
        · rename_i r3 h3
          have e3 := Js.is_len h3
          simp only [Option.some.injEq, Prod.mk.injEq] at h
          obtain ⟨rfl, rfl⟩ := h
          refine ⟨by omega, ?_, by simp⟩
          rw [e1.2]
          rfl
        · split at h
          · cases h
          · rename_i r3 h3
            have e3 := Js.is_len h3
            obtain ⟨⟨q1, q2⟩, hq, e⟩ := Option.map_eq_some_iff.1 h
            simp only [Prod.mk.injEq] at e
            obtain ⟨rfl, rfl⟩ := e
            have e4 := Js.itemsF_len hv rec e f r3 q1 q2 hq
            refine ⟨by omega, ?_, by simp⟩
            have e1 := e1.2
            have e4 := e4.2.1
            simp only [List.length_append, List.length_cons]
            split at e1
            · rename_i hr
              rw [if_pos hr] at e4
              rw [if_pos hr]
              omega
            · rename_i hr
              rw [if_neg hr] at e4
              rw [if_neg hr]
              omega
theorem Js.list_len {val : List UInt8 → Option (Vt × List UInt8)} (hv : ∀ l t r, val l = some (t, r) → r.length < l.length) {rec : Bool} {e : UInt8} {l : List UInt8} {p : List ByteArray × List Vt} {r : List UInt8} (h : Js.list val rec e l = some (p, r)) : r.length < l.length ∧ (p.1.length = if rec = true then p.2.length else 0) := by
  unfold Js.list at h
  split at h
  · rename_i r0 h0
    simp only [Option.some.injEq, Prod.mk.injEq] at h
    obtain ⟨rfl, rfl⟩ := h
    exact ⟨Js.is_len h0, by split <;> rfl⟩
  · have := Js.itemsF_len hv rec e _ _ _ _ h
    exact ⟨this.1, this.2.1⟩
theorem Js.at_len {val : List UInt8 → Option (Vt × List UInt8)} (hv : ∀ l t r, val l = some (t, r) → r.length < l.length) {l r : List UInt8} {t : Vt} (h : Js.at val l = some (t, r)) : r.length < l.length := by
  unfold Js.at at h
  split at h
  · cases h
  · rename_i hne
    have hpos : 0 < l.length := List.length_pos_iff.2 hne
    have hd : ∀ n, 0 < n → (l.drop n).length < l.length := fun n hn => by rw [List.length_drop]; omega
    split at h
    · simp only [Option.some.injEq, Prod.mk.injEq] at h
      rw [← h.2]; exact hd 4 (by decide)
    · split at h
      · simp only [Option.some.injEq, Prod.mk.injEq] at h
        rw [← h.2]; exact hd 4 (by decide)
      · split at h
        · simp only [Option.some.injEq, Prod.mk.injEq] at h
          rw [← h.2]; exact hd 5 (by decide)
        · have h1 := hd 1 (by decide)
          split at h
          · obtain ⟨⟨q1, q2⟩, hq, e⟩ := Option.map_eq_some_iff.1 h
            simp only [Prod.mk.injEq] at e
            have := (Js.text_len hq).1
            rw [← e.2]
            omega
          · split at h
            · obtain ⟨⟨q1, q2⟩, hq, e⟩ := Option.map_eq_some_iff.1 h
              simp only [Prod.mk.injEq] at e
              have := (Js.list_len hv hq).1
              rw [← e.2]
              omega
            · split at h
              · obtain ⟨⟨q1, q2⟩, hq, e⟩ := Option.map_eq_some_iff.1 h
                simp only [Prod.mk.injEq] at e
                have := (Js.list_len hv hq).1
                rw [← e.2]
                omega
              · exact Js.number_len h
theorem Js.value_len : ∀ (d : Nat) (l : List UInt8) (t : Vt) (r : List UInt8), Js.value d l = some (t, r) → r.length < l.length
  | 0, _, _, _, h => by cases h
  | d + 1, l, t, r, h => by
    rw [Js.value] at h
    have h1 := Js.at_len (Js.value_len d) h
    have h2 := Js.ws_len l
    omega
/-- as many rounds as there are bytes are enough -/
theorem Js.itemsF_fuel {val : List UInt8 → Option (Vt × List UInt8)} (hv : ∀ l t r, val l = some (t, r) → r.length < l.length) (rec : Bool) (e : UInt8) : ∀ (f g : Nat) (l : List UInt8), l.length ≤ f → l.length ≤ g → Js.itemsF val rec e f l = Js.itemsF val rec e g l := by
  intro f
  induction f with
  | zero =>
    intro g l h1 _
    have : l = [] := List.length_eq_zero_iff.1 (by omega)
    subst this
    cases g with
    | zero => rfl
    | succ g =>
      rw [Js.itemsF, Js.itemsF]
      split
      · rfl
      · rename_i ks r1 h1
        have e1 := (Js.key_len h1).1
        have : r1 = [] := List.length_eq_zero_iff.1 (by simpa using e1)
        subst this
        split
        · rfl
        · rename_i t r2 h2
          have := hv _ _ _ h2
          simp at this
  | succ f ih =>
    intro g l h1 h2
    cases g with
    | zero =>
      have : l = [] := List.length_eq_zero_iff.1 (by omega)
      subst this
      rw [Js.itemsF, Js.itemsF]
      split
      · rfl
      · rename_i ks r1 h1
        have e1 := (Js.key_len h1).1
        have : r1 = [] := List.length_eq_zero_iff.1 (by simpa using e1)
        subst this
        split
        · rfl
        · rename_i t r2 h2
          have := hv _ _ _ h2
          simp at this
    | succ g =>
      rw [Js.itemsF, Js.itemsF]
      split
      · rfl
      · rename_i ks r1 h3
        have e1 := (Js.key_len h3).1
        split
        · rfl
        · rename_i t r2 h4
          have e2 := hv _ _ _ h4
          split
          · rfl
          · split
            · rfl
            · rename_i r3 h5
              have e3 := Js.is_len h5
              rw [ih g r3 (by omega) (by omega)]
end Go.Proofs.YtboalkfagfgnpaaGreatDoor
/-
  PLAIN: addresses: their scheme; what may begin one, what may be a part of one.
-/
namespace Go.Proofs.YtboalkfagfgnpaaGreatDoor
def Ug.gap (c : UInt8) : Bool := decide (c = 9) || decide (c = 10) || decide (c = 13)
def Ug.strip (l : List UInt8) : List UInt8 := (l.dropWhile fun c => decide (c.toNat ≤ 32)).filter fun c => !Ug.gap c
def Ug.sign (c : UInt8) : Bool := Pl.letter c || (Pl.digit c || decide (c = 43) || decide (c = 45) || decide (c = 46))
/-- the scheme of what is left: letters and signs, then a ':' -/
def Ug.of (t : List UInt8) : Option (List UInt8) :=
  if Pl.letter (t.getD 0 0) = true ∧ t[(t.takeWhile Ug.sign).length]? = some 58 then some (Pl.lowL (t.takeWhile Ug.sign)) else none
def Ug.scheme (l : List UInt8) : Option (List UInt8) := Ug.of (Ug.strip l)
def Ug.http : List UInt8 := [104, 116, 116, 112]
def Ug.https : List UInt8 := [104, 116, 116, 112, 115]
def Ug.mailto : List UInt8 := [109, 97, 105, 108, 116, 111]
def Ug.tel : List UInt8 := [116, 101, 108]
def Ug.known (s : List UInt8) : Bool := decide (s = Ug.http) || decide (s = Ug.https) || decide (s = Ug.mailto) || decide (s = Ug.tel)
def Ug.plain : List UInt8 := [45, 46, 95, 126]
def Ug.more : List UInt8 := [45, 46, 95, 126, 58, 47, 63, 35, 91, 93, 64, 33, 36, 38, 42, 43, 44, 59, 61, 37]
def Ug.hex (n : Nat) : UInt8 := if n < 10 then UInt8.ofNat (48 + n) else UInt8.ofNat (55 + n)
def Ug.stays (signs : List UInt8) (c : UInt8) : Bool := Pl.letter c || Pl.digit c || signs.contains c
def Ug.byte (signs : List UInt8) (c : UInt8) : List UInt8 := if Ug.stays signs c = true then [c] else [37, Ug.hex (c.toNat / 16), Ug.hex (c.toNat % 16)]
def Ug.pct (signs : List UInt8) (l : List UInt8) : List UInt8 := l.flatMap (Ug.byte signs)
def Ug.no : List UInt8 := [35, 90, 103, 111, 116, 109, 112, 108, 90]
def Ug.bad (l : List UInt8) : Prop := ∃ s, Ug.scheme l = some s ∧ Ug.known s = false
def Ug.start (l : List UInt8) : List UInt8 :=
  match Ug.scheme (Pl.normL l) with
  | some s => if Ug.known s = true then Ug.pct Ug.more (Pl.normL l) else Ug.no
  | none => Ug.pct Ug.more (Pl.normL l)
def Ug.part (l : List UInt8) : List UInt8 := Ug.pct Ug.plain (Pl.normL l)
/-- what holds of all bytes, held against each -/
theorem Ug.all {p : UInt8 → Bool} (h : (List.range 256).all (fun n => p (UInt8.ofNat n)) = true) (c : UInt8) : p c = true := by
  have := List.all_eq_true.1 h c.toNat (List.mem_range.2 c.toNat_lt)
  simpa using this
/-- a safe byte: neither below 33 nor from 127 on, no quote, no angle -/
def Ug.safe (c : UInt8) : Bool := decide (33 ≤ c.toNat) && decide (c.toNat < 127) && !decide (c = 34) && !decide (c = 39) && !decide (c = 60) && !decide (c = 62)
def Ug.sober (c : UInt8) : Bool := Ug.safe c && !decide (c = 58) && !decide (c = 47) && !decide (c = 63) && !decide (c = 35) && !decide (c = 38)
end Go.Proofs.YtboalkfagfgnpaaGreatDoor

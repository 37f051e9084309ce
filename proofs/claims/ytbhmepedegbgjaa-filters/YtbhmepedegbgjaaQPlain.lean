/-
  PLAIN: addresses: their scheme; what may begin one, what may be a part of one.
-/
import Derived.Test.YtbhmepedegbgjaaRefLet
namespace Go.Proofs.Ytbhmepedegbgjaa
def Ug.gap (c : UInt8) : Bool := decide (c = 9) || decide (c = 10) || decide (c = 13)
def Ug.strip (l : List UInt8) : List UInt8 := (l.dropWhile fun c => decide (c.toNat ≤ 32)).filter fun c => !Ug.gap c
def Ug.sign (c : UInt8) : Bool := Pl.letter c || (Pl.digit c || decide (c = 43) || decide (c = 45) || decide (c = 46))
/-- the scheme of what is left: letters and signs, then a ':' -/
def Ug.of (t : List UInt8) : Option (List UInt8) :=
  if Pl.letter (t.getD 0 0) = true ∧ t[(t.takeWhile Ug.sign).length]? = some 58 then some (Pl.lowL (t.takeWhile Ug.sign)) else none
def Ug.scheme (l : List UInt8) : Option (List UInt8) := Ug.of (Ug.strip l)
def Ug.http : List UInt8 := [104, 116, 116, 112]
def Ug.https : List UInt8 := [104, 116, 116, 112, 115]
def Ug.mailto : List UInt8 := [109, 97, 105, 108, 116, 111]
def Ug.tel : List UInt8 := [116, 101, 108]
def Ug.known (s : List UInt8) : Bool := decide (s = Ug.http) || decide (s = Ug.https) || decide (s = Ug.mailto) || decide (s = Ug.tel)
def Ug.plain : List UInt8 := [45, 46, 95, 126]
def Ug.more : List UInt8 := [45, 46, 95, 126, 58, 47, 63, 35, 91, 93, 64, 33, 36, 38, 42, 43, 44, 59, 61, 37]
def Ug.hex (n : Nat) : UInt8 := if n < 10 then UInt8.ofNat (48 + n) else UInt8.ofNat (55 + n)
def Ug.stays (signs : List UInt8) (c : UInt8) : Bool := Pl.letter c || Pl.digit c || signs.contains c
def Ug.byte (signs : List UInt8) (c : UInt8) : List UInt8 := if Ug.stays signs c = true then [c] else [37, Ug.hex (c.toNat / 16), Ug.hex (c.toNat % 16)]
def Ug.pct (signs : List UInt8) (l : List UInt8) : List UInt8 := l.flatMap (Ug.byte signs)
def Ug.no : List UInt8 := [35, 90, 103, 111, 116, 109, 112, 108, 90]
def Ug.bad (l : List UInt8) : Prop := ∃ s, Ug.scheme l = some s ∧ Ug.known s = false
def Ug.start (l : List UInt8) : List UInt8 :=
  match Ug.scheme (Pl.normL l) with
  | some s => if Ug.known s = true then Ug.pct Ug.more (Pl.normL l) else Ug.no
  | none => Ug.pct Ug.more (Pl.normL l)
def Ug.part (l : List UInt8) : List UInt8 := Ug.pct Ug.plain (Pl.normL l)
/-- what holds of all bytes, held against each -/
theorem Ug.all {p : UInt8 → Bool} (h : (List.range 256).all (fun n => p (UInt8.ofNat n)) = true) (c : UInt8) : p c = true := by
  have := List.all_eq_true.1 h c.toNat (List.mem_range.2 c.toNat_lt)
  simpa using this
theorem Ug.pct_append (s a b : List UInt8) : Ug.pct s (a ++ b) = Ug.pct s a ++ Ug.pct s b := by simp [Ug.pct]
theorem Ug.pct_cons (s : List UInt8) (c : UInt8) (l : List UInt8) : Ug.pct s (c :: l) = Ug.byte s c ++ Ug.pct s l := by simp [Ug.pct]
theorem Ug.byte_len (s : List UInt8) (c : UInt8) : 1 ≤ (Ug.byte s c).length ∧ (Ug.byte s c).length ≤ 3 := by
  unfold Ug.byte
  split <;> simp
theorem Ug.pct_len (s : List UInt8) : ∀ l : List UInt8, l.length ≤ (Ug.pct s l).length ∧ (Ug.pct s l).length ≤ 3 * l.length
  | [] => ⟨Nat.le_refl _, Nat.le_refl _⟩
  | c :: l => by
    have h1 := Ug.byte_len s c
    have h2 := Ug.pct_len s l
    rw [Ug.pct_cons, List.length_append, List.length_cons]
    omega
/-- what is told is told again as it is, if '%' is among the signs -/
theorem Ug.byte_more (c : UInt8) : ∀ d ∈ Ug.byte Ug.more c, Ug.stays Ug.more d = true := by
  have h := Ug.all (p := fun c => (Ug.byte Ug.more c).all fun d => Ug.stays Ug.more d) (by decide +kernel) c
  exact List.all_eq_true.1 h
theorem Ug.pct_more : ∀ l : List UInt8, ∀ d ∈ Ug.pct Ug.more l, Ug.stays Ug.more d = true := fun l d hd => by
  obtain ⟨c, _, hc⟩ := List.mem_flatMap.1 hd
  exact Ug.byte_more c d hc
theorem Ug.pct_stays {s : List UInt8} : ∀ {l : List UInt8}, (∀ d ∈ l, Ug.stays s d = true) → Ug.pct s l = l
  | [], _ => rfl
  | c :: l, h => by
    rw [Ug.pct_cons, Ug.pct_stays (fun d hd => h d (List.mem_cons_of_mem _ hd))]
    unfold Ug.byte
    rw [if_pos (h c List.mem_cons_self)]
    rfl
/-- a safe byte: neither below 33 nor from 127 on, no quote, no angle -/
def Ug.safe (c : UInt8) : Bool := decide (33 ≤ c.toNat) && decide (c.toNat < 127) && !decide (c = 34) && !decide (c = 39) && !decide (c = 60) && !decide (c = 62)
theorem Ug.more_safe (c : UInt8) (h : Ug.stays Ug.more c = true) : Ug.safe c = true ∧ Ug.gap c = false ∧ c.toNat < 128 := by
  have := Ug.all (p := fun c => !Ug.stays Ug.more c || (Ug.safe c && !Ug.gap c && decide (c.toNat < 128))) (by decide +kernel) c
  rw [h] at this
  simpa [Bool.and_eq_true, and_assoc] using this
def Ug.sober (c : UInt8) : Bool := Ug.safe c && !decide (c = 58) && !decide (c = 47) && !decide (c = 63) && !decide (c = 35) && !decide (c = 38)
theorem Ug.byte_part (c : UInt8) : ∀ d ∈ Ug.byte Ug.plain c, Ug.sober d = true := by
  have h := Ug.all (p := fun c => (Ug.byte Ug.plain c).all fun d => Ug.sober d) (by decide +kernel) c
  exact List.all_eq_true.1 h
theorem Ug.pct_part (l : List UInt8) : ∀ d ∈ Ug.pct Ug.plain l, Ug.sober d = true := fun d hd => by
  obtain ⟨c, _, hc⟩ := List.mem_flatMap.1 hd
  exact Ug.byte_part c d hc
/-- nothing is stripped off safe bytes -/
theorem Ug.strip_safe {l : List UInt8} (h : ∀ d ∈ l, 33 ≤ d.toNat) : Ug.strip l = l := by
  unfold Ug.strip
  have h1 : l.dropWhile (fun c => decide (c.toNat ≤ 32)) = l := by
    cases l with
    | nil => rfl
    | cons c l =>
      rw [List.dropWhile_cons, if_neg]
      have := h c List.mem_cons_self
      simp
      omega
  rw [h1, List.filter_eq_self]
  intro d hd
  have h2 := h d hd
  have h3 := Ug.all (p := fun c => !Ug.gap c || decide (c.toNat ≤ 32)) (by decide +kernel) d
  cases hg : Ug.gap d
  · rfl
  · rw [hg] at h3
    simp at h3
    omega
/-- without a ':' there is no scheme -/
theorem Ug.of_colon {t : List UInt8} (h : ∀ d ∈ t, d ≠ 58) : Ug.of t = none := by
  unfold Ug.of
  rw [if_neg]
  rintro ⟨_, q⟩
  exact h 58 (List.mem_of_getElem? q) rfl
end Go.Proofs.Ytbhmepedegbgjaa

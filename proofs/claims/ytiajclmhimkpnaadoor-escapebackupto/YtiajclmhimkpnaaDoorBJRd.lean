/-
  PLAIN: the landed reader's own way through a JSON text, and that it reads what Js.get reads.
-/
import Derived.Test.YtiajclmhimkpnaaDoorBVGettoJBack
import Derived.Test.YtiajclmhimkpnaaDoorBQPlaintoNorm
import Derived.Lib.RuneBytes
namespace Go.Proofs.YtiajclmhimkpnaaDoor
/-- behind a '\u': its number -/
def Jr.uni (r : List UInt8) : Option (Nat × List UInt8) :=
  match Js.four r with
  | none => none
  | some (x, r1) =>
    if x < 55296 ∨ 57344 ≤ x then some (x, r1)
    else if 56320 ≤ x then none
    else if Pl.pre [92, 117] r1 = true then
      (match Js.four (r1.drop 2) with
      | none => none
      | some (y, r3) => if y < 56320 ∨ 57344 ≤ y then none else some (65536 + (x - 55296) * 1024 + (y - 56320), r3))
    else none
def Jr.escaped : List UInt8 → Option (Nat × List UInt8)
  | [] => none
  | c :: r =>
    if c = 34 ∨ c = 92 ∨ c = 47 then some (c.toNat, r)
    else if c = 98 then some (8, r)
    else if c = 102 then some (12, r)
    else if c = 110 then some (10, r)
    else if c = 114 then some (13, r)
    else if c = 116 then some (9, r)
    else if c = 117 then Jr.uni r
    else none
def Jr.textF : Nat → List UInt8 → Option (List UInt8 × List UInt8)
  | 0, _ => none
  | _ + 1, [] => none
  | f + 1, c :: r =>
    if c = 34 then some ([], r)
    else if c = 92 then
      (match Jr.escaped r with
      | none => none
      | some (x, r1) => (Jr.textF f r1).map fun p => (Lib.encodeRune (x : Int) ++ p.1, p.2))
    else if c.toNat < 32 then none
    else (Jr.textF f r).map fun p => (c :: p.1, p.2)
def Jr.text (l : List UInt8) : Option (List UInt8 × List UInt8) := Jr.textF l.length l
def Jr.more : Nat → List UInt8 → Option (Nat × List UInt8)
  | n, [] => some (n, [])
  | n, c :: r => if 0 < n ∧ Pl.digit c = true then (if 9007199254740991 < n * 10 + Pl.dig c then none else Jr.more (n * 10 + Pl.dig c) r) else some (n, c :: r)
def Jr.digits : List UInt8 → Option (Nat × List UInt8)
  | [] => none
  | c :: r => if Pl.digit c = true then Jr.more (Pl.dig c) r else none
def Jr.num (neg : Bool) (n : Nat) : Vt := if neg = true ∧ n = 0 then Js.leaf 3 0 9223372036854775808 ⟨#[]⟩ else Js.leaf 2 (if neg then -(n : Int) else (n : Int)) 0 ⟨#[]⟩
def Jr.number (l : List UInt8) : Option (Vt × List UInt8) :=
  if l.head? = some 45 then (Jr.digits (l.drop 1)).map fun p => (Jr.num true p.1, p.2) else (Jr.digits l).map fun p => (Jr.num false p.1, p.2)
def Jr.key (rec : Bool) (l : List UInt8) : Option (List ByteArray × List UInt8) :=
  if rec = true then
    (match Js.is 34 l with
    | none => none
    | some r =>
      match Jr.text r with
      | none => none
      | some (k, r1) =>
        match Js.is 58 r1 with
        | none => none
        | some r2 => some ([⟨k.toArray⟩], r2))
  else some ([], l)
def Jr.itemsF (val : List UInt8 → Option (Vt × List UInt8)) (rec : Bool) (e : UInt8) : Nat → List UInt8 → Option ((List ByteArray × List Vt) × List UInt8)
  | 0, _ => none
  | f + 1, l =>
    match Jr.key rec l with
    | none => none
    | some (ks, r1) =>
      match val r1 with
      | none => none
      | some (t, r2) =>
        match Js.is e r2 with
        | some r3 => some ((ks, [t]), r3)
        | none =>
          match Js.is 44 r2 with
          | none => none
          | some r3 => (Jr.itemsF val rec e f r3).map fun p => ((ks ++ p.1.1, t :: p.1.2), p.2)
def Jr.list (val : List UInt8 → Option (Vt × List UInt8)) (rec : Bool) (e : UInt8) (l : List UInt8) : Option ((List ByteArray × List Vt) × List UInt8) :=
  match Js.is e l with
  | some r => some (([], []), r)
  | none => Jr.itemsF val rec e l.length (Js.ws l)
def Jr.at (val : List UInt8 → Option (Vt × List UInt8)) (l : List UInt8) : Option (Vt × List UInt8) :=
  if l.head? = some 110 then (if Pl.pre [110, 117, 108, 108] l = true then some (Js.leaf 0 0 0 ⟨#[]⟩, l.drop 4) else none)
  else if l.head? = some 116 then (if Pl.pre [116, 114, 117, 101] l = true then some (Js.leaf 1 1 0 ⟨#[]⟩, l.drop 4) else none)
  else if l.head? = some 102 then (if Pl.pre [102, 97, 108, 115, 101] l = true then some (Js.leaf 1 0 0 ⟨#[]⟩, l.drop 5) else none)
  else if l.head? = some 34 then (Jr.text (l.drop 1)).map fun p => (Js.leaf 4 0 0 ⟨p.1.toArray⟩, p.2)
  else if l.head? = some 91 then (Jr.list val false 93 (l.drop 1)).map fun p => (Js.node 5 p.1.1 p.1.2, p.2)
  else if l.head? = some 123 then (Jr.list val true 125 (l.drop 1)).map fun p => (Js.node 6 p.1.1 p.1.2, p.2)
  else Jr.number l
def Jr.value : Nat → List UInt8 → Option (Vt × List UInt8)
  | 0, _ => none
  | d + 1, l => Jr.at (Jr.value d) (Js.ws l)
def Jr.read (l : List UInt8) : Option Vt :=
  match Jr.value 8 l with
  | none => none
  | some (t, r) => if Js.ws r = [] then some t else none
/-- Get, as it landed -/
def Jr.get (l : List UInt8) : Option Vt :=
  if 65536 < l.length ∨ Pl.mayL l = false then none
  else match Jr.read l with
    | none => none
    | some t => if t.may = true then some t else none
/-! what is read of ASCII turns May of the rest in nothing -/
def Jr.Asc (l r : List UInt8) : Prop := ∃ a, l = a ++ r ∧ ∀ c ∈ a, c ≠ 0 ∧ c.toNat < 128
theorem Jr.Asc.refl (l : List UInt8) : Jr.Asc l l := ⟨[], rfl, fun _ h => absurd h List.not_mem_nil⟩
theorem Jr.Asc.trans {a b c : List UInt8} (h : Jr.Asc a b) (k : Jr.Asc b c) : Jr.Asc a c := by
  obtain ⟨x, rfl, hx⟩ := h
  obtain ⟨y, rfl, hy⟩ := k
  refine ⟨x ++ y, by rw [List.append_assoc], fun c hc => ?_⟩
  rcases List.mem_append.1 hc with q | q
  · exact hx c q
  · exact hy c q
theorem Jr.Asc.cons {c : UInt8} {l r : List UInt8} (hc : c ≠ 0 ∧ c.toNat < 128) (h : Jr.Asc l r) : Jr.Asc (c :: l) r :=
  Jr.Asc.trans ⟨[c], rfl, fun d hd => by rw [List.mem_singleton.1 hd]; exact hc⟩ h
theorem Jr.Asc.may {l r : List UInt8} (h : Jr.Asc l r) : Pl.mayL l = Pl.mayL r := by
  obtain ⟨a, rfl, ha⟩ := h
  exact Pl.may_ascii a r ha
theorem Jr.dig_low (c : UInt8) (h : Pl.dig c < 16) : c ≠ 0 ∧ c.toNat < 128 := by
  have := Ug.all (p := fun c => !decide (Pl.dig c < 16) || (decide (c ≠ 0) && decide (c.toNat < 128))) (by decide +kernel) c
  rw [decide_eq_true h] at this
  simpa using this
theorem Jr.digit_dig (c : UInt8) (h : Pl.digit c = true) : Pl.dig c < 10 ∧ (c.toNat : Int) - 48 = (Pl.dig c : Int) := by
  have := Ug.all (p := fun c => !Pl.digit c || (decide (Pl.dig c < 10) && decide ((c.toNat : Int) - 48 = (Pl.dig c : Int)))) (by decide +kernel) c
  rw [h] at this
  simpa using this
theorem Jr.blank_low (c : UInt8) (h : Js.blank c = true) : c ≠ 0 ∧ c.toNat < 128 := by
  have := Ug.all (p := fun c => !Js.blank c || (decide (c ≠ 0) && decide (c.toNat < 128))) (by decide +kernel) c
  rw [h] at this
  simpa using this
theorem Jr.four_asc {r r1 : List UInt8} {x : Nat} (h : Js.four r = some (x, r1)) : Jr.Asc r r1 := by
  match r, h with
  | a :: b :: c :: d :: r, h =>
    rw [Js.four] at h
    split at h
    · rename_i hd
      simp only [Option.some.injEq, Prod.mk.injEq] at h
      obtain ⟨-, rfl⟩ := h
      exact .cons (Jr.dig_low a hd.1) (.cons (Jr.dig_low b hd.2.1) (.cons (Jr.dig_low c hd.2.2.1) (.cons (Jr.dig_low d hd.2.2.2) (.refl _))))
    · cases h
theorem Jr.ws_asc : ∀ l : List UInt8, Jr.Asc l (Js.ws l)
  | [] => .refl _
  | c :: l => by
    unfold Js.ws
    rw [List.dropWhile_cons]
    split
    · rename_i h
      exact .cons (Jr.blank_low c h) (Jr.ws_asc l)
    · exact .refl _
theorem Jr.ws_ws : ∀ l : List UInt8, Js.ws (Js.ws l) = Js.ws l
  | [] => rfl
  | c :: l => by
    by_cases h : Js.blank c = true
    · have e : Js.ws (c :: l) = Js.ws l := by unfold Js.ws; rw [List.dropWhile_cons, if_pos h]
      rw [e, Jr.ws_ws l]
    · have e : Js.ws (c :: l) = c :: l := by unfold Js.ws; rw [List.dropWhile_cons, if_neg h]
      rw [e, e]
theorem Jr.is_asc {c : UInt8} {l r : List UInt8} (hc : c ≠ 0 ∧ c.toNat < 128) (h : Js.is c l = some r) : Jr.Asc l r := by
  unfold Js.is at h
  have hw := Jr.ws_asc l
  split at h
  · cases h
  · rename_i d r' hr
    split at h
    · rename_i hd
      injection h with h
      subst h hd
      rw [hr] at hw
      exact hw.trans (.cons hc (.refl _))
    · cases h
theorem Jr.pre_two {r : List UInt8} : (Pl.pre [92, 117] r = true ↔ ∃ t, r = 92 :: 117 :: t) := by
  rw [Pl.pre_iff]
  rfl
/-- the numbers of signs, and their bytes -/
theorem Jr.rune (x : Nat) (h : x < 55296 ∨ (57344 ≤ x ∧ x ≤ 1114111)) : (Lib.encodeRune (x : Int)) = if x = 0 then [0] else Pl.runeL x := by
  by_cases h0 : x = 0
  · subst h0
    rw [if_pos rfl]
    rfl
  · rw [if_neg h0]
    unfold Lib.encodeRune Pl.runeL
    have hb : ∀ (z : Int) (n : Nat), z = (n : Int) → z.toNat.toUInt8 = UInt8.ofNat n := fun z n e => by subst e; rfl
    by_cases h1 : x < 128
    · rw [Lib.encodeRuneZ_one (by omega) (by omega), if_neg (by omega), if_pos h1]
      simp only [List.map_cons, List.map_nil, hb (x : Int) x rfl]
    · by_cases h2 : x < 2048
      · rw [Lib.encodeRuneZ_two (by omega) (by omega), if_neg (by omega), if_neg h1, if_pos h2]
        simp only [List.map_cons, List.map_nil]
        rw [hb (192 + (x : Int) / 64) (192 + x / 64) (by omega), hb (128 + (x : Int) % 64) (128 + x % 64) (by omega)]
      · by_cases h3 : x < 65536
        · rw [Lib.encodeRuneZ_three (by omega), if_neg (by omega), if_neg h1, if_neg h2, if_pos h3]
          simp only [List.map_cons, List.map_nil]
          rw [hb (224 + (x : Int) / 4096) (224 + x / 4096) (by omega), hb (128 + (x : Int) / 64 % 64) (128 + x / 64 % 64) (by omega), hb (128 + (x : Int) % 64) (128 + x % 64) (by omega)]
        · rw [Lib.encodeRuneZ_four (by omega) (by omega), if_neg (by omega), if_neg h1, if_neg h2, if_neg h3]
          simp only [List.map_cons, List.map_nil]
          rw [hb (240 + (x : Int) / 262144) (240 + x / 262144) (by omega), hb (128 + (x : Int) / 4096 % 64) (128 + x / 4096 % 64) (by omega), hb (128 + (x : Int) / 64 % 64) (128 + x / 64 % 64) (by omega), hb (128 + (x : Int) % 64) (128 + x % 64) (by omega)]
theorem Jr.uni_lt {r r1 : List UInt8} {x : Nat} (h : Jr.uni r = some (x, r1)) : (x < 55296 ∨ (57344 ≤ x ∧ x ≤ 1114111)) ∧ Jr.Asc r r1 ∧ r1.length < r.length := by
  unfold Jr.uni at h
  split at h
  · cases h
  · rename_i x0 r0 h4
    obtain ⟨q1, q2, q3⟩ := Js.four_len h4
    have a4 := Jr.four_asc h4
    split at h
    · simp only [Option.some.injEq, Prod.mk.injEq] at h
      obtain ⟨rfl, rfl⟩ := h
      exact ⟨by omega, a4, by omega⟩
    · split at h
      · cases h
      · split at h
        · rename_i hp
          obtain ⟨t, rfl⟩ := Jr.pre_two.1 hp
          split at h
          · cases h
          · rename_i y r3 h5
            obtain ⟨p1, p2, p3⟩ := Js.four_len h5
            have a5 := Jr.four_asc h5
            split at h
            · cases h
            · simp only [Option.some.injEq, Prod.mk.injEq] at h
              obtain ⟨rfl, rfl⟩ := h
              refine ⟨by omega, a4.trans (.cons (by decide) (.cons (by decide) a5)), ?_⟩
              simp only [List.drop_succ_cons, List.drop_zero, List.length_cons] at p1 q1
              omega
        · cases h
/-- the reader's number is the document's bytes -/
theorem Jr.uni_eq (r : List UInt8) : Js.uni r = (Jr.uni r).map fun p => (Lib.encodeRune (p.1 : Int), p.2) := by
  unfold Js.uni Jr.uni
  cases h4 : Js.four r with
  | none => rfl
  | some p =>
    obtain ⟨x, r1⟩ := p
    have q2 := (Js.four_len h4).2.1
    simp only
    by_cases h1 : x < 55296 ∨ 57344 ≤ x
    · rw [if_neg (by omega), if_neg (by omega), if_pos h1, Option.map_some, Jr.rune x (by omega)]
    · rw [if_neg h1]
      by_cases h2 : 56320 ≤ x
      · rw [if_neg (by omega), if_pos (by omega), if_pos h2]
        rfl
      · rw [if_pos (by omega), if_neg h2]
        match r1 with
        | [] => rfl
        | [_] => simp [Pl.pre, List.isPrefixOf]
        | b :: u :: t =>
          by_cases h3 : b = 92 ∧ u = 117
          · obtain ⟨rfl, rfl⟩ := h3
            simp only [and_self, if_true]
            rw [if_pos (Jr.pre_two.2 ⟨t, rfl⟩)]
            simp only [List.drop_succ_cons, List.drop_zero]
            cases h5 : Js.four t with
            | none => rfl
            | some p =>
              obtain ⟨y, r3⟩ := p
              simp only
              by_cases h6 : y < 56320 ∨ 57344 ≤ y
              · rw [if_neg (by omega), if_pos h6]
                rfl
              · rw [if_pos (by omega), if_neg h6, Option.map_some, Jr.rune _ (by omega), if_neg (by omega)]
          · rw [if_neg (fun q => h3 (by obtain ⟨t', e⟩ := Jr.pre_two.1 q; injection e with e1 e2; injection e2 with e2 _; exact ⟨e1, e2⟩))]
            simp only [h3, if_false]
            rfl
theorem Jr.escaped_lt {r r1 : List UInt8} {x : Nat} (h : Jr.escaped r = some (x, r1)) : (x < 55296 ∨ (57344 ≤ x ∧ x ≤ 1114111)) ∧ Jr.Asc r r1 ∧ r1.length < r.length := by
  cases r with
  | nil => cases h
  | cons c r =>
    rw [Jr.escaped] at h
    have hc := c.toNat_lt
    repeat' split at h
    all_goals first
      | (cases h; done)
      | (rename_i q; simp only [Option.some.injEq, Prod.mk.injEq] at h; obtain ⟨e1, e2⟩ := h; subst e1; subst e2; exact ⟨by omega, .cons (by first | (rcases q with rfl | rfl | rfl <;> decide) | (subst q; decide)) (.refl _), by simp⟩)
      | (rename_i q; obtain ⟨p1, p2, p3⟩ := Jr.uni_lt h; exact ⟨p1, .cons (by subst q; decide) p2, by simp only [List.length_cons]; omega⟩)
theorem Jr.escaped_eq (r : List UInt8) : Js.escaped r = (Jr.escaped r).map fun p => (Lib.encodeRune (p.1 : Int), p.2) := by
  cases r with
  | nil => rfl
  | cons c r =>
    rw [Js.escaped, Jr.escaped]
    repeat' split
    all_goals first
      | rfl
      | exact Jr.uni_eq r
      | (rename_i q; rcases q with rfl | rfl | rfl <;> rfl)
theorem Jr.textF_fuel : ∀ (f g : Nat) (l : List UInt8), l.length ≤ f → l.length ≤ g → Jr.textF f l = Jr.textF g l
  | 0, 0, _, _, _ => rfl
  | 0, g + 1, [], _, _ => rfl
  | f + 1, 0, [], _, _ => rfl
  | f + 1, g + 1, [], _, _ => rfl
  | f + 1, g + 1, c :: r, h1, h2 => by
    simp only [List.length_cons] at h1 h2
    unfold Jr.textF
    split
    · rfl
    · split
      · split
        · rfl
        · rename_i b r1 he
          have := (Jr.escaped_lt he).2.2
          rw [Jr.textF_fuel f g r1 (by omega) (by omega)]
      · split
        · rfl
        · rw [Jr.textF_fuel f g r (by omega) (by omega)]
  | 0, _, _ :: _, h1, _ => by simp at h1
  | _ + 1, 0, _ :: _, _, h2 => by simp at h2
theorem Jr.text_nil : Jr.text [] = none := rfl
theorem Jr.text_end (r : List UInt8) : Jr.text (34 :: r) = some ([], r) := rfl
theorem Jr.text_esc (r : List UInt8) : Jr.text (92 :: r) = (match Jr.escaped r with | none => none | some (x, r1) => (Jr.text r1).map fun p => (Lib.encodeRune (x : Int) ++ p.1, p.2)) := by
  show Jr.textF (r.length + 1) (92 :: r) = _
  rw [Jr.textF, if_neg (by decide), if_pos rfl]
  split
  · rfl
  · rename_i x r1 he
    have := (Jr.escaped_lt he).2.2
    rw [Jr.textF_fuel r.length r1.length r1 (by omega) (Nat.le_refl _)]
    rfl
theorem Jr.text_low {c : UInt8} (r : List UInt8) (h : c.toNat < 32) : Jr.text (c :: r) = none := by
  show Jr.textF (r.length + 1) (c :: r) = _
  rw [Jr.textF, if_neg (by rintro rfl; exact absurd h (by decide)), if_neg (by rintro rfl; exact absurd h (by decide)), if_pos h]
theorem Jr.text_byte {c : UInt8} (r : List UInt8) (h1 : c ≠ 34) (h2 : c ≠ 92) (h3 : ¬ c.toNat < 32) : Jr.text (c :: r) = (Jr.text r).map fun p => (c :: p.1, p.2) := by
  show Jr.textF (r.length + 1) (c :: r) = _
  rw [Jr.textF, if_neg h1, if_neg h2, if_neg h3]
  rfl
theorem Jr.text_high : ∀ (a r : List UInt8), (∀ c ∈ a, 128 ≤ c.toNat) → Jr.text (a ++ r) = (Jr.text r).map fun p => (a ++ p.1, p.2)
  | [], r, _ => by
    rw [List.nil_append]
    cases Jr.text r <;> rfl
  | c :: a, r, h => by
    have hc := h c List.mem_cons_self
    rw [List.cons_append, Jr.text_byte _ (by rintro rfl; exact absurd hc (by decide)) (by rintro rfl; exact absurd hc (by decide)) (by omega), Jr.text_high a r (fun d hd => h d (List.mem_cons_of_mem _ hd))]
    cases Jr.text r <;> rfl
/-- the document's way, without the count of rounds -/
theorem Jr.js_esc (r : List UInt8) : Js.text (92 :: r) = (match Js.escaped r with | none => none | some (b, r1) => (Js.text r1).map fun p => (b ++ p.1, p.2)) := by
  show Js.textF (r.length + 1) (92 :: r) = _
  rw [Js.textF, if_neg (by decide), if_pos rfl]
  cases he : Js.escaped r with
  | none => rfl
  | some p =>
    obtain ⟨x, r1⟩ := p
    have := (Js.escaped_len he).1
    simp only
    rw [Js.textF_fuel r.length r1.length r1 (by omega) (Nat.le_refl _)]
    rfl
theorem Jr.js_bad {c : UInt8} (r : List UInt8) (h1 : c ≠ 34) (h2 : c ≠ 92) (h3 : c.toNat < 32 ∨ Pl.sgn (c :: r) = 0) : Js.text (c :: r) = none := by
  show Js.textF (r.length + 1) (c :: r) = _
  rw [Js.textF, if_neg h1, if_neg h2, if_pos h3]
theorem Jr.js_sign {c : UInt8} (r : List UInt8) (h1 : c ≠ 34) (h2 : c ≠ 92) (h3 : ¬ c.toNat < 32) (h4 : Pl.sgn (c :: r) ≠ 0) : Js.text (c :: r) = (Js.text ((c :: r).drop (Pl.sgn (c :: r)))).map fun p => ((c :: r).take (Pl.sgn (c :: r)) ++ p.1, p.2) := by
  show Js.textF (r.length + 1) (c :: r) = _
  rw [Js.textF, if_neg h1, if_neg h2, if_neg (by omega), Js.textF_fuel r.length ((c :: r).drop (Pl.sgn (c :: r))).length _ (by rw [List.length_drop, List.length_cons]; omega) (Nat.le_refl _)]
  rfl
/-- what a text that is read has to do with May -/
theorem Jr.js_may : ∀ (n : Nat) (l b r : List UInt8), l.length ≤ n → Js.text l = some (b, r) → Pl.mayL l = Pl.mayL r := by
  intro n
  induction n with
  | zero =>
    intro l b r hl h
    have : l = [] := List.length_eq_zero_iff.1 (by omega)
    subst this
    cases h
  | succ n ih =>
    intro l b r hl h
    cases l with
    | nil => cases h
    | cons c t =>
      simp only [List.length_cons] at hl
      by_cases h1 : c = 34
      · subst h1
        have e : some (([] : List UInt8), t) = some (b, r) := h
        simp only [Option.some.injEq, Prod.mk.injEq] at e
        rw [← e.2]
        exact Jr.Asc.may (.cons (by decide) (.refl _))
      · by_cases h2 : c = 92
        · subst h2
          rw [Jr.js_esc, Jr.escaped_eq] at h
          cases he : Jr.escaped t with
          | none => rw [he] at h; cases h
          | some p =>
            obtain ⟨x, r1⟩ := p
            rw [he] at h
            obtain ⟨-, ha, hlt⟩ := Jr.escaped_lt he
            obtain ⟨⟨q1, q2⟩, hq, e⟩ := Option.map_eq_some_iff.1 h
            simp only [Prod.mk.injEq] at e
            rw [← e.2, (Jr.Asc.cons (by decide) ha).may]
            exact ih r1 q1 q2 (by omega) hq
        · by_cases h3 : c.toNat < 32
          · rw [Jr.js_bad t h1 h2 (.inl h3)] at h
            cases h
          · by_cases h4 : Pl.sgn (c :: t) = 0
            · rw [Jr.js_bad t h1 h2 (.inr h4)] at h
              cases h
            · rw [Jr.js_sign t h1 h2 h3 h4] at h
              obtain ⟨⟨q1, q2⟩, hq, e⟩ := Option.map_eq_some_iff.1 h
              simp only [Prod.mk.injEq] at e
              rw [← e.2, Pl.mayL_sign (c :: t) h4]
              exact ih _ q1 q2 (by rw [List.length_drop, List.length_cons]; omega) hq
theorem Jr.text_eq : ∀ (n : Nat) (l : List UInt8), l.length ≤ n → Pl.mayL l = true → Jr.text l = Js.text l := by
  intro n
  induction n with
  | zero =>
    intro l hl _
    have : l = [] := List.length_eq_zero_iff.1 (by omega)
    subst this
    rfl
  | succ n ih =>
    intro l hl hm
    cases l with
    | nil => rfl
    | cons c t =>
      simp only [List.length_cons] at hl
      by_cases h1 : c = 34
      · subst h1
        rfl
      · by_cases h2 : c = 92
        · subst h2
          rw [Jr.js_esc, Jr.text_esc, Jr.escaped_eq]
          cases he : Jr.escaped t with
          | none => rfl
          | some p =>
            obtain ⟨x, r1⟩ := p
            obtain ⟨-, ha, hlt⟩ := Jr.escaped_lt he
            simp only [Option.map_some]
            rw [ih r1 (by omega) (by rw [← (Jr.Asc.cons (c := 92) (by decide) ha).may]; exact hm)]
        · by_cases h3 : c.toNat < 32
          · rw [Jr.js_bad t h1 h2 (.inl h3), Jr.text_low t h3]
          · have h4 : Pl.sgn (c :: t) ≠ 0 := fun q => by
              rw [Pl.mayL_bad _ (by simp) q] at hm
              cases hm
            have hmr := Pl.mayL_sign (c :: t) h4
            rw [hm] at hmr
            have hd : ((c :: t).drop (Pl.sgn (c :: t))).length ≤ n := by rw [List.length_drop, List.length_cons]; omega
            rw [Jr.js_sign t h1 h2 h3 h4, ← ih _ hd hmr.symm]
            rcases Pl.sgn_parts (c :: t) h4 with ⟨d, e, -, -⟩ | hp
            · have hs1 : Pl.sgn (c :: t) = 1 := by
                have e1 := congrArg List.length e
                have := Pl.sgn_le (c :: t)
                rw [List.length_take] at e1
                simp only [List.length_cons, List.length_nil] at e1 this
                omega
              rw [hs1, Jr.text_byte t h1 h2 h3]
              rfl
            · have e : c :: t = (c :: t).take (Pl.sgn (c :: t)) ++ (c :: t).drop (Pl.sgn (c :: t)) := (List.take_append_drop _ _).symm
              generalize (c :: t).take (Pl.sgn (c :: t)) = a at *
              generalize (c :: t).drop (Pl.sgn (c :: t)) = b at *
              rw [e]
              exact Jr.text_high a b hp
end Go.Proofs.YtiajclmhimkpnaaDoor

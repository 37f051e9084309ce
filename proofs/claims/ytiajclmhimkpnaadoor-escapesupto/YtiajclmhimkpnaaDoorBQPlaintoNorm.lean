/-
  PLAIN: addresses: their scheme; what may begin one, what may be a part of one.
-/
import Derived.Test.YtiajclmhimkpnaaDoorBRToktoJText
import Derived.Test.YtiajclmhimkpnaaDoorBRPlaintoSign
import Derived.Lib.RuneBytes
import Derived.Test.YtiajclmhimkpnaaDoorProg
import Derived.WalkKit
import Derived.BigCall
import Derived.Lib.Hide
import Derived.Laws.OwnMore
import Derived.Deep.RegionLaw
namespace Go.Proofs.YtiajclmhimkpnaaDoor
def Ug.gap (c : UInt8) : Bool := decide (c = 9) || decide (c = 10) || decide (c = 13)
def Ug.strip (l : List UInt8) : List UInt8 := (l.dropWhile fun c => decide (c.toNat ≤ 32)).filter fun c => !Ug.gap c
def Ug.sign (c : UInt8) : Bool := Pl.letter c || (Pl.digit c || decide (c = 43) || decide (c = 45) || decide (c = 46))
/-- the scheme of what is left: letters and signs, then a ':' -/
def Ug.of (t : List UInt8) : Option (List UInt8) :=
  if Pl.letter (t.getD 0 0) = true ∧ t[(t.takeWhile Ug.sign).length]? = some 58 then some (Pl.lowL (t.takeWhile Ug.sign)) else none
def Ug.scheme (l : List UInt8) : Option (List UInt8) := Ug.of (Ug.strip l)
def Ug.http : List UInt8 := [104, 116, 116, 112]
def Ug.https : List UInt8 := [104, 116, 116, 112, 115]
def Ug.mailto : List UInt8 := [109, 97, 105, 108, 116, 111]
def Ug.tel : List UInt8 := [116, 101, 108]
def Ug.known (s : List UInt8) : Bool := decide (s = Ug.http) || decide (s = Ug.https) || decide (s = Ug.mailto) || decide (s = Ug.tel)
def Ug.plain : List UInt8 := [45, 46, 95, 126]
def Ug.more : List UInt8 := [45, 46, 95, 126, 58, 47, 63, 35, 91, 93, 64, 33, 36, 38, 42, 43, 44, 59, 61, 37]
def Ug.hex (n : Nat) : UInt8 := if n < 10 then UInt8.ofNat (48 + n) else UInt8.ofNat (55 + n)
def Ug.stays (signs : List UInt8) (c : UInt8) : Bool := Pl.letter c || Pl.digit c || signs.contains c
def Ug.byte (signs : List UInt8) (c : UInt8) : List UInt8 := if Ug.stays signs c = true then [c] else [37, Ug.hex (c.toNat / 16), Ug.hex (c.toNat % 16)]
def Ug.pct (signs : List UInt8) (l : List UInt8) : List UInt8 := l.flatMap (Ug.byte signs)
def Ug.no : List UInt8 := [35, 90, 103, 111, 116, 109, 112, 108, 90]
def Ug.bad (l : List UInt8) : Prop := ∃ s, Ug.scheme l = some s ∧ Ug.known s = false
def Ug.start (l : List UInt8) : List UInt8 :=
  match Ug.scheme (Pl.normL l) with
  | some s => if Ug.known s = true then Ug.pct Ug.more (Pl.normL l) else Ug.no
  | none => Ug.pct Ug.more (Pl.normL l)
def Ug.part (l : List UInt8) : List UInt8 := Ug.pct Ug.plain (Pl.normL l)
/-- what holds of all bytes, held against each -/
theorem Ug.all {p : UInt8 → Bool} (h : (List.range 256).all (fun n => p (UInt8.ofNat n)) = true) (c : UInt8) : p c = true := by
  have := List.all_eq_true.1 h c.toNat (List.mem_range.2 c.toNat_lt)
  simpa using this
theorem Ug.pct_append (s a b : List UInt8) : Ug.pct s (a ++ b) = Ug.pct s a ++ Ug.pct s b := by simp [Ug.pct]
theorem Ug.pct_cons (s : List UInt8) (c : UInt8) (l : List UInt8) : Ug.pct s (c :: l) = Ug.byte s c ++ Ug.pct s l := by simp [Ug.pct]
theorem Ug.byte_len (s : List UInt8) (c : UInt8) : 1 ≤ (Ug.byte s c).length ∧ (Ug.byte s c).length ≤ 3 := by
  unfold Ug.byte
  split <;> simp
theorem Ug.pct_len (s : List UInt8) : ∀ l : List UInt8, l.length ≤ (Ug.pct s l).length ∧ (Ug.pct s l).length ≤ 3 * l.length
  | [] => ⟨Nat.le_refl _, Nat.le_refl _⟩
  | c :: l => by
    have h1 := Ug.byte_len s c
    have h2 := Ug.pct_len s l
    rw [Ug.pct_cons, List.length_append, List.length_cons]
    omega
/-- what is told is told again as it is, if '%' is among the signs -/
theorem Ug.byte_more (c : UInt8) : ∀ d ∈ Ug.byte Ug.more c, Ug.stays Ug.more d = true := by
  have h := Ug.all (p := fun c => (Ug.byte Ug.more c).all fun d => Ug.stays Ug.more d) (by decide +kernel) c
  exact List.all_eq_true.1 h
theorem Ug.pct_more : ∀ l : List UInt8, ∀ d ∈ Ug.pct Ug.more l, Ug.stays Ug.more d = true := fun l d hd => by
  obtain ⟨c, _, hc⟩ := List.mem_flatMap.1 hd
  exact Ug.byte_more c d hc
theorem Ug.pct_stays {s : List UInt8} : ∀ {l : List UInt8}, (∀ d ∈ l, Ug.stays s d = true) → Ug.pct s l = l
  | [], _ => rfl
  | c :: l, h => by
    rw [Ug.pct_cons, Ug.pct_stays (fun d hd => h d (List.mem_cons_of_mem _ hd))]
    unfold Ug.byte
    rw [if_pos (h c List.mem_cons_self)]
    rfl
/-- a safe byte: neither below 33 nor from 127 on, no quote, no angle -/
def Ug.safe (c : UInt8) : Bool := decide (33 ≤ c.toNat) && decide (c.toNat < 127) && !decide (c = 34) && !decide (c = 39) && !decide (c = 60) && !decide (c = 62)
theorem Ug.more_safe (c : UInt8) (h : Ug.stays Ug.more c = true) : Ug.safe c = true ∧ Ug.gap c = false ∧ c.toNat < 128 := by
  have := Ug.all (p := fun c => !Ug.stays Ug.more c || (Ug.safe c && !Ug.gap c && decide (c.toNat < 128))) (by decide +kernel) c
  rw [h] at this
  simpa [Bool.and_eq_true, and_assoc] using this
def Ug.sober (c : UInt8) : Bool := Ug.safe c && !decide (c = 58) && !decide (c = 47) && !decide (c = 63) && !decide (c = 35) && !decide (c = 38)
theorem Ug.byte_part (c : UInt8) : ∀ d ∈ Ug.byte Ug.plain c, Ug.sober d = true := by
  have h := Ug.all (p := fun c => (Ug.byte Ug.plain c).all fun d => Ug.sober d) (by decide +kernel) c
  exact List.all_eq_true.1 h
theorem Ug.pct_part (l : List UInt8) : ∀ d ∈ Ug.pct Ug.plain l, Ug.sober d = true := fun d hd => by
  obtain ⟨c, _, hc⟩ := List.mem_flatMap.1 hd
  exact Ug.byte_part c d hc
/-- nothing is stripped off safe bytes -/
theorem Ug.strip_safe {l : List UInt8} (h : ∀ d ∈ l, 33 ≤ d.toNat) : Ug.strip l = l := by
  unfold Ug.strip
  have h1 : l.dropWhile (fun c => decide (c.toNat ≤ 32)) = l := by
    cases l with
    | nil => rfl
    | cons c l =>
      rw [List.dropWhile_cons, if_neg]
      have := h c List.mem_cons_self
      simp
      omega
  rw [h1, List.filter_eq_self]
  intro d hd
  have h2 := h d hd
  have h3 := Ug.all (p := fun c => !Ug.gap c || decide (c.toNat ≤ 32)) (by decide +kernel) d
  cases hg : Ug.gap d
  · rfl
  · rw [hg] at h3
    simp at h3
    omega
/-- without a ':' there is no scheme -/
theorem Ug.of_colon {t : List UInt8} (h : ∀ d ∈ t, d ≠ 58) : Ug.of t = none := by
  unfold Ug.of
  rw [if_neg]
  rintro ⟨_, q⟩
  exact h 58 (List.mem_of_getElem? q) rfl
end Go.Proofs.YtiajclmhimkpnaaDoor
/-
  PLAIN: Escape, sign by sign.
-/
namespace Go.Proofs.YtiajclmhimkpnaaDoor
theorem Jw.byte_of {c : UInt8} {n : Nat} {z : Int} (h : z = (n : Int)) (hn : c.toNat = n) : z.toNat.toUInt8 = c := by
  subst h
  subst hn
  show (c.toNat : Int).toNat.toUInt8 = c
  rw [Int.toNat_natCast]
  exact UInt8.ofNat_toNat
set_option maxHeartbeats 1000000 in
/-- what a sign's bytes tell, and that they are its bytes again -/
theorem Jw.decN (n b0 b1 b2 b3 k : Nat) (h0 : b0 < 256) (h1 : b1 < 256) (h2 : b2 < 256) (h3 : b3 < 256) (h : Pl.sgnN n b0 b1 b2 b3 = k) (hk : k ≠ 0) :
    ∃ r, Lib.decodeN n b0 b1 b2 b3 = (r, k) ∧ ((k = 1 ∧ r = b0 ∧ b0 < 128 ∧ b0 ≠ 0) ∨
      (k = 2 ∧ r = b0 % 32 * 64 + b1 % 64 ∧ 194 ≤ b0 ∧ b0 < 224 ∧ 128 ≤ b1 ∧ b1 ≤ 191) ∨
      (k = 3 ∧ r = b0 % 16 * 4096 + b1 % 64 * 64 + b2 % 64 ∧ 224 ≤ b0 ∧ b0 < 240 ∧ 128 ≤ b1 ∧ b1 ≤ 191 ∧ 128 ≤ b2 ∧ b2 ≤ 191 ∧ 2048 ≤ r ∧ (r < 55296 ∨ 57344 ≤ r)) ∨
      (k = 4 ∧ r = b0 % 8 * 262144 + b1 % 64 * 4096 + b2 % 64 * 64 + b3 % 64 ∧ 240 ≤ b0 ∧ b0 < 245 ∧ 128 ≤ b1 ∧ b1 ≤ 191 ∧ 128 ≤ b2 ∧ b2 ≤ 191 ∧ 128 ≤ b3 ∧ b3 ≤ 191 ∧ 65536 ≤ r ∧ r ≤ 1114111)) := by
  cases hd : Lib.decodeN n b0 b1 b2 b3 with
  | mk r k' =>
    have e := Pl.sgnN_decode n b0 b1 b2 b3 h0 h1 h2 h3 r k' hd
    rw [h] at e
    have hk' : k' = k := by
      split at e
      · exact absurd e.symm hk
      · exact e
    subst hk'
    refine ⟨r, rfl, ?_⟩
    unfold Pl.sgnN at h
    unfold Lib.decodeN at hd
    repeat' split at h
    all_goals first
      | (exact absurd h.symm hk)
      | skip
    all_goals subst h
    all_goals repeat' split at hd
    all_goals simp only [Prod.mk.injEq] at hd
    all_goals omega
theorem Jw.nb_drop (l : List UInt8) (i j : Nat) : Pl.nb (l.drop i) j = Pl.nb l (i + j) := by
  simp [Pl.nb, List.getD_eq_getElem?_getD]
theorem Jw.line_226 {c : UInt8} {r : List UInt8} (h : Js.line c r = true) : c = 226 := (Js.line_parts h).1
theorem Jw.esc_high {c : UInt8} {r : List UInt8} (h : 128 ≤ c.toNat) (hl : Js.line c r = false) : Js.escS (c :: r) = c :: Js.escS r := by
  rw [Js.escS_byte hl, show Js.byte c = [c] from if_pos (.inr h)]
  rfl
theorem Jw.not_line {c : UInt8} (r : List UInt8) (h : c.toNat ≠ 226) : Js.line c r = false := by
  cases hl : Js.line c r with
  | false => rfl
  | true => exact absurd (by rw [Jw.line_226 hl]; rfl) h
theorem Jw.esc_on {c : UInt8} (r : List UInt8) (h1 : 128 ≤ c.toNat) (h2 : c.toNat ≤ 191) : Js.escS (c :: r) = c :: Js.escS r := Jw.esc_high h1 (Jw.not_line r (by omega))
theorem Jw.three : ∀ {l : List UInt8}, 3 ≤ l.length → ∃ a b c t, l = a :: b :: c :: t
  | a :: b :: c :: t, _ => ⟨a, b, c, t, rfl⟩
  | [], h => absurd h (by simp)
  | [_], h => absurd h (by simp)
  | [_, _], h => absurd h (by simp)
theorem Jw.four : ∀ {l : List UInt8}, 4 ≤ l.length → ∃ a b c d t, l = a :: b :: c :: d :: t
  | a :: b :: c :: d :: t, _ => ⟨a, b, c, d, t, rfl⟩
  | [], h => absurd h (by simp)
  | [_], h => absurd h (by simp)
  | [_, _], h => absurd h (by simp)
  | [_, _, _], h => absurd h (by simp)
theorem Jw.byte_eq {a b : UInt8} (h : a.toNat = b.toNat) : a = b := UInt8.toNat_inj.1 h
set_option maxHeartbeats 1000000 in
theorem Jw.stepL (l : List UInt8) (hs : Pl.sgn l ≠ 0) : ∃ r, Lib.decodeN l.length (Pl.nb l 0) (Pl.nb l 1) (Pl.nb l 2) (Pl.nb l 3) = (r, Pl.sgn l) ∧ r ≤ 1114111 ∧
    ((∃ c t, l = c :: t ∧ Pl.sgn l = 1 ∧ r = c.toNat ∧ r < 128 ∧ Js.escS l = Js.byte c ++ Js.escS t) ∨
     (r = 8232 ∧ Pl.sgn l = 3 ∧ Js.escS l = [92, 117, 50, 48, 50, 56] ++ Js.escS (l.drop 3)) ∨
     (r = 8233 ∧ Pl.sgn l = 3 ∧ Js.escS l = [92, 117, 50, 48, 50, 57] ++ Js.escS (l.drop 3)) ∨
     (128 ≤ r ∧ r ≠ 8232 ∧ r ≠ 8233 ∧ Lib.encodeRune (r : Int) = l.take (Pl.sgn l) ∧ Js.escS l = l.take (Pl.sgn l) ++ Js.escS (l.drop (Pl.sgn l)))) := by
  have hlen := Pl.sgn_le l
  obtain ⟨r, hd, hr⟩ := Jw.decN l.length (Pl.nb l 0) (Pl.nb l 1) (Pl.nb l 2) (Pl.nb l 3) (Pl.sgn l) (Pl.nb_lt _ _) (Pl.nb_lt _ _) (Pl.nb_lt _ _) (Pl.nb_lt _ _) rfl hs
  refine ⟨r, hd, ?_⟩
  clear hd
  generalize Pl.sgn l = k at *
  rcases hr with ⟨rfl, h1, h2, h3⟩ | ⟨rfl, h1, h2, h3, h4, h5⟩ | ⟨rfl, h1, h2, h3, h4, h5, h6, h7, h8, h9⟩ | ⟨rfl, h1, h2, h3, h4, h5, h6, h7, h8, h9, h10, h11⟩
  · match l, hlen with
    | c :: t, _ =>
      have e0 : Pl.nb (c :: t) 0 = c.toNat := rfl
      rw [e0] at h1 h2 h3
      exact ⟨by omega, .inl ⟨c, t, rfl, rfl, h1, by omega, Js.escS_byte (Jw.not_line t (by omega))⟩⟩
  · match l, hlen with
    | x0 :: x1 :: t, _ =>
      have e0 : Pl.nb (x0 :: x1 :: t) 0 = x0.toNat := rfl
      have e1 : Pl.nb (x0 :: x1 :: t) 1 = x1.toNat := rfl
      rw [e0] at h1 h2 h3
      rw [e1] at h1 h4 h5
      refine ⟨by omega, .inr (.inr (.inr ⟨by omega, by omega, by omega, ?_, ?_⟩))⟩
      · unfold Lib.encodeRune
        rw [Lib.encodeRuneZ_two (by omega) (by omega)]
        simp only [List.map_cons, List.map_nil, List.take_succ_cons, List.take_zero]
        rw [Jw.byte_of (c := x0) (n := x0.toNat) (by omega) rfl, Jw.byte_of (c := x1) (n := x1.toNat) (by omega) rfl]
      · rw [Jw.esc_high (by omega) (Jw.not_line _ (by omega)), Jw.esc_on _ h4 h5]
        rfl
  · obtain ⟨x0, x1, x2, t, rfl⟩ := Jw.three hlen
    have e0 : Pl.nb (x0 :: x1 :: x2 :: t) 0 = x0.toNat := rfl
    have e1 : Pl.nb (x0 :: x1 :: x2 :: t) 1 = x1.toNat := rfl
    have e2 : Pl.nb (x0 :: x1 :: x2 :: t) 2 = x2.toNat := rfl
    rw [e0] at h1 h2 h3
    rw [e1] at h1 h4 h5
    rw [e2] at h1 h6 h7
    have hle : r ≤ 1114111 := by omega
    refine ⟨hle, .inr ?_⟩
    by_cases q1 : r = 8232
    · have y0 : x0 = 226 := Jw.byte_eq (by show x0.toNat = 226; omega)
      have y1 : x1 = 128 := Jw.byte_eq (by show x1.toNat = 128; omega)
      have y2 : x2 = 168 := Jw.byte_eq (by show x2.toNat = 168; omega)
      subst y0 y1 y2
      have q := Js.escS_line (c := 226) (r := 128 :: 168 :: t) (by rfl)
      rw [show ((128 :: 168 :: t : List UInt8)).getD 1 0 = 168 from rfl, show (48 : UInt8) + (168 - 160) = 56 by decide] at q
      exact .inl ⟨q1, rfl, q⟩
    · by_cases q2 : r = 8233
      · have y0 : x0 = 226 := Jw.byte_eq (by show x0.toNat = 226; omega)
        have y1 : x1 = 128 := Jw.byte_eq (by show x1.toNat = 128; omega)
        have y2 : x2 = 169 := Jw.byte_eq (by show x2.toNat = 169; omega)
        subst y0 y1 y2
        have q := Js.escS_line (c := 226) (r := 128 :: 169 :: t) (by rfl)
        rw [show ((128 :: 169 :: t : List UInt8)).getD 1 0 = 169 from rfl, show (48 : UInt8) + (169 - 160) = 57 by decide] at q
        exact .inr (.inl ⟨q2, rfl, q⟩)
      · refine .inr (.inr ⟨by omega, q1, q2, ?_, ?_⟩)
        · unfold Lib.encodeRune
          rw [Lib.encodeRuneZ_three (by omega)]
          simp only [List.map_cons, List.map_nil, List.take_succ_cons, List.take_zero]
          rw [Jw.byte_of (c := x0) (n := x0.toNat) (by omega) rfl, Jw.byte_of (c := x1) (n := x1.toNat) (by omega) rfl, Jw.byte_of (c := x2) (n := x2.toNat) (by omega) rfl]
        · have hl : Js.line x0 (x1 :: x2 :: t) = false := by
            cases hl : Js.line x0 (x1 :: x2 :: t) with
            | false => rfl
            | true =>
              exfalso
              obtain ⟨z0, t', z | z⟩ := Js.line_parts hl
              · injection z with z1 z2
                injection z2 with z2 _
                rw [z0, z1, z2] at h1
                exact q1 h1
              · injection z with z1 z2
                injection z2 with z2 _
                rw [z0, z1, z2] at h1
                exact q2 h1
          rw [Jw.esc_high (by omega) hl, Jw.esc_on _ h4 h5, Jw.esc_on _ h6 h7]
          rfl
  · obtain ⟨x0, x1, x2, x3, t, rfl⟩ := Jw.four hlen
    have e0 : Pl.nb (x0 :: x1 :: x2 :: x3 :: t) 0 = x0.toNat := rfl
    have e1 : Pl.nb (x0 :: x1 :: x2 :: x3 :: t) 1 = x1.toNat := rfl
    have e2 : Pl.nb (x0 :: x1 :: x2 :: x3 :: t) 2 = x2.toNat := rfl
    have e3 : Pl.nb (x0 :: x1 :: x2 :: x3 :: t) 3 = x3.toNat := rfl
    rw [e0] at h1 h2 h3
    rw [e1] at h1 h4 h5
    rw [e2] at h1 h6 h7
    rw [e3] at h1 h8 h9
    refine ⟨h11, .inr (.inr (.inr ⟨by omega, by omega, by omega, ?_, ?_⟩))⟩
    · unfold Lib.encodeRune
      rw [Lib.encodeRuneZ_four (by omega) (by omega)]
      simp only [List.map_cons, List.map_nil, List.take_succ_cons, List.take_zero]
      rw [Jw.byte_of (c := x0) (n := x0.toNat) (by omega) rfl, Jw.byte_of (c := x1) (n := x1.toNat) (by omega) rfl, Jw.byte_of (c := x2) (n := x2.toNat) (by omega) rfl, Jw.byte_of (c := x3) (n := x3.toNat) (by omega) rfl]
    · rw [Jw.esc_high (by omega) (Jw.not_line _ (by omega)), Jw.esc_on _ h4 h5, Jw.esc_on _ h6 h7, Jw.esc_on _ h8 h9]
      rfl
theorem Jw.decode_drop (T : ByteArray) (pos : Nat) : Utf8.decode T pos = Lib.decodeN (T.data.toList.drop pos).length (Pl.nb (T.data.toList.drop pos) 0) (Pl.nb (T.data.toList.drop pos) 1) (Pl.nb (T.data.toList.drop pos) 2) (Pl.nb (T.data.toList.drop pos) 3) := by
  rw [Lib.decode_at, Jw.nb_drop, Jw.nb_drop, Jw.nb_drop, Jw.nb_drop, Wk.get_nb, Wk.get_nb, Wk.get_nb, Wk.get_nb, List.length_drop, Wk.len_data]
  rfl
end Go.Proofs.YtiajclmhimkpnaaDoor
/-
  A SET OF BYTES BY BITS: the walks of byteset.Of and Has.
-/
namespace Go.Proofs.YtiajclmhimkpnaaDoor
open Go.RowKit
def Bs.put (k : Nat) (a : Int) (c : UInt8) : Int := if c.toNat / 64 = k then bits .or .u64 a (IntKind.u64.wrap (2 ^ (c.toNat % 64))) else a
def Bs.word (l : List UInt8) (k : Nat) : Int := l.foldl (Bs.put k) 0
def Bs.has (l : List UInt8) (c : UInt8) : Bool := bits .and .u64 (Bs.word l (c.toNat / 64) / 2 ^ (c.toNat % 64)) 1 == 1
def Bs.val (l : List UInt8) : Value := .agg #[.int .u64 (Bs.word l 0), .int .u64 (Bs.word l 1), .int .u64 (Bs.word l 2), .int .u64 (Bs.word l 3)]
theorem Bs.word_take {l : List UInt8} {i : Nat} {c : UInt8} (h : l[i]? = some c) (k : Nat) : Bs.word (l.take (i + 1)) k = Bs.put k (Bs.word (l.take i) k) c := by
  have hl := (List.getElem?_eq_some_iff.1 h).1
  have hc := (List.getElem?_eq_some_iff.1 h).2
  rw [List.take_succ_eq_append_getElem hl, hc]
  simp [Bs.word]
theorem Bs.put_same {k : Nat} {a : Int} {c : UInt8} (h : c.toNat / 64 = k) : Bs.put k a c = bits .or .u64 a (IntKind.u64.wrap (2 ^ (c.toNat % 64))) := if_pos h
theorem Bs.put_other {k : Nat} {a : Int} {c : UInt8} (h : c.toNat / 64 ≠ k) : Bs.put k a c = a := if_neg h
set_option maxRecDepth 100000 in
set_option maxHeartbeats 4000000 in
theorem Bs.Has (l : List UInt8) (c : UInt8) (w : World) :
    Calls Tryd.prog 24 #[Bs.val l, .int .u8 (c.toNat : Int)] w fun e w' => e = .returned (.bool (Bs.has l c)) ∧ Below w.heap.size w w' := by
  have hc := c.toNat_lt
  unfold Bs.val Bs.has
  have hq : c.toNat / 64 = 0 ∨ c.toNat / 64 = 1 ∨ c.toNat / 64 = 2 ∨ c.toNat / 64 = 3 := by omega
  rcases hq with hq | hq | hq | hq
  all_goals
    rw [hq]
    generalize Bs.word l 0 = a0
    generalize Bs.word l 1 = a1
    generalize Bs.word l 2 = a2
    generalize Bs.word l 3 = a3
    have hz : (c.toNat : Int) / 64 = (c.toNat / 64 : Nat) := by omega
    rw [hq] at hz
    clear hq
    first | (have hz : (c.toNat : Int) / 64 = 0 := hz) | (have hz : (c.toNat : Int) / 64 = 1 := hz) | (have hz : (c.toNat : Int) / 64 = 2 := hz) | (have hz : (c.toNat : Int) / 64 = 3 := hz)
    go_enter Tryd.func24, Tryd.ntmps24
    go_wp2
    go_ret
    exact ⟨rfl, (Below.refl _ _).alloc (Nat.le_refl _) _⟩
/-- a block of memory -/
def Bs.Box (W : World) (g : Nat) (cs : Array Value) (ty : TypeId) : Prop := W.heap[g]? = some (.cells cs ty)
theorem Bs.Box.new (W : World) (cs : Array Value) (ty : TypeId) (g : Nat) (hg : g = W.heap.size) : Bs.Box (W.alloc (.cells cs ty)) g cs ty := by
  subst hg
  show (W.heap.push _)[W.heap.size]? = _
  simp
theorem Bs.Box.lt {W : World} {g : Nat} {cs : Array Value} {ty : TypeId} (h : Bs.Box W g cs ty) : g < W.heap.size := (Array.getElem?_eq_some_iff.1 h).1
theorem Bs.Box.alloc {W : World} {g : Nat} {cs : Array Value} {ty : TypeId} (h : Bs.Box W g cs ty) (o : Obj) : Bs.Box (W.alloc o) g cs ty := (Below.heap_alloc _ _ _ h.lt).trans h
theorem Bs.Box.on {W W' : World} {g b : Nat} {cs : Array Value} {ty : TypeId} (h : Bs.Box W g cs ty) (hb : Below b W W') (hg : g < b) : Bs.Box W' g cs ty := (hb.block g hg).trans h
theorem Bs.Box.set {W : World} {g : Nat} {cs : Array Value} {ty : TypeId} (h : Bs.Box W g cs ty) (i : Nat) (v : Value) : Bs.Box (W.setCell ⟨g, i, none⟩ v) g (cs.setIfInBounds i v) ty := by
  show (W.heap.modify g _)[g]? = _
  rw [Array.getElem?_modify, if_pos rfl, h]
  rfl
theorem Bs.Box.cell {W : World} {g : Nat} {cs : Array Value} {ty : TypeId} (h : Bs.Box W g cs ty) (i : Nat) {v : Value} (hv : cs[i]? = some v) : W.cell? ⟨g, i, none⟩ = some v := by
  unfold World.cell?
  rw [show W.heap[g]? = _ from h]
  exact hv
theorem Bs.Box.frozen {W : World} {g : Nat} {cs : Array Value} {ty : TypeId} (h : Bs.Box W g cs ty) (i : Nat) : W.frozen? ⟨g, i, none⟩ = false := by
  unfold World.frozen?
  rw [show W.heap[g]? = _ from h]
  simp
def Bs.row (l : List UInt8) : Array Value := #[.int .u64 (Bs.word l 0), .int .u64 (Bs.word l 1), .int .u64 (Bs.word l 2), .int .u64 (Bs.word l 3)]
theorem Bs.row_take {l : List UInt8} {i : Nat} {c : UInt8} (h : l[i]? = some c) {k : Nat} (hk : c.toNat / 64 = k) : (Bs.row (l.take i)).setIfInBounds k (.int .u64 (bits .or .u64 (Bs.word (l.take i) k) (IntKind.u64.wrap (2 ^ (c.toNat % 64))))) = Bs.row (l.take (i + 1)) := by
  have hc := c.toNat_lt
  unfold Bs.row
  rw [Bs.word_take h, Bs.word_take h, Bs.word_take h, Bs.word_take h, ← Bs.put_same hk]
  have hq : k = 0 ∨ k = 1 ∨ k = 2 ∨ k = 3 := by omega
  rcases hq with rfl | rfl | rfl | rfl
  · rw [Bs.put_other (k := 1) (by omega), Bs.put_other (k := 2) (by omega), Bs.put_other (k := 3) (by omega)]; rfl
  · rw [Bs.put_other (k := 0) (by omega), Bs.put_other (k := 2) (by omega), Bs.put_other (k := 3) (by omega)]; rfl
  · rw [Bs.put_other (k := 0) (by omega), Bs.put_other (k := 1) (by omega), Bs.put_other (k := 3) (by omega)]; rfl
  · rw [Bs.put_other (k := 0) (by omega), Bs.put_other (k := 1) (by omega), Bs.put_other (k := 2) (by omega)]; rfl
set_option maxRecDepth 100000 in
set_option maxHeartbeats 4000000 in
theorem Bs.Of (T : ByteArray) (w : World) (hT : T.size ≤ 1000) :
    Calls Tryd.prog 22 #[.string T] w fun e w' => e = .returned (Bs.val T.data.toList) ∧ Below w.heap.size w w' := by
  unfold Bs.val
  go_enter Tryd.func22, Tryd.ntmps22
  go_wp2_with fail
  go_loopw [7] (fun ix wr => ∃ i : Nat, i ≤ T.size ∧ ix = .int .i64 (i : Int) ∧ Hid (Bs.Box wr (w.heap.size + 1) (Bs.row (T.data.toList.take i)) 44) ∧ Hid (Below (w.heap.size + 1) (w.alloc (.cells #[.int .u64 0, .int .u64 0, .int .u64 0, .int .u64 0] 44)) wr)) (fun ix _ => T.size - (intOf ix).toNat)
  case atStart => exact ⟨0, Nat.zero_le _, rfl, Bs.Box.new _ _ _ _ (by simp), (Below.refl _ _).alloc (by simp) _⟩
  case round =>
    obtain ⟨i, hi, rfl, HX, HB⟩ := hrel
    by_cases hlt : i < T.size
    · have d1 : decide ((i : Int) < (T.size : Int)) = true := decide_eq_true (by omega)
      have hc := T[i].toNat_lt
      have HL : Hid (T.data.toList[i]? = some T[i]) := by
        unfold Hid
        rw [List.getElem?_eq_getElem (by rw [Array.length_toList]; exact hlt)]
        simp [ByteArray.getElem_eq_getElem_data]
      have hq : T[i].toNat / 64 = 0 ∨ T[i].toNat / 64 = 1 ∨ T[i].toNat / 64 = 2 ∨ T[i].toNat / 64 = 3 := by omega
      rcases hq with hq | hq | hq | hq
      all_goals
        have HT := Lib.hid (Bs.row_take HL.out hq)
        have hz : (T[i].toNat : Int) / 64 = (T[i].toNat / 64 : Nat) := by omega
        rw [hq] at hz
        have HS := Lib.hid (HX.out.set (T[i].toNat / 64) (.int .u64 (bits .or .u64 (Bs.word (T.data.toList.take i) (T[i].toNat / 64)) (IntKind.u64.wrap (2 ^ (T[i].toNat % 64))))))
        have hcell := HX.out.cell (T[i].toNat / 64) (v := .int .u64 (Bs.word (T.data.toList.take i) (T[i].toNat / 64))) (by rw [hq]; rfl)
        have hfz := HX.out.frozen (T[i].toNat / 64)
        rw [hq] at hcell hfz HS
        rw [HT.out] at HS
        clear hq HL HT
        first | (have hz : (T[i].toNat : Int) / 64 = 0 := hz) | (have hz : (T[i].toNat : Int) / 64 = 1 := hz) | (have hz : (T[i].toNat : Int) / 64 = 2 := hz) | (have hz : (T[i].toNat : Int) / 64 = 3 := hz)
        go_wp2
        go_region
        go_wp2
        go_roundw
        case rel => exact ⟨i + 1, by omega, by go_num, HS, (HB.out.setCell (Nat.le_refl _) _).drew⟩
        case measure => simp [intOf]; omega
    · have e : i = T.size := by omega
      subst e
      have d1 : decide ((T.size : Int) < (T.size : Int)) = false := decide_eq_false (by omega)
      have HTT : Hid (T.data.toList.take T.size = T.data.toList) := List.take_of_length_le (by rw [Array.length_toList]; exact Nat.le_refl _)
      rw [HTT.out] at HX
      have HZ := Lib.hid ((Bs.Box.new w #[.int .u64 0, .int .u64 0, .int .u64 0, .int .u64 0] 44 _ rfl).on HB.out (Nat.lt_succ_self _))
      have HE := Lib.hid ((((HZ.out.set 0 (.int .u64 (Bs.word T.data.toList 0))).set 1 (.int .u64 (Bs.word T.data.toList 1))).set 2 (.int .u64 (Bs.word T.data.toList 2))).set 3 (.int .u64 (Bs.word T.data.toList 3)))
      have x0 : wr.cell? ⟨w.heap.size + 1, 0, none⟩ = some (.int .u64 (Bs.word T.data.toList 0)) := HX.out.cell 0 rfl
      have x1 : wr.cell? ⟨w.heap.size + 1, 1, none⟩ = some (.int .u64 (Bs.word T.data.toList 1)) := HX.out.cell 1 rfl
      have x2 : wr.cell? ⟨w.heap.size + 1, 2, none⟩ = some (.int .u64 (Bs.word T.data.toList 2)) := HX.out.cell 2 rfl
      have x3 : wr.cell? ⟨w.heap.size + 1, 3, none⟩ = some (.int .u64 (Bs.word T.data.toList 3)) := HX.out.cell 3 rfl
      have z0 : wr.cell? ⟨w.heap.size, 0, none⟩ = some (.int .u64 0) := HZ.out.cell 0 rfl
      have z1 : wr.cell? ⟨w.heap.size, 1, none⟩ = some (.int .u64 0) := HZ.out.cell 1 rfl
      have z2 : wr.cell? ⟨w.heap.size, 2, none⟩ = some (.int .u64 0) := HZ.out.cell 2 rfl
      have z3 : wr.cell? ⟨w.heap.size, 3, none⟩ = some (.int .u64 0) := HZ.out.cell 3 rfl
      have f0 := HZ.out.frozen 0
      have f1 := HZ.out.frozen 1
      have f2 := HZ.out.frozen 2
      have f3 := HZ.out.frozen 3
      go_wp2
      have q0 := HE.out.cell 0 (v := .int .u64 (Bs.word T.data.toList 0)) rfl
      have q1 := HE.out.cell 1 (v := .int .u64 (Bs.word T.data.toList 1)) rfl
      have q2 := HE.out.cell 2 (v := .int .u64 (Bs.word T.data.toList 2)) rfl
      have q3 := HE.out.cell 3 (v := .int .u64 (Bs.word T.data.toList 3)) rfl
      refine bodyPost_ret (v := .agg #[.int .u64 (Bs.word T.data.toList 0), .int .u64 (Bs.word T.data.toList 1), .int .u64 (Bs.word T.data.toList 2), .int .u64 (Bs.word T.data.toList 3)]) (by simp [results, Tryd.results22, go_sem, q0, q1, q2, q3]) rfl ?_
      exact ⟨rfl, ((((((Below.refl _ _).alloc (Nat.le_refl _) _).trans (HB.out.mono (Nat.le_succ _))).setCell (Nat.le_refl _) _).setCell (Nat.le_refl _) _).setCell (Nat.le_refl _) _).setCell (Nat.le_refl _) _⟩
end Go.Proofs.YtiajclmhimkpnaaDoor
/-
  THE WALK of utf.Norm: it returns what 'Pl.normL' gives of the bytes (texts of up to 2^45 bytes: a Builder's room), and turns nothing that was there.
-/
namespace Go.Proofs.YtiajclmhimkpnaaDoor
open Go.RowKit

theorem Wk.atF_below {T e : TypeId} {B b : Nat} {p : Value} {bs : List Value} {W W' : World} (h : Lib.BuilderAtF T e B b p bs W) (hb : Below W.heap.size W W') : Lib.BuilderAtF T e B b p bs W' := by
  have hlt := h.lt
  obtain ⟨hB, v, hv, hown, hne⟩ := h
  exact ⟨hB, v, (hb.block b hlt).trans hv, hown.kept (row := none) ⟨hb.os, hb.tape, hb.output, hb.size, fun k hk _ => hb.block k hk⟩ (Classical.em _), hne⟩
theorem Wk.isF_below {T e : TypeId} {B b : Nat} {bs : List Value} {W W' : World} (h : Lib.IsBuilderF T e B b bs W) (hb : Below W.heap.size W W') : Lib.IsBuilderF T e B b bs W' :=
  h.elim (fun x => .inl (Wk.atF_below x hb)) (fun x => .inr (Wk.atF_below x hb))
theorem Wk.part_data (s : ByteArray) (k m : Nat) : (s.extract k (k + m)).data.toList = (s.data.toList.drop k).take m := by
  rw [Lib.extract_data, Nat.add_sub_cancel_left]
theorem Wk.part_size (s : ByteArray) (k m : Nat) (h : k + m ≤ s.size) : (s.extract k (k + m)).size = m := by
  rw [← Wk.len_data, Wk.part_data, List.length_take, List.length_drop, Wk.len_data]; omega

/-- a text from one place to another -/
theorem Wk.run_cut (w : World) (s : ByteArray) (l h : Int) (h0 : 0 ≤ l) (h1 : l ≤ h) (h2 : h ≤ s.size) :
    (Instr.slice 9 (.string s) (some (.int .i64 l)) (some (.int .i64 h)) none).run Tryd.prog w = .ok (.string (s.extract l.toNat h.toNat)) w := by
  have eh : (h.toNat : Int) = h := Int.toNat_of_nonneg (by omega)
  simp [Instr.slice, run_underlying Tryd.underlying9, Instr.sliceBounds, run_sliceBound, h0, h1, h2, eh, (by omega : 0 ≤ h)]
theorem Wk.ret_str {a b : List UInt8} (h : a = b) : Ending.returned (.string ⟨a.toArray⟩) = .returned (.string ⟨b.toArray⟩) := by rw [h]

set_option maxHeartbeats 1000000 in
theorem Wk.norm (s : ByteArray) (w : World) (hT : Lib.Utf8Tabs 1 2 w) (hs : s.size ≤ 35184372088832) :
    Calls Tryd.prog 21 #[.string s] w fun e w' => e = .returned (.string ⟨(Pl.normL s.data.toList).toArray⟩) ∧ Below w.heap.size w w' := by
  have c0 := Sh.Builder_Grow_fresh w.heap.size w.heap.size s.size (w.alloc (.cells #[.pointer none, .slice none 0 0] 48)) (Nat.le_refl _) (heap_alloc_new w _) (by simp) (by omega)
  go_enter Tryd.func21, Tryd.ntmps21
  go_wp2_with (go_at_call 23; refine c0.mono ?_; rintro e w0 ⟨rfl, hB0, hb0⟩)
  have hbw0 : Below w.heap.size w w0 := ((Below.refl _ _).alloc (Nat.le_refl _) _).trans hb0
  have hI0 : Lib.IsBuilderF 48 5 w.heap.size w.heap.size (Lib.byteCells []) w0 := .inr (Lib.BuilderAtF.of hB0)
  clear c0 hB0 hb0
  go_loopw [4] (fun i wr => ∃ (k : Nat) (acc : List UInt8), k ≤ s.size ∧ i = .int .i64 k ∧ Lib.IsBuilderF 48 5 w.heap.size w.heap.size (Lib.byteCells acc) wr ∧ Below w.heap.size w wr ∧ Hid (acc ++ Pl.normL (s.data.toList.drop k) = Pl.normL s.data.toList) ∧ acc.length ≤ 3 * k) (fun i _ => s.size - (intOf i).toNat)
  case atStart => exact ⟨0, [], Nat.zero_le _, rfl, hI0, hbw0, rfl, Nat.le_refl _⟩
  case round =>
    clear hI0 hbw0
    obtain ⟨k, acc, hk, rfl, hI, hb, hn, hal⟩ := hrel
    have c := Wk.sign_at s k wr (Utf8Tabs_below hT hb)
    have hsz := hb.size
    by_cases hlt : k < s.size
    · have hle := Pl.sgn_le (s.data.toList.drop k)
      rw [List.length_drop, Wk.len_data] at hle
      obtain ⟨m, hmm⟩ : ∃ m, Pl.sgn (s.data.toList.drop k) = m := ⟨_, rfl⟩
      rw [hmm] at c hle
      have HM : Hid (Pl.sgn (s.data.toList.drop k) = m) := hmm
      clear hmm
      by_cases h0 : m = 0
      · have hz : ((m : Int) == 0) = true := beq_iff_eq.2 (by omega)
        go_wp2_with (go_at_call 29; refine c.mono ?_; rintro e w1 ⟨rfl, hb1⟩)
        refine (Sh.Builder_WriteString_k w.heap.size w.heap.size _ _ w1 (Wk.isF_below hI hb1) (by rw [Lib.byteCells_length]; show acc.length + 3 ≤ _; omega) (by have := hb1.size; omega)).mono ?_
        rintro e w2 ⟨rfl, hI2, hb2, _⟩
        have hb' : Below w.heap.size w w2 := (Wk.below_step hb hb1).trans hb2
        have hI' : Lib.IsBuilderF 48 5 w.heap.size w.heap.size (Lib.byteCells (acc ++ Pl.fffd)) w2 := by
          rw [Lib.byteCells_append]; exact .inr hI2
        have HN : Hid ((acc ++ Pl.fffd) ++ Pl.normL (s.data.toList.drop (k + 1)) = Pl.normL s.data.toList) := by
          have h1 := Pl.normL_bad _ (Wk.drop_ne s k hlt) (HM.out.trans h0)
          rw [List.drop_drop] at h1
          show _ = _
          rw [← hn.out, h1, List.append_assoc]
        clear hI hI2 hb1 hb2 c hn HM
        go_wp2
        go_roundw
        case rel => exact ⟨k + 1, acc ++ Pl.fffd, by omega, by go_num, hI', hb', HN, by simp [Pl.fffd]; omega⟩
        case measure => simp [intOf]; omega
      · have hz : ((m : Int) == 0) = false := beq_eq_false_iff_ne.2 (by omega)
        have hcut : ∀ u : World, (Instr.slice 9 (.string s) (some (.int .i64 (k : Int))) (some (.int .i64 ((k : Int) + (m : Int)))) none).run Tryd.prog u = .ok (.string (s.extract k (k + m))) u := fun u => by
          have h := Wk.run_cut u s (k : Int) ((k : Int) + (m : Int)) (by omega) (by omega) (by omega)
          rwa [show ((k : Int) + (m : Int)).toNat = k + m by omega, Int.toNat_natCast] at h
        have hps := Wk.part_size s k m (by omega)
        have hpd := Wk.part_data s k m
        generalize s.extract k (k + m) = part at hcut hps hpd
        have HPS := hps
        have HPD : Hid (part.data.toList = (s.data.toList.drop k).take m) := hpd
        clear hps hpd
        go_wp2_with (go_at_call 29; refine c.mono ?_; rintro e w1 ⟨rfl, hb1⟩)
        refine (Sh.Builder_WriteString_k w.heap.size w.heap.size _ _ w1 (Wk.isF_below hI hb1) (by rw [Lib.byteCells_length]; omega) (by have := hb1.size; omega)).mono ?_
        rintro e w2 ⟨rfl, hI2, hb2, _⟩
        have hb' : Below w.heap.size w w2 := (Wk.below_step hb hb1).trans hb2
        have hI' : Lib.IsBuilderF 48 5 w.heap.size w.heap.size (Lib.byteCells (acc ++ (s.data.toList.drop k).take m)) w2 := by
          rw [Lib.byteCells_append, ← HPD.out]; exact .inr hI2
        have HN : Hid ((acc ++ (s.data.toList.drop k).take m) ++ Pl.normL (s.data.toList.drop (k + m)) = Pl.normL s.data.toList) := by
          have h1 := Pl.normL_sign (s.data.toList.drop k) (by rw [HM.out]; exact h0)
          rw [HM.out, List.drop_drop] at h1
          show _ = _
          rw [← hn.out, h1, List.append_assoc]
        clear hI hI2 hb1 hb2 c hn HM HPD HPS hcut
        go_wp2
        go_roundw
        case rel => exact ⟨k + m, acc ++ (s.data.toList.drop k).take m, by omega, by go_num, hI', hb', HN, by simp; omega⟩
        case measure => simp [intOf]; omega
    · have hke : k = s.size := by omega
      go_wp2_with (go_at_call 28; refine (Sh.Builder_String_any_k w.heap.size w.heap.size acc _ hI (by omega)).mono ?_; rintro e w1 ⟨rfl, _, hb1, _⟩)
      go_ret
      refine ⟨Wk.ret_str ?_, hb.trans hb1⟩
      have := hn.out
      rwa [hke, List.drop_of_length_le (by rw [Wk.len_data]; exact Nat.le_refl _), Pl.normL_nil, List.append_nil] at this
end Go.Proofs.YtiajclmhimkpnaaDoor

/-
  PLAIN: Escape, sign by sign.
-/
import Derived.Test.YtboalkfagfgnpaaGreatDoorBJTexttoJVal
import Derived.Test.YtboalkfagfgnpaaGreatDoorBJFactstoJRd
import Derived.Test.YtboalkfagfgnpaaGreatDoorBSigntoRePlain
import Derived.Lib.RuneBytes
namespace Go.Proofs.YtboalkfagfgnpaaGreatDoor
theorem Jw.byte_of {c : UInt8} {n : Nat} {z : Int} (h : z = (n : Int)) (hn : c.toNat = n) : z.toNat.toUInt8 = c := by
  subst h
  subst hn
  show (c.toNat : Int).toNat.toUInt8 = c
  rw [Int.toNat_natCast]
  exact UInt8.ofNat_toNat
set_option maxHeartbeats 1000000 in
/-- what a sign's bytes tell, and that they are its bytes again -/
theorem Jw.decN (n b0 b1 b2 b3 k : Nat) (h0 : b0 < 256) (h1 : b1 < 256) (h2 : b2 < 256) (h3 : b3 < 256) (h : Pl.sgnN n b0 b1 b2 b3 = k) (hk : k ≠ 0) :
    ∃ r, Lib.decodeN n b0 b1 b2 b3 = (r, k) ∧ ((k = 1 ∧ r = b0 ∧ b0 < 128 ∧ b0 ≠ 0) ∨
      (k = 2 ∧ r = b0 % 32 * 64 + b1 % 64 ∧ 194 ≤ b0 ∧ b0 < 224 ∧ 128 ≤ b1 ∧ b1 ≤ 191) ∨
      (k = 3 ∧ r = b0 % 16 * 4096 + b1 % 64 * 64 + b2 % 64 ∧ 224 ≤ b0 ∧ b0 < 240 ∧ 128 ≤ b1 ∧ b1 ≤ 191 ∧ 128 ≤ b2 ∧ b2 ≤ 191 ∧ 2048 ≤ r ∧ (r < 55296 ∨ 57344 ≤ r)) ∨
      (k = 4 ∧ r = b0 % 8 * 262144 + b1 % 64 * 4096 + b2 % 64 * 64 + b3 % 64 ∧ 240 ≤ b0 ∧ b0 < 245 ∧ 128 ≤ b1 ∧ b1 ≤ 191 ∧ 128 ≤ b2 ∧ b2 ≤ 191 ∧ 128 ≤ b3 ∧ b3 ≤ 191 ∧ 65536 ≤ r ∧ r ≤ 1114111)) := by
  cases hd : Lib.decodeN n b0 b1 b2 b3 with
  | mk r k' =>
    have e := Pl.sgnN_decode n b0 b1 b2 b3 h0 h1 h2 h3 r k' hd
    rw [h] at e
    have hk' : k' = k := by
      split at e
      · exact absurd e.symm hk
      · exact e
    subst hk'
    refine ⟨r, rfl, ?_⟩
    unfold Pl.sgnN at h
    unfold Lib.decodeN at hd
    repeat' split at h
    all_goals first
      | (exact absurd h.symm hk)
      | skip
    all_goals subst h
    all_goals repeat' split at hd
    all_goals simp only [Prod.mk.injEq] at hd
    all_goals omega
theorem Jw.nb_drop (l : List UInt8) (i j : Nat) : Pl.nb (l.drop i) j = Pl.nb l (i + j) := by
  simp [Pl.nb, List.getD_eq_getElem?_getD]
theorem Jw.line_226 {c : UInt8} {r : List UInt8} (h : Js.line c r = true) : c = 226 := (Js.line_parts h).1
theorem Jw.esc_high {c : UInt8} {r : List UInt8} (h : 128 ≤ c.toNat) (hl : Js.line c r = false) : Js.escS (c :: r) = c :: Js.escS r := by
  rw [Js.escS_byte hl, show Js.byte c = [c] from if_pos (.inr h)]
  rfl
theorem Jw.not_line {c : UInt8} (r : List UInt8) (h : c.toNat ≠ 226) : Js.line c r = false := by
  cases hl : Js.line c r with
  | false => rfl
  | true => exact absurd (by rw [Jw.line_226 hl]; rfl) h
theorem Jw.esc_on {c : UInt8} (r : List UInt8) (h1 : 128 ≤ c.toNat) (h2 : c.toNat ≤ 191) : Js.escS (c :: r) = c :: Js.escS r := Jw.esc_high h1 (Jw.not_line r (by omega))
theorem Jw.three : ∀ {l : List UInt8}, 3 ≤ l.length → ∃ a b c t, l = a :: b :: c :: t
  | a :: b :: c :: t, _ => ⟨a, b, c, t, rfl⟩
  | [], h => absurd h (by simp)
  | [_], h => absurd h (by simp)
  | [_, _], h => absurd h (by simp)
theorem Jw.four : ∀ {l : List UInt8}, 4 ≤ l.length → ∃ a b c d t, l = a :: b :: c :: d :: t
  | a :: b :: c :: d :: t, _ => ⟨a, b, c, d, t, rfl⟩
  | [], h => absurd h (by simp)
  | [_], h => absurd h (by simp)
  | [_, _], h => absurd h (by simp)
  | [_, _, _], h => absurd h (by simp)
theorem Jw.byte_eq {a b : UInt8} (h : a.toNat = b.toNat) : a = b := UInt8.toNat_inj.1 h
set_option maxHeartbeats 1000000 in
theorem Jw.stepL (l : List UInt8) (hs : Pl.sgn l ≠ 0) : ∃ r, Lib.decodeN l.length (Pl.nb l 0) (Pl.nb l 1) (Pl.nb l 2) (Pl.nb l 3) = (r, Pl.sgn l) ∧ r ≤ 1114111 ∧
    ((∃ c t, l = c :: t ∧ Pl.sgn l = 1 ∧ r = c.toNat ∧ r < 128 ∧ Js.escS l = Js.byte c ++ Js.escS t) ∨
     (r = 8232 ∧ Pl.sgn l = 3 ∧ Js.escS l = [92, 117, 50, 48, 50, 56] ++ Js.escS (l.drop 3)) ∨
     (r = 8233 ∧ Pl.sgn l = 3 ∧ Js.escS l = [92, 117, 50, 48, 50, 57] ++ Js.escS (l.drop 3)) ∨
     (128 ≤ r ∧ r ≠ 8232 ∧ r ≠ 8233 ∧ Lib.encodeRune (r : Int) = l.take (Pl.sgn l) ∧ Js.escS l = l.take (Pl.sgn l) ++ Js.escS (l.drop (Pl.sgn l)))) := by
  have hlen := Pl.sgn_le l
  obtain ⟨r, hd, hr⟩ := Jw.decN l.length (Pl.nb l 0) (Pl.nb l 1) (Pl.nb l 2) (Pl.nb l 3) (Pl.sgn l) (Pl.nb_lt _ _) (Pl.nb_lt _ _) (Pl.nb_lt _ _) (Pl.nb_lt _ _) rfl hs
  refine ⟨r, hd, ?_⟩
  clear hd
  generalize Pl.sgn l = k at *
  rcases hr with ⟨rfl, h1, h2, h3⟩ | ⟨rfl, h1, h2, h3, h4, h5⟩ | ⟨rfl, h1, h2, h3, h4, h5, h6, h7, h8, h9⟩ | ⟨rfl, h1, h2, h3, h4, h5, h6, h7, h8, h9, h10, h11⟩
  · match l, hlen with
    | c :: t, _ =>
      have e0 : Pl.nb (c :: t) 0 = c.toNat := rfl
      rw [e0] at h1 h2 h3
      exact ⟨by omega, .inl ⟨c, t, rfl, rfl, h1, by omega, Js.escS_byte (Jw.not_line t (by omega))⟩⟩
  · match l, hlen with
    | x0 :: x1 :: t, _ =>
      have e0 : Pl.nb (x0 :: x1 :: t) 0 = x0.toNat := rfl
      have e1 : Pl.nb (x0 :: x1 :: t) 1 = x1.toNat := rfl
      rw [e0] at h1 h2 h3
      rw [e1] at h1 h4 h5
      refine ⟨by omega, .inr (.inr (.inr ⟨by omega, by omega, by omega, ?_, ?_⟩))⟩
      · unfold Lib.encodeRune
        rw [Lib.encodeRuneZ_two (by omega) (by omega)]
        simp only [List.map_cons, List.map_nil, List.take_succ_cons, List.take_zero]
        rw [Jw.byte_of (c := x0) (n := x0.toNat) (by omega) rfl, Jw.byte_of (c := x1) (n := x1.toNat) (by omega) rfl]
      · rw [Jw.esc_high (by omega) (Jw.not_line _ (by omega)), Jw.esc_on _ h4 h5]
        rfl
  · obtain ⟨x0, x1, x2, t, rfl⟩ := Jw.three hlen
    have e0 : Pl.nb (x0 :: x1 :: x2 :: t) 0 = x0.toNat := rfl
    have e1 : Pl.nb (x0 :: x1 :: x2 :: t) 1 = x1.toNat := rfl
    have e2 : Pl.nb (x0 :: x1 :: x2 :: t) 2 = x2.toNat := rfl
    rw [e0] at h1 h2 h3
    rw [e1] at h1 h4 h5
    rw [e2] at h1 h6 h7
    have hle : r ≤ 1114111 := by omega
    refine ⟨hle, .inr ?_⟩
    by_cases q1 : r = 8232
    · have y0 : x0 = 226 := Jw.byte_eq (by show x0.toNat = 226; omega)
      have y1 : x1 = 128 := Jw.byte_eq (by show x1.toNat = 128; omega)
      have y2 : x2 = 168 := Jw.byte_eq (by show x2.toNat = 168; omega)
      subst y0 y1 y2
      have q := Js.escS_line (c := 226) (r := 128 :: 168 :: t) (by rfl)
      rw [show ((128 :: 168 :: t : List UInt8)).getD 1 0 = 168 from rfl, show (48 : UInt8) + (168 - 160) = 56 by decide] at q
      exact .inl ⟨q1, rfl, q⟩
    · by_cases q2 : r = 8233
      · have y0 : x0 = 226 := Jw.byte_eq (by show x0.toNat = 226; omega)
        have y1 : x1 = 128 := Jw.byte_eq (by show x1.toNat = 128; omega)
        have y2 : x2 = 169 := Jw.byte_eq (by show x2.toNat = 169; omega)
        subst y0 y1 y2
        have q := Js.escS_line (c := 226) (r := 128 :: 169 :: t) (by rfl)
        rw [show ((128 :: 169 :: t : List UInt8)).getD 1 0 = 169 from rfl, show (48 : UInt8) + (169 - 160) = 57 by decide] at q
        exact .inr (.inl ⟨q2, rfl, q⟩)
      · refine .inr (.inr ⟨by omega, q1, q2, ?_, ?_⟩)
        · unfold Lib.encodeRune
          rw [Lib.encodeRuneZ_three (by omega)]
          simp only [List.map_cons, List.map_nil, List.take_succ_cons, List.take_zero]
          rw [Jw.byte_of (c := x0) (n := x0.toNat) (by omega) rfl, Jw.byte_of (c := x1) (n := x1.toNat) (by omega) rfl, Jw.byte_of (c := x2) (n := x2.toNat) (by omega) rfl]
        · have hl : Js.line x0 (x1 :: x2 :: t) = false := by
            cases hl : Js.line x0 (x1 :: x2 :: t) with
            | false => rfl
            | true =>
              exfalso
              obtain ⟨z0, t', z | z⟩ := Js.line_parts hl
              · injection z with z1 z2
                injection z2 with z2 _
                rw [z0, z1, z2] at h1
                exact q1 h1
              · injection z with z1 z2
                injection z2 with z2 _
                rw [z0, z1, z2] at h1
                exact q2 h1
          rw [Jw.esc_high (by omega) hl, Jw.esc_on _ h4 h5, Jw.esc_on _ h6 h7]
          rfl
  · obtain ⟨x0, x1, x2, x3, t, rfl⟩ := Jw.four hlen
    have e0 : Pl.nb (x0 :: x1 :: x2 :: x3 :: t) 0 = x0.toNat := rfl
    have e1 : Pl.nb (x0 :: x1 :: x2 :: x3 :: t) 1 = x1.toNat := rfl
    have e2 : Pl.nb (x0 :: x1 :: x2 :: x3 :: t) 2 = x2.toNat := rfl
    have e3 : Pl.nb (x0 :: x1 :: x2 :: x3 :: t) 3 = x3.toNat := rfl
    rw [e0] at h1 h2 h3
    rw [e1] at h1 h4 h5
    rw [e2] at h1 h6 h7
    rw [e3] at h1 h8 h9
    refine ⟨h11, .inr (.inr (.inr ⟨by omega, by omega, by omega, ?_, ?_⟩))⟩
    · unfold Lib.encodeRune
      rw [Lib.encodeRuneZ_four (by omega) (by omega)]
      simp only [List.map_cons, List.map_nil, List.take_succ_cons, List.take_zero]
      rw [Jw.byte_of (c := x0) (n := x0.toNat) (by omega) rfl, Jw.byte_of (c := x1) (n := x1.toNat) (by omega) rfl, Jw.byte_of (c := x2) (n := x2.toNat) (by omega) rfl, Jw.byte_of (c := x3) (n := x3.toNat) (by omega) rfl]
    · rw [Jw.esc_high (by omega) (Jw.not_line _ (by omega)), Jw.esc_on _ h4 h5, Jw.esc_on _ h6 h7, Jw.esc_on _ h8 h9]
      rfl
theorem Jw.decode_drop (T : ByteArray) (pos : Nat) : Utf8.decode T pos = Lib.decodeN (T.data.toList.drop pos).length (Pl.nb (T.data.toList.drop pos) 0) (Pl.nb (T.data.toList.drop pos) 1) (Pl.nb (T.data.toList.drop pos) 2) (Pl.nb (T.data.toList.drop pos) 3) := by
  rw [Lib.decode_at, Jw.nb_drop, Jw.nb_drop, Jw.nb_drop, Jw.nb_drop, Wk.get_nb, Wk.get_nb, Wk.get_nb, Wk.get_nb, List.length_drop, Wk.len_data]
  rfl
end Go.Proofs.YtboalkfagfgnpaaGreatDoor

/-
  PLAIN: what Escape writes is read again as it was normed.
-/
import Derived.Test.YtboalkfagfgnpaaGreatDoorBJTexttoJVal
import Derived.Test.YtboalkfagfgnpaaGreatDoorBSigntoRePlain
namespace Go.Proofs.YtboalkfagfgnpaaGreatDoor
theorem Js.text_quote (r : List UInt8) : Js.text (34 :: r) = some ([], r) := rfl
theorem Js.text_esc {r b r1 : List UInt8} (h : Js.escaped r = some (b, r1)) : Js.text (92 :: r) = (Js.text r1).map fun p => (b ++ p.1, p.2) := by
  have hl := (Js.escaped_len h).1
  unfold Js.text
  rw [List.length_cons, Js.textF, if_neg (by decide), if_pos rfl, h]
  show (Js.textF r.length r1).map _ = _
  rw [Js.textF_fuel r.length r1.length r1 (by omega) (Nat.le_refl _)]
theorem Js.text_sign {c : UInt8} {r : List UInt8} (h1 : c ≠ 34) (h2 : c ≠ 92) (h3 : ¬ c.toNat < 32) (h4 : Pl.sgn (c :: r) ≠ 0) : Js.text (c :: r) = (Js.text ((c :: r).drop (Pl.sgn (c :: r)))).map fun p => ((c :: r).take (Pl.sgn (c :: r)) ++ p.1, p.2) := by
  unfold Js.text
  rw [List.length_cons, Js.textF, if_neg h1, if_neg h2, if_neg (fun o => o.elim h3 h4)]
  rw [Js.textF_fuel r.length ((c :: r).drop (Pl.sgn (c :: r))).length _ (by rw [List.length_drop, List.length_cons]; omega) (Nat.le_refl _)]
theorem Js.text_bad {c : UInt8} {r : List UInt8} (h1 : c ≠ 34) (h2 : c ≠ 92) (h3 : c.toNat < 32 ∨ Pl.sgn (c :: r) = 0) : Js.text (c :: r) = none := by
  unfold Js.text
  rw [List.length_cons, Js.textF, if_neg h1, if_neg h2, if_pos h3]
theorem Js.text_noesc {r : List UInt8} (h : Js.escaped r = none) : Js.text (92 :: r) = none := by
  unfold Js.text
  rw [List.length_cons, Js.textF, if_neg (by decide), if_pos rfl, h]
/-- a sign of several bytes: one great byte, then bytes from 128 to 191 -/
theorem Js.sgnN_cont (n b0 b1 b2 b3 k : Nat) (h : Pl.sgnN n b0 b1 b2 b3 = k) (hk : 1 < k) : 194 ≤ b0 ∧ (1 < k → 128 ≤ b1 ∧ b1 ≤ 191) ∧ (2 < k → 128 ≤ b2 ∧ b2 ≤ 191) ∧ (3 < k → 128 ≤ b3 ∧ b3 ≤ 191) := by
  unfold Pl.sgnN at h
  repeat' split at h
  all_goals subst h
  all_goals omega
theorem Js.sgn_cont {c : UInt8} {r : List UInt8} (hk : 1 < Pl.sgn (c :: r)) : 194 ≤ c.toNat ∧ ∀ d ∈ r.take (Pl.sgn (c :: r) - 1), 128 ≤ d.toNat ∧ d.toNat ≤ 191 := by
  have h4 := Pl.sgn_le_four (c :: r)
  obtain ⟨g0, g1, g2, g3⟩ := Js.sgnN_cont (c :: r).length (Pl.nb (c :: r) 0) (Pl.nb (c :: r) 1) (Pl.nb (c :: r) 2) (Pl.nb (c :: r) 3) (Pl.sgn (c :: r)) rfl hk
  refine ⟨g0, fun d hd => ?_⟩
  obtain ⟨i, hi⟩ := List.mem_iff_getElem?.1 hd
  rw [List.getElem?_take] at hi
  split at hi
  · rename_i hlt
    have e : Pl.nb (c :: r) (i + 1) = d.toNat := Pl.nb_get (c :: r) (i + 1) d hi
    have : i = 0 ∨ i = 1 ∨ i = 2 := by omega
    rcases this with rfl | rfl | rfl
    all_goals (rw [← e])
    · exact g1 (by omega)
    · exact g2 (by omega)
    · exact g3 (by omega)
  · cases hi
theorem Js.byte_high {c : UInt8} (h : 128 ≤ c.toNat) : Js.byte c = [c] := if_pos (.inr h)
theorem Js.line_not {c : UInt8} (h : c ≠ 226) (r : List UInt8) : Js.line c r = false := by
  unfold Js.line
  rw [decide_eq_false h]
  rfl
theorem Js.escS_cont : ∀ (m t : List UInt8), (∀ d ∈ m, 128 ≤ d.toNat ∧ d.toNat ≤ 191) → Js.escS (m ++ t) = m ++ Js.escS t
  | [], _, _ => rfl
  | d :: m, t, h => by
    have hd := h d List.mem_cons_self
    rw [List.cons_append, Js.escS_byte (Js.line_not (fun q => by rw [q] at hd; exact absurd hd.2 (by decide)) _), Js.byte_high hd.1, Js.escS_cont m t (fun x hx => h x (List.mem_cons_of_mem _ hx))]
    rfl
/-- a byte below 128 told by its number -/
theorem Js.byte_told (c : UInt8) (h0 : c ≠ 0) (h : c.toNat < 128) (hs : Js.stays c = false) (t : List UInt8) : Js.text (Js.byte c ++ t) = (Js.text t).map fun p => (c :: p.1, p.2) := by
  have hb : Js.byte c = [92, 117, 48, 48, Js.hex (c.toNat / 16), Js.hex (c.toNat % 16)] := if_neg (fun o => o.elim (fun q => by rw [hs] at q; cases q) (fun q => by omega))
  have hd : ∀ n, n < 16 → Pl.dig (Js.hex n) = n := by decide
  have h1 := hd (c.toNat / 16) (by omega)
  have h2 := hd (c.toNat % 16) (by omega)
  have hr : Pl.runeL c.toNat = [c] := by
    have hc : c.toNat ≠ 0 := fun q => h0 (UInt8.toNat_inj.1 q)
    unfold Pl.runeL
    rw [if_neg (by omega), if_pos h]
    simp
  have h48 : Pl.dig 48 = 0 := by decide
  have h4 : Js.four (48 :: 48 :: Js.hex (c.toNat / 16) :: Js.hex (c.toNat % 16) :: t) = some (c.toNat, t) := by
    rw [Js.four, h1, h2, h48, if_pos (by omega)]
    congr 2
    omega
  have he : Js.escaped (117 :: 48 :: 48 :: Js.hex (c.toNat / 16) :: Js.hex (c.toNat % 16) :: t) = some ([c], t) := by
    rw [Js.escaped, if_neg (by decide), if_neg (by decide), if_neg (by decide), if_neg (by decide), if_neg (by decide), if_neg (by decide), if_pos rfl]
    unfold Js.uni
    rw [h4]
    show (if 55296 ≤ c.toNat ∧ c.toNat ≤ 56319 then _ else _) = _
    rw [if_neg (by omega), if_neg (by omega), if_neg (fun q : c.toNat = 0 => h0 (UInt8.toNat_inj.1 q)), hr]
  rw [hb]
  exact Js.text_esc he
theorem Js.stays_low (c : UInt8) (h : Js.stays c = true) : c ≠ 34 ∧ c ≠ 92 ∧ ¬ c.toNat < 32 ∧ c ≠ 0 ∧ c.toNat < 128 := by
  have : ∀ n : Fin 256, (!Js.stays (UInt8.ofNat n.val) || decide (UInt8.ofNat n.val ≠ 34 ∧ UInt8.ofNat n.val ≠ 92 ∧ ¬ (UInt8.ofNat n.val).toNat < 32 ∧ UInt8.ofNat n.val ≠ 0 ∧ (UInt8.ofNat n.val).toNat < 128)) = true := by decide +kernel
  have h1 := this ⟨c.toNat, c.toNat_lt⟩
  simp only [UInt8.ofNat_toNat] at h1
  rw [h, Bool.not_true, Bool.false_or] at h1
  exact of_decide_eq_true h1
theorem Js.byte_ascii (c : UInt8) (h0 : c ≠ 0) (h : c.toNat < 128) (t : List UInt8) : Js.text (Js.byte c ++ t) = (Js.text t).map fun p => (c :: p.1, p.2) := by
  cases hs : Js.stays c
  · exact Js.byte_told c h0 h hs t
  · obtain ⟨g1, g2, g3, _, _⟩ := Js.stays_low c hs
    have hb : Js.byte c = [c] := if_pos (.inl hs)
    have e := Pl.sgn_one c t h0 h
    rw [hb]
    show Js.text (c :: t) = _
    rw [Js.text_sign g1 g2 g3 (by rw [e]; decide), e]
    rfl
theorem Js.text_back : ∀ (x t : List UInt8), Pl.mayL x = true → Js.text (Js.escS x ++ t) = (Js.text t).map fun p => (x ++ p.1, p.2) := by
  intro x t
  refine Pl.ind (p := fun x => Pl.mayL x = true → Js.text (Js.escS x ++ t) = (Js.text t).map fun p => (x ++ p.1, p.2)) ?_ ?_ ?_ x
  · intro _
    show Js.text t = _
    cases Js.text t <;> rfl
  · intro l hl h0 _ hm
    rw [Pl.mayL_bad l hl h0] at hm
    cases hm
  · intro l hs ih hm
    rw [Pl.mayL_sign l hs] at hm
    have ih := ih hm
    cases l with
    | nil => exact absurd rfl (Pl.ne_nil_of_sgn hs)
    | cons c r =>
      by_cases h1 : Pl.sgn (c :: r) = 1
      · have hp : c ≠ 0 ∧ c.toNat < 128 := by
          rcases Pl.sgnN_parts (c :: r).length (Pl.nb (c :: r) 0) (Pl.nb (c :: r) 1) (Pl.nb (c :: r) 2) (Pl.nb (c :: r) 3) _ rfl hs with ⟨_, q1, q2⟩ | ⟨_, _, _, _, q⟩
          · exact ⟨fun q => by rw [q] at q1; exact q1 rfl, q2⟩
          · have q : 1 < Pl.sgn (c :: r) := q
            omega
        rw [h1] at ih
        have ih : Js.text (Js.escS r ++ t) = (Js.text t).map fun p => (r ++ p.1, p.2) := ih
        rw [Js.escS_byte (Js.line_not (fun q => by rw [q] at hp; exact absurd hp.2 (by decide)) _), List.append_assoc, Js.byte_ascii c hp.1 hp.2, ih]
        cases Js.text t <;> rfl
      · have hk : 1 < Pl.sgn (c :: r) := by omega
        obtain ⟨g0, g1⟩ := Js.sgn_cont hk
        cases hl : Js.line c r
        · have e : c :: r = c :: (r.take (Pl.sgn (c :: r) - 1) ++ r.drop (Pl.sgn (c :: r) - 1)) := by rw [List.take_append_drop]
          have ed : (c :: r).drop (Pl.sgn (c :: r)) = r.drop (Pl.sgn (c :: r) - 1) := by
            conv => lhs; rw [show Pl.sgn (c :: r) = (Pl.sgn (c :: r) - 1) + 1 by omega]
            rfl
          have et : (c :: r).take (Pl.sgn (c :: r)) = c :: r.take (Pl.sgn (c :: r) - 1) := by
            conv => lhs; rw [show Pl.sgn (c :: r) = (Pl.sgn (c :: r) - 1) + 1 by omega]
            rfl
          have ee : Js.escS (c :: r) = (c :: r).take (Pl.sgn (c :: r)) ++ Js.escS ((c :: r).drop (Pl.sgn (c :: r))) := by
            rw [Js.escS_byte hl, Js.byte_high (by omega), et, ed]
            conv => lhs; rw [← List.take_append_drop (Pl.sgn (c :: r) - 1) r]
            rw [Js.escS_cont _ _ g1]
            rfl
          have hsn := Pl.sgn_take_append (c :: r) (Js.escS ((c :: r).drop (Pl.sgn (c :: r))) ++ t) hs
          have hkl : Pl.sgn (c :: r) ≤ (c :: r).length := Pl.sgn_le _
          rw [ee, List.append_assoc]
          generalize hK : Pl.sgn (c :: r) = K at *
          generalize hW : (c :: r).drop K = W at *
          have hc : (c :: r).take K ++ (Js.escS W ++ t) = c :: (r.take (K - 1) ++ (Js.escS W ++ t)) := by rw [et]; rfl
          have hdrop : (c :: (r.take (K - 1) ++ (Js.escS W ++ t))).drop K = Js.escS W ++ t := by rw [← hc]; exact Pl.drop_take_append _ _ _ hkl
          have htake : (c :: (r.take (K - 1) ++ (Js.escS W ++ t))).take K = (c :: r).take K := by rw [← hc]; exact Pl.take_take_append _ _ _ hkl
          rw [hc] at hsn ⊢
          rw [Js.text_sign (fun q => by rw [q] at g0; exact absurd g0 (by decide)) (fun q => by rw [q] at g0; exact absurd g0 (by decide)) (by omega) (by rw [hsn]; exact hs), hsn, hdrop, htake, ih]
          have hj : (c :: r) = (c :: r).take K ++ W := by rw [← hW, List.take_append_drop]
          generalize (c :: r).take K = P at hj ⊢
          rw [hj]
          cases Js.text t
          · rfl
          · simp [List.append_assoc]
        · obtain ⟨rfl, q, hq⟩ := Js.line_parts hl
          have hs3 : Pl.sgn (226 :: r) = 3 := by
            unfold Pl.sgn Pl.sgnN at hk ⊢
            rcases hq with rfl | rfl <;> simp [Pl.nb]
          rw [hs3] at ih
          rcases hq with rfl | rfl
          · have ih : Js.text (Js.escS q ++ t) = (Js.text t).map fun p => (q ++ p.1, p.2) := ih
            rw [Js.escS_line hl]
            have he : Js.escaped (117 :: 50 :: 48 :: 50 :: 56 :: (Js.escS q ++ t)) = some ([226, 128, 168], Js.escS q ++ t) := rfl
            refine Eq.trans ?_ ((Js.text_esc he).trans (c := (Js.text t).map fun p => (226 :: 128 :: 168 :: q ++ p.1, p.2)) ?_)
            · show Js.text (92 :: 117 :: 50 :: 48 :: 50 :: (48 + (168 - 160)) :: (Js.escS q ++ t)) = _
              rw [show (48 : UInt8) + (168 - 160) = 56 from by decide]
            · rw [ih]
              cases Js.text t <;> rfl
          · have ih : Js.text (Js.escS q ++ t) = (Js.text t).map fun p => (q ++ p.1, p.2) := ih
            rw [Js.escS_line hl]
            have he : Js.escaped (117 :: 50 :: 48 :: 50 :: 57 :: (Js.escS q ++ t)) = some ([226, 128, 169], Js.escS q ++ t) := rfl
            refine Eq.trans ?_ ((Js.text_esc he).trans (c := (Js.text t).map fun p => (226 :: 128 :: 169 :: q ++ p.1, p.2)) ?_)
            · show Js.text (92 :: 117 :: 50 :: 48 :: 50 :: (48 + (169 - 160)) :: (Js.escS q ++ t)) = _
              rw [show (48 : UInt8) + (169 - 160) = 57 from by decide]
            · rw [ih]
              cases Js.text t <;> rfl
/-- a text that was put is read normed -/
theorem Js.text_put (l r : List UInt8) : Js.text (Js.esc l ++ 34 :: r) = some (Pl.normL l, r) := by
  have := Js.text_back (Pl.normL l) (34 :: r) (Pl.may_norm l)
  unfold Js.esc
  rw [this, Js.text_quote]
  simp
end Go.Proofs.YtboalkfagfgnpaaGreatDoor
/-
  PLAIN: values written as JSON texts, and read again.
-/
namespace Go.Proofs.YtboalkfagfgnpaaGreatDoor
/-- parts, one behind the other -/
def Js.cat (f : Nat → List UInt8) : Nat → List UInt8
  | 0 => []
  | n + 1 => Js.cat f n ++ f n
def Js.quoted (s : List UInt8) : List UInt8 := 34 :: (Js.esc s ++ [34])
def Js.real (b : Nat) : List UInt8 := if Re.kind b < 2 then [110, 117, 108, 108] else if Re.kind b = 4 then Js.quoted (Re.text b) else Re.text b
def Js.comma (i : Nat) : List UInt8 := if i = 0 then [] else [44]
def Js.put : Vt → List UInt8
  | .nil => []
  | .mk k x b s n it _ ks =>
    if k = 0 then [110, 117, 108, 108]
    else if k = 1 then (if x = 1 then [116, 114, 117, 101] else [102, 97, 108, 115, 101])
    else if k = 2 then Lib.itoa x
    else if k = 3 then Js.real b
    else if k = 4 then Js.quoted s.data.toList
    else if k = 5 then 91 :: (Js.cat (fun i => Js.comma i ++ Js.put (it i)) n ++ [93])
    else 123 :: (Js.cat (fun i => Js.comma i ++ (Js.quoted (ks i).data.toList ++ 58 :: Js.put (it i))) n ++ [125])
def Js.realBack (b : Nat) : Vt :=
  if Re.kind b < 2 then Js.leaf 0 0 0 ⟨#[]⟩
  else if Re.kind b = 4 then Js.leaf 4 0 0 ⟨(Re.text b).toArray⟩
  else if b = 9223372036854775808 then Js.leaf 3 0 b ⟨#[]⟩
  else Js.leaf 2 (Re.whole b) 0 ⟨#[]⟩
/-- what is read of a value that was put -/
def Js.back : Vt → Vt
  | .nil => .nil
  | .mk k x b s n it m ks =>
    if k = 3 then Js.realBack b
    else if k = 4 then Js.leaf 4 0 0 ⟨(Pl.normL s.data.toList).toArray⟩
    else if k < 3 then Js.leaf k x 0 ⟨#[]⟩
    else .mk k 0 0 ⟨#[]⟩ n (fun i => if i < n then Js.back (it i) else .nil) m (fun j => if j < m then ks j else ⟨#[]⟩)
/-- a value that may be, at most d deep -/
def Js.Ok : Nat → Vt → Prop
  | 0, _ => False
  | _ + 1, .nil => False
  | d + 1, .mk k x b s n it m ks => Vt.formed k x b s n m ks = true ∧ b < 18446744073709551616 ∧ ∀ i, i < n → Js.Ok d (it i)
/-- all its keys are texts -/
def Js.Keys : Nat → Vt → Prop
  | 0, _ => True
  | _ + 1, .nil => True
  | d + 1, .mk _ _ _ _ n it m ks => (∀ j, j < m → Pl.mayL (ks j).data.toList = true) ∧ ∀ i, i < n → Js.Keys d (it i)
/-- what may stand behind a value -/
def Js.ends : List UInt8 → Bool
  | [] => true
  | c :: _ => decide (c = 44) || decide (c = 93) || decide (c = 125) || Js.blank c
theorem Js.dec_unfold (u : Nat) : Lib.decDigits u = if u < 10 then [UInt8.ofNat (48 + u)] else Lib.decDigits (u / 10) ++ [UInt8.ofNat (48 + u % 10)] := by
  rw [Lib.decDigits]
  split <;> rfl
theorem Js.digit_of : ∀ n, n < 10 → Pl.digit (UInt8.ofNat (48 + n)) = true ∧ Pl.dig (UInt8.ofNat (48 + n)) = n := by decide
theorem Js.dec_all (u : Nat) : ∀ c ∈ Lib.decDigits u, Pl.digit c = true := by
  induction u using Nat.strongRecOn with
  | ind u ih =>
    rw [Js.dec_unfold]
    intro c hc
    split at hc
    · rename_i h
      rw [List.mem_singleton.1 hc]
      exact (Js.digit_of u h).1
    · rcases List.mem_append.1 hc with q | q
      · exact ih (u / 10) (by omega) c q
      · rw [List.mem_singleton.1 q]
        exact (Js.digit_of (u % 10) (by omega)).1
theorem Js.dec_val (u : Nat) : Pl.val 10 (Lib.decDigits u) = u := by
  induction u using Nat.strongRecOn with
  | ind u ih =>
    rw [Js.dec_unfold]
    split
    · rename_i h
      show 0 * 10 + Pl.dig _ = u
      rw [(Js.digit_of u h).2]
      omega
    · have h1 := ih (u / 10) (by omega)
      unfold Pl.val at h1 ⊢
      rw [List.foldl_append, h1]
      show u / 10 * 10 + Pl.dig _ = u
      rw [(Js.digit_of (u % 10) (by omega)).2]
      omega
theorem Js.dec_ne (u : Nat) : Lib.decDigits u ≠ [] := by
  rw [Js.dec_unfold]
  split <;> simp
theorem Js.dec_head (u : Nat) (h : 0 < u) : (Lib.decDigits u).head? ≠ some 48 := by
  induction u using Nat.strongRecOn with
  | ind u ih =>
    rw [Js.dec_unfold]
    split
    · rename_i h1
      have : ∀ n, n < 10 → 0 < n → ([UInt8.ofNat (48 + n)] : List UInt8).head? ≠ some 48 := by decide
      exact this u h1 h
    · have h2 := ih (u / 10) (by omega) (by omega)
      have h3 := Js.dec_ne (u / 10)
      cases hd : Lib.decDigits (u / 10) with
      | nil => exact absurd hd h3
      | cons c r => rw [hd] at h2; exact h2
theorem Js.dec_long (u : Nat) (h : 1 < (Lib.decDigits u).length) : 10 ≤ u := by
  rw [Js.dec_unfold] at h
  split at h
  · simp at h
  · omega
theorem Js.ends_digit {r : List UInt8} (h : Js.ends r = true) : r.takeWhile Pl.digit = [] ∧ r.dropWhile Pl.digit = r ∧ r.head? ≠ some 46 ∧ r.head? ≠ some 101 ∧ r.head? ≠ some 69 := by
  cases r with
  | nil => exact ⟨rfl, rfl, by simp, by simp, by simp⟩
  | cons c r =>
    have : ∀ n : Fin 256, (!(Js.ends [UInt8.ofNat n.val]) || decide (Pl.digit (UInt8.ofNat n.val) = false ∧ UInt8.ofNat n.val ≠ 46 ∧ UInt8.ofNat n.val ≠ 101 ∧ UInt8.ofNat n.val ≠ 69)) = true := by decide +kernel
    have h1 := this ⟨c.toNat, c.toNat_lt⟩
    simp only [UInt8.ofNat_toNat] at h1
    have h : Js.ends [c] = true := h
    rw [h, Bool.not_true, Bool.false_or] at h1
    obtain ⟨q1, q2, q3, q4⟩ := of_decide_eq_true h1
    refine ⟨by rw [List.takeWhile_cons, if_neg (by rw [q1]; exact Bool.false_ne_true)], by rw [List.dropWhile_cons, if_neg (by rw [q1]; exact Bool.false_ne_true)], ?_, ?_, ?_⟩
    all_goals simpa
theorem Js.split_digs {a r : List UInt8} (ha : ∀ c ∈ a, Pl.digit c = true) (hr : Js.ends r = true) : (a ++ r).takeWhile Pl.digit = a ∧ (a ++ r).dropWhile Pl.digit = r := by
  have h := Js.ends_digit hr
  refine ⟨by rw [List.takeWhile_append_of_pos ha, h.1, List.append_nil], ?_⟩
  have e : (a ++ r).takeWhile Pl.digit ++ (a ++ r).dropWhile Pl.digit = a ++ r := List.takeWhile_append_dropWhile
  rw [List.takeWhile_append_of_pos ha, h.1, List.append_nil] at e
  exact List.append_cancel_left e
theorem Js.numOf_dec (neg : Bool) (u : Nat) (hu : u ≤ 9007199254740991) {r : List UInt8} (hr : Js.ends r = true) : Js.numOf neg (Lib.decDigits u) r = if neg = true ∧ u = 0 then some (Js.leaf 3 0 9223372036854775808 ⟨#[]⟩, r) else some (Js.leaf 2 (if neg then -(u : Int) else (u : Int)) 0 ⟨#[]⟩, r) := by
  have he := Js.ends_digit hr
  unfold Js.numOf
  rw [Js.dec_val, if_neg]
  rintro (q | q | q | q | q | q)
  · exact Js.dec_ne u q
  · exact Js.dec_head u (by have := Js.dec_long u q.1; omega) q.2
  · omega
  · exact he.2.2.1 q
  · exact he.2.2.2.1 q
  · exact he.2.2.2.2 q
theorem Js.digit_not45 (c : UInt8) (h : Pl.digit c = true) : c ≠ 45 := by
  rintro rfl
  exact absurd h (by decide)
theorem Js.dec_first (u : Nat) (r : List UInt8) : (Lib.decDigits u ++ r).head? ≠ some 45 := by
  have h3 := Js.dec_ne u
  have h4 := Js.dec_all u
  cases hd : Lib.decDigits u with
  | nil => exact absurd hd h3
  | cons c t =>
    rw [hd] at h4
    intro q
    exact Js.digit_not45 c (h4 c List.mem_cons_self) (by simpa using q)
theorem Js.number_itoa (x : Int) (h1 : -9007199254740991 ≤ x) (h2 : x ≤ 9007199254740991) {r : List UInt8} (hr : Js.ends r = true) : Js.number (Lib.itoa x ++ r) = some (Js.leaf 2 x 0 ⟨#[]⟩, r) := by
  unfold Js.number Lib.itoa
  by_cases h0 : x < 0
  · rw [if_pos h0, if_pos (by rfl)]
    show Js.numOf true ((Lib.decDigits x.natAbs ++ r).takeWhile Pl.digit) ((Lib.decDigits x.natAbs ++ r).dropWhile Pl.digit) = _
    obtain ⟨e1, e2⟩ := Js.split_digs (Js.dec_all x.natAbs) hr
    rw [e1, e2, Js.numOf_dec true _ (by omega) hr, if_neg (fun q => by omega), if_pos rfl]
    congr 3
    omega
  · rw [if_neg h0, if_neg (Js.dec_first _ _)]
    obtain ⟨e1, e2⟩ := Js.split_digs (Js.dec_all x.toNat) hr
    rw [e1, e2, Js.numOf_dec false _ (by omega) hr, if_neg (fun q => by cases q.1)]
    simp only [Bool.false_eq_true, if_false]
    congr 3
    omega
theorem Js.number_zero {r : List UInt8} (hr : Js.ends r = true) : Js.number (45 :: 48 :: r) = some (Js.leaf 3 0 9223372036854775808 ⟨#[]⟩, r) := by
  unfold Js.number
  rw [if_pos (by rfl)]
  have e0 : (45 :: 48 :: r).drop 1 = Lib.decDigits 0 ++ r := by rw [Js.dec_unfold]; rfl
  rw [e0]
  obtain ⟨e1, e2⟩ := Js.split_digs (Js.dec_all 0) hr
  rw [e1, e2, Js.numOf_dec true 0 (by omega) hr, if_pos ⟨rfl, rfl⟩]
/-- the first byte of a number -/
theorem Js.itoa_head (x : Int) : ∃ c t, Lib.itoa x = c :: t ∧ (Pl.digit c = true ∨ c = 45) := by
  unfold Lib.itoa
  split
  · exact ⟨_, _, rfl, .inr rfl⟩
  · have h3 := Js.dec_ne x.toNat
    have h4 := Js.dec_all x.toNat
    cases hd : Lib.decDigits x.toNat with
    | nil => exact absurd hd h3
    | cons c t =>
      rw [hd] at h4
      exact ⟨c, t, rfl, .inl (h4 c List.mem_cons_self)⟩
/-- no byte that may stand behind a value begins one -/
def Js.begins (c : UInt8) : Bool := Pl.digit c || decide (c = 45) || decide (c = 110) || decide (c = 116) || decide (c = 102) || decide (c = 34) || decide (c = 91) || decide (c = 123)
theorem Js.begins_facts (c : UInt8) (h : Js.begins c = true) : Js.blank c = false ∧ c ≠ 93 ∧ c ≠ 125 ∧ c ≠ 44 ∧ c ≠ 58 := by
  have : ∀ n : Fin 256, (!Js.begins (UInt8.ofNat n.val) || decide (Js.blank (UInt8.ofNat n.val) = false ∧ UInt8.ofNat n.val ≠ 93 ∧ UInt8.ofNat n.val ≠ 125 ∧ UInt8.ofNat n.val ≠ 44 ∧ UInt8.ofNat n.val ≠ 58)) = true := by decide +kernel
  have h1 := this ⟨c.toNat, c.toNat_lt⟩
  simp only [UInt8.ofNat_toNat] at h1
  rw [h, Bool.not_true, Bool.false_or] at h1
  exact of_decide_eq_true h1
theorem Js.ws_stay {c : UInt8} {l : List UInt8} (h : Js.blank c = false) : Js.ws (c :: l) = c :: l := by
  unfold Js.ws
  rw [List.dropWhile_cons, if_neg (by rw [h]; exact Bool.false_ne_true)]
theorem Js.is_yes {c : UInt8} {l : List UInt8} (h : Js.blank c = false) : Js.is c (c :: l) = some l := by
  unfold Js.is
  rw [Js.ws_stay h]
  show (if c = c then some l else none) = _
  rw [if_pos rfl]
theorem Js.is_no {c d : UInt8} {l : List UInt8} (h : Js.blank d = false) (hd : d ≠ c) : Js.is c (d :: l) = none := by
  unfold Js.is
  rw [Js.ws_stay h]
  show (if d = c then some l else none) = _
  rw [if_neg hd]
/-- a value that begins with a digit or a '-' is a number -/
theorem Js.at_number {val : List UInt8 → Option (Vt × List UInt8)} {c : UInt8} {l : List UInt8} (h : Pl.digit c = true ∨ c = 45) : Js.at val (c :: l) = Js.number (c :: l) := by
  have hc : c ≠ 110 ∧ c ≠ 116 ∧ c ≠ 102 ∧ c ≠ 34 ∧ c ≠ 91 ∧ c ≠ 123 := by
    rcases h with h | rfl
    · refine ⟨?_, ?_, ?_, ?_, ?_, ?_⟩ <;> (rintro rfl; exact absurd h (by decide))
    · decide
  obtain ⟨c1, c2, c3, c4, c5, c6⟩ := hc
  have hp : ∀ (a : UInt8) (p : List UInt8), c ≠ a → ¬ Pl.pre (a :: p) (c :: l) = true := fun a p hne q => by
    rw [Pl.pre_cons, Bool.and_eq_true] at q
    exact hne (eq_of_beq q.1).symm
  unfold Js.at
  rw [if_neg (by simp), if_neg (hp _ _ c1), if_neg (hp _ _ c2), if_neg (hp _ _ c3), if_neg (by simpa using c4), if_neg (by simpa using c5), if_neg (by simpa using c6)]
end Go.Proofs.YtboalkfagfgnpaaGreatDoor

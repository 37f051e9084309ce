/-
  PLAIN: what Escape writes is read again as it was normed.
-/
import Derived.Test.YtboalkfagfgnpabDoorMJTexttoJVal
namespace Go.Proofs.YtboalkfagfgnpabDoor
theorem Js.text_quote (r : List UInt8) : Js.text (34 :: r) = some ([], r) := rfl
theorem Js.text_esc {r b r1 : List UInt8} (h : Js.escaped r = some (b, r1)) : Js.text (92 :: r) = (Js.text r1).map fun p => (b ++ p.1, p.2) := by
  have hl := (Js.escaped_len h).1
  unfold Js.text
  rw [List.length_cons, Js.textF, if_neg (by decide), if_pos rfl, h]
  show (Js.textF r.length r1).map _ = _
  rw [Js.textF_fuel r.length r1.length r1 (by omega) (Nat.le_refl _)]
theorem Js.text_sign {c : UInt8} {r : List UInt8} (h1 : c ≠ 34) (h2 : c ≠ 92) (h3 : ¬ c.toNat < 32) (h4 : Pl.sgn (c :: r) ≠ 0) : Js.text (c :: r) = (Js.text ((c :: r).drop (Pl.sgn (c :: r)))).map fun p => ((c :: r).take (Pl.sgn (c :: r)) ++ p.1, p.2) := by
  unfold Js.text
  rw [List.length_cons, Js.textF, if_neg h1, if_neg h2, if_neg (fun o => o.elim h3 h4)]
  rw [Js.textF_fuel r.length ((c :: r).drop (Pl.sgn (c :: r))).length _ (by rw [List.length_drop, List.length_cons]; omega) (Nat.le_refl _)]
theorem Js.text_bad {c : UInt8} {r : List UInt8} (h1 : c ≠ 34) (h2 : c ≠ 92) (h3 : c.toNat < 32 ∨ Pl.sgn (c :: r) = 0) : Js.text (c :: r) = none := by
  unfold Js.text
  rw [List.length_cons, Js.textF, if_neg h1, if_neg h2, if_pos h3]
theorem Js.text_noesc {r : List UInt8} (h : Js.escaped r = none) : Js.text (92 :: r) = none := by
  unfold Js.text
  rw [List.length_cons, Js.textF, if_neg (by decide), if_pos rfl, h]
/-- a sign of several bytes: one great byte, then bytes from 128 to 191 -/
theorem Js.sgnN_cont (n b0 b1 b2 b3 k : Nat) (h : Pl.sgnN n b0 b1 b2 b3 = k) (hk : 1 < k) : 194 ≤ b0 ∧ (1 < k → 128 ≤ b1 ∧ b1 ≤ 191) ∧ (2 < k → 128 ≤ b2 ∧ b2 ≤ 191) ∧ (3 < k → 128 ≤ b3 ∧ b3 ≤ 191) := by
  unfold Pl.sgnN at h
  repeat' split at h
  all_goals subst h
  all_goals omega
theorem Js.sgn_cont {c : UInt8} {r : List UInt8} (hk : 1 < Pl.sgn (c :: r)) : 194 ≤ c.toNat ∧ ∀ d ∈ r.take (Pl.sgn (c :: r) - 1), 128 ≤ d.toNat ∧ d.toNat ≤ 191 := by
  have h4 := Pl.sgn_le_four (c :: r)
  obtain ⟨g0, g1, g2, g3⟩ := Js.sgnN_cont (c :: r).length (Pl.nb (c :: r) 0) (Pl.nb (c :: r) 1) (Pl.nb (c :: r) 2) (Pl.nb (c :: r) 3) (Pl.sgn (c :: r)) rfl hk
  refine ⟨g0, fun d hd => ?_⟩
  obtain ⟨i, hi⟩ := List.mem_iff_getElem?.1 hd
  rw [List.getElem?_take] at hi
  split at hi
  · rename_i hlt
    have e : Pl.nb (c :: r) (i + 1) = d.toNat := Pl.nb_get (c :: r) (i + 1) d hi
    have : i = 0 ∨ i = 1 ∨ i = 2 := by omega
    rcases this with rfl | rfl | rfl
    all_goals (rw [← e])
    · exact g1 (by omega)
    · exact g2 (by omega)
    · exact g3 (by omega)
  · cases hi
theorem Js.byte_high {c : UInt8} (h : 128 ≤ c.toNat) : Js.byte c = [c] := if_pos (.inr h)
theorem Js.line_not {c : UInt8} (h : c ≠ 226) (r : List UInt8) : Js.line c r = false := by
  unfold Js.line
  rw [decide_eq_false h]
  rfl
theorem Js.escS_cont : ∀ (m t : List UInt8), (∀ d ∈ m, 128 ≤ d.toNat ∧ d.toNat ≤ 191) → Js.escS (m ++ t) = m ++ Js.escS t
  | [], _, _ => rfl
  | d :: m, t, h => by
    have hd := h d List.mem_cons_self
    rw [List.cons_append, Js.escS_byte (Js.line_not (fun q => by rw [q] at hd; exact absurd hd.2 (by decide)) _), Js.byte_high hd.1, Js.escS_cont m t (fun x hx => h x (List.mem_cons_of_mem _ hx))]
    rfl
/-- a byte below 128 told by its number -/
theorem Js.byte_told (c : UInt8) (h0 : c ≠ 0) (h : c.toNat < 128) (hs : Js.stays c = false) (t : List UInt8) : Js.text (Js.byte c ++ t) = (Js.text t).map fun p => (c :: p.1, p.2) := by
  have hb : Js.byte c = [92, 117, 48, 48, Js.hex (c.toNat / 16), Js.hex (c.toNat % 16)] := if_neg (fun o => o.elim (fun q => by rw [hs] at q; cases q) (fun q => by omega))
  have hd : ∀ n, n < 16 → Pl.dig (Js.hex n) = n := by decide
  have h1 := hd (c.toNat / 16) (by omega)
  have h2 := hd (c.toNat % 16) (by omega)
  have hr : Pl.runeL c.toNat = [c] := by
    have hc : c.toNat ≠ 0 := fun q => h0 (UInt8.toNat_inj.1 q)
    unfold Pl.runeL
    rw [if_neg (by omega), if_pos h]
    simp
  have h48 : Pl.dig 48 = 0 := by decide
  have h4 : Js.four (48 :: 48 :: Js.hex (c.toNat / 16) :: Js.hex (c.toNat % 16) :: t) = some (c.toNat, t) := by
    rw [Js.four, h1, h2, h48, if_pos (by omega)]
    congr 2
    omega
  have he : Js.escaped (117 :: 48 :: 48 :: Js.hex (c.toNat / 16) :: Js.hex (c.toNat % 16) :: t) = some ([c], t) := by
    rw [Js.escaped, if_neg (by decide), if_neg (by decide), if_neg (by decide), if_neg (by decide), if_neg (by decide), if_neg (by decide), if_pos rfl]
    unfold Js.uni
    rw [h4]
    show (if 55296 ≤ c.toNat ∧ c.toNat ≤ 56319 then _ else _) = _
    rw [if_neg (by omega), if_neg (by omega), if_neg (fun q : c.toNat = 0 => h0 (UInt8.toNat_inj.1 q)), hr]
  rw [hb]
  exact Js.text_esc he
theorem Js.stays_low (c : UInt8) (h : Js.stays c = true) : c ≠ 34 ∧ c ≠ 92 ∧ ¬ c.toNat < 32 ∧ c ≠ 0 ∧ c.toNat < 128 := by
  have : ∀ n : Fin 256, (!Js.stays (UInt8.ofNat n.val) || decide (UInt8.ofNat n.val ≠ 34 ∧ UInt8.ofNat n.val ≠ 92 ∧ ¬ (UInt8.ofNat n.val).toNat < 32 ∧ UInt8.ofNat n.val ≠ 0 ∧ (UInt8.ofNat n.val).toNat < 128)) = true := by decide +kernel
  have h1 := this ⟨c.toNat, c.toNat_lt⟩
  simp only [UInt8.ofNat_toNat] at h1
  rw [h, Bool.not_true, Bool.false_or] at h1
  exact of_decide_eq_true h1
theorem Js.byte_ascii (c : UInt8) (h0 : c ≠ 0) (h : c.toNat < 128) (t : List UInt8) : Js.text (Js.byte c ++ t) = (Js.text t).map fun p => (c :: p.1, p.2) := by
  cases hs : Js.stays c
  · exact Js.byte_told c h0 h hs t
  · obtain ⟨g1, g2, g3, _, _⟩ := Js.stays_low c hs
    have hb : Js.byte c = [c] := if_pos (.inl hs)
    have e := Pl.sgn_one c t h0 h
    rw [hb]
    show Js.text (c :: t) = _
    rw [Js.text_sign g1 g2 g3 (by rw [e]; decide), e]
    rfl
theorem Js.text_back : ∀ (x t : List UInt8), Pl.mayL x = true → Js.text (Js.escS x ++ t) = (Js.text t).map fun p => (x ++ p.1, p.2) := by
  intro x t
  refine Pl.ind (p := fun x => Pl.mayL x = true → Js.text (Js.escS x ++ t) = (Js.text t).map fun p => (x ++ p.1, p.2)) ?_ ?_ ?_ x
  · intro _
    show Js.text t = _
    cases Js.text t <;> rfl
  · intro l hl h0 _ hm
    rw [Pl.mayL_bad l hl h0] at hm
    cases hm
  · intro l hs ih hm
    rw [Pl.mayL_sign l hs] at hm
    have ih := ih hm
    cases l with
    | nil => exact absurd rfl (Pl.ne_nil_of_sgn hs)
    | cons c r =>
      by_cases h1 : Pl.sgn (c :: r) = 1
      · have hp : c ≠ 0 ∧ c.toNat < 128 := by
          rcases Pl.sgnN_parts (c :: r).length (Pl.nb (c :: r) 0) (Pl.nb (c :: r) 1) (Pl.nb (c :: r) 2) (Pl.nb (c :: r) 3) _ rfl hs with ⟨_, q1, q2⟩ | ⟨_, _, _, _, q⟩
          · exact ⟨fun q => by rw [q] at q1; exact q1 rfl, q2⟩
          · have q : 1 < Pl.sgn (c :: r) := q
            omega
        rw [h1] at ih
        have ih : Js.text (Js.escS r ++ t) = (Js.text t).map fun p => (r ++ p.1, p.2) := ih
        rw [Js.escS_byte (Js.line_not (fun q => by rw [q] at hp; exact absurd hp.2 (by decide)) _), List.append_assoc, Js.byte_ascii c hp.1 hp.2, ih]
        cases Js.text t <;> rfl
      · have hk : 1 < Pl.sgn (c :: r) := by omega
        obtain ⟨g0, g1⟩ := Js.sgn_cont hk
        cases hl : Js.line c r
        · have e : c :: r = c :: (r.take (Pl.sgn (c :: r) - 1) ++ r.drop (Pl.sgn (c :: r) - 1)) := by rw [List.take_append_drop]
          have ed : (c :: r).drop (Pl.sgn (c :: r)) = r.drop (Pl.sgn (c :: r) - 1) := by
            conv => lhs; rw [show Pl.sgn (c :: r) = (Pl.sgn (c :: r) - 1) + 1 by omega]
            rfl
          have et : (c :: r).take (Pl.sgn (c :: r)) = c :: r.take (Pl.sgn (c :: r) - 1) := by
            conv => lhs; rw [show Pl.sgn (c :: r) = (Pl.sgn (c :: r) - 1) + 1 by omega]
            rfl
          have ee : Js.escS (c :: r) = (c :: r).take (Pl.sgn (c :: r)) ++ Js.escS ((c :: r).drop (Pl.sgn (c :: r))) := by
            rw [Js.escS_byte hl, Js.byte_high (by omega), et, ed]
            conv => lhs; rw [← List.take_append_drop (Pl.sgn (c :: r) - 1) r]
            rw [Js.escS_cont _ _ g1]
            rfl
          have hsn := Pl.sgn_take_append (c :: r) (Js.escS ((c :: r).drop (Pl.sgn (c :: r))) ++ t) hs
          have hkl : Pl.sgn (c :: r) ≤ (c :: r).length := Pl.sgn_le _
          rw [ee, List.append_assoc]
          generalize hK : Pl.sgn (c :: r) = K at *
          generalize hW : (c :: r).drop K = W at *
          have hc : (c :: r).take K ++ (Js.escS W ++ t) = c :: (r.take (K - 1) ++ (Js.escS W ++ t)) := by rw [et]; rfl
          have hdrop : (c :: (r.take (K - 1) ++ (Js.escS W ++ t))).drop K = Js.escS W ++ t := by rw [← hc]; exact Pl.drop_take_append _ _ _ hkl
          have htake : (c :: (r.take (K - 1) ++ (Js.escS W ++ t))).take K = (c :: r).take K := by rw [← hc]; exact Pl.take_take_append _ _ _ hkl
          rw [hc] at hsn ⊢
          rw [Js.text_sign (fun q => by rw [q] at g0; exact absurd g0 (by decide)) (fun q => by rw [q] at g0; exact absurd g0 (by decide)) (by omega) (by rw [hsn]; exact hs), hsn, hdrop, htake, ih]
          have hj : (c :: r) = (c :: r).take K ++ W := by rw [← hW, List.take_append_drop]
          generalize (c :: r).take K = P at hj ⊢
          rw [hj]
          cases Js.text t
          · rfl
          · simp [List.append_assoc]
        · obtain ⟨rfl, q, hq⟩ := Js.line_parts hl
          have hs3 : Pl.sgn (226 :: r) = 3 := by
            unfold Pl.sgn Pl.sgnN at hk ⊢
            rcases hq with rfl | rfl <;> simp [Pl.nb]
          rw [hs3] at ih
          rcases hq with rfl | rfl
          · have ih : Js.text (Js.escS q ++ t) = (Js.text t).map fun p => (q ++ p.1, p.2) := ih
            rw [Js.escS_line hl]
            have he : Js.escaped (117 :: 50 :: 48 :: 50 :: 56 :: (Js.escS q ++ t)) = some ([226, 128, 168], Js.escS q ++ t) := rfl
            refine Eq.trans ?_ ((Js.text_esc he).trans (c := (Js.text t).map fun p => (226 :: 128 :: 168 :: q ++ p.1, p.2)) ?_)
            · show Js.text (92 :: 117 :: 50 :: 48 :: 50 :: (48 + (168 - 160)) :: (Js.escS q ++ t)) = _
              rw [show (48 : UInt8) + (168 - 160) = 56 from by decide]
            · rw [ih]
              cases Js.text t <;> rfl
          · have ih : Js.text (Js.escS q ++ t) = (Js.text t).map fun p => (q ++ p.1, p.2) := ih
            rw [Js.escS_line hl]
            have he : Js.escaped (117 :: 50 :: 48 :: 50 :: 57 :: (Js.escS q ++ t)) = some ([226, 128, 169], Js.escS q ++ t) := rfl
            refine Eq.trans ?_ ((Js.text_esc he).trans (c := (Js.text t).map fun p => (226 :: 128 :: 169 :: q ++ p.1, p.2)) ?_)
            · show Js.text (92 :: 117 :: 50 :: 48 :: 50 :: (48 + (169 - 160)) :: (Js.escS q ++ t)) = _
              rw [show (48 : UInt8) + (169 - 160) = 57 from by decide]
            · rw [ih]
              cases Js.text t <;> rfl
/-- a text that was put is read normed -/
theorem Js.text_put (l r : List UInt8) : Js.text (Js.esc l ++ 34 :: r) = some (Pl.normL l, r) := by
  have := Js.text_back (Pl.normL l) (34 :: r) (Pl.may_norm l)
  unfold Js.esc
  rw [this, Js.text_quote]
  simp
end Go.Proofs.YtboalkfagfgnpabDoor

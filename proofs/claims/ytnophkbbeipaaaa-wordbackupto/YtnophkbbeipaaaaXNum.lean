/-
  THE WALKS of the landed reader: digits, number.
-/
import Derived.Test.YtnophkbbeipaaaaXName
namespace Go.Proofs.Ytnophkbbeipaaaa
open Go.RowKit
/-- what digits reads, of what the document's digits are -/
def Xr.dg (i : Nat) (r : Nat × Nat) : Option (Nat × Nat) := if r.2 = i ∨ 9007199254740991 < r.1 then none else some r
theorem Xr.digs_big : ∀ (l : List UInt8) (i x : Nat), 9007199254740991 < x → (Wx.digs i l x).1 = x
  | [], i, x, h => rfl
  | c :: l, i, x, h => by
    unfold Wx.digs
    split
    · rw [if_neg (by omega)]
      exact Xr.digs_big l (i + 1) x h
    · rfl
theorem Xr.dg_big {l : List UInt8} {i j x : Nat} (h : 9007199254740991 < x) : Xr.dg i (Wx.digs j l x) = none := by
  unfold Xr.dg
  rw [if_pos (.inr (by rw [Xr.digs_big l j x h]; exact h))]
theorem Xr.digit_48 {c : UInt8} (h : Pl.digit c = true) : 48 ≤ c.toNat ∧ c.toNat ≤ 57 := by
  unfold Pl.digit at h
  simpa using h
set_option maxHeartbeats 4000000 in
theorem Xr.digits {w0 w : World} {g : Nat} {s : ByteArray} {i : Nat} (h : Xr.At w0 w g s i) (hs : s.size ≤ 1099511627776) :
    Calls Try.prog 45 #[.pointer (some ⟨g, 0, none⟩)] w (Xr.Out (Xr.dg i (Wx.digs i (s.data.toList.drop i) 0)) 1402 (fun x : Nat => .int .i64 (x : Int)) w0 g s) := by
  obtain ⟨O, hO⟩ : ∃ O, Xr.dg i (Wx.digs i (s.data.toList.drop i) 0) = O := ⟨_, rfl⟩
  rw [hO]
  have HO := Lib.hid hO
  have pk := Xr.peek h
  have di := fun u => Xr.isDigit (s.data.toList.getD i 0) u
  have H := Lib.hid h
  clear h hO
  cases hd : Pl.digit (s.data.toList.getD i 0) with
  | false =>
    rw [hd] at di
    have hO : none = O := by
      have e : Wx.digs i (s.data.toList.drop i) 0 = (0, i) := by
        by_cases q : i < s.size
        · rw [Xr.getD q] at hd
          rw [Wx.digs_step 0 q, if_neg (by rw [hd]; decide)]
        · rw [Wx.digs_end 0 (by omega)]
      rw [← HO.out, e]
      unfold Xr.dg
      rw [if_pos (.inl rfl)]
    subst hO
    clear HO hd
    generalize ((s.data.toList.getD i 0).toNat : Int) = c at *
    go_enter Try.func45, Try.ntmps45
    go_wp2_with (first | (go_at_call 31; refine pk.mono ?_; rintro e w1 ⟨rfl, n1, rfl⟩; have HA1 := Lib.hid (H.out.drewN n1); clear pk H; generalize w.drewN n1 = w1 at *) | (go_at_call 37; refine (di _).mono ?_; rintro e w' ⟨rfl, hw⟩; have hw := hw.symm; subst hw))
    exact ⟨rfl, rfl, HA1.out.kept⟩
  | true =>
    rw [hd] at di
    have HD := Lib.hid hd
    clear hd
    generalize ((s.data.toList.getD i 0).toNat : Int) = c at *
    go_enter Try.func45, Try.ntmps45
    go_wp2_with (first | (go_at_call 31; refine pk.mono ?_; rintro e w1 ⟨rfl, n1, rfl⟩; have HA1 := Lib.hid (H.out.drewN n1); clear pk H; generalize w.drewN n1 = w1 at *) | (go_at_call 37; refine (di _).mono ?_; rintro e w' ⟨rfl, hw⟩; have hw := hw.symm; subst hw; clear di))
    go_loopw [3] (fun nv wr => ∃ (j n : Nat), nv = .int .i64 (n : Int) ∧ n ≤ 9007199254740991 ∧ i ≤ j ∧ Hid (Xr.At w0 wr g s j) ∧ Hid (Xr.dg i (Wx.digs j (s.data.toList.drop j) n) = O)) (fun _ wr => s.size - Xr.place g wr)
    case atStart => exact ⟨i, 0, rfl, by omega, Nat.le_refl _, HA1, HO⟩
    case round =>
      clear HO HA1
      obtain ⟨j, n, rfl, hn, hij, HA, HO⟩ := hrel
      have HM := Lib.hid (Xr.place_eq HA.out)
      have pk := Xr.peek HA.out
      have di := fun u => Xr.isDigit (s.data.toList.getD j 0) u
      cases hdj : Pl.digit (s.data.toList.getD j 0) with
      | true =>
        rw [hdj] at di
        have hlt : j < s.size := by
          by_cases q : j < s.size
          · exact q
          · rw [Xr.getD_end (by omega)] at hdj
            exact absurd hdj (by decide)
        obtain ⟨h48, h57⟩ := Xr.digit_48 hdj
        rw [Xr.getD hlt] at hdj
        have HO2 : Hid (Xr.dg i (Wx.digs (j + 1) (s.data.toList.drop (j + 1)) (10 * n + ((s.data.toList.getD j 0).toNat - 48))) = O) := by
          have := HO.out
          rw [Wx.digs_step n hlt, if_pos hdj, if_pos hn] at this
          rw [Xr.getD hlt]
          exact this
        clear hdj HO HD
        have pk2 := fun u (q : Xr.At w0 u g s j) => Xr.peek q
        generalize (s.data.toList.getD j 0).toNat = m at *
        obtain ⟨D, hD⟩ : ∃ D, m - 48 = D := ⟨_, rfl⟩
        rw [hD] at HO2
        have e8 : IntKind.u8.wrap ((m : Int) - 48) = (D : Int) := by rw [IntKind.wrap_u8]; omega
        have hD9 : D ≤ 9 := by omega
        clear hD h48 h57
        by_cases hbig : 9007199254740991 < 10 * n + D
        · have hO : none = O := by rw [← HO2.out, Xr.dg_big hbig]
          subst hO
          have dg : decide ((9007199254740991 : Int) < (n : Int) * 10 + (D : Int)) = true := decide_eq_true (by omega)
          clear HO2
          go_wp2_with (first | (go_at_call 31; refine pk.mono ?_; rintro e w1 ⟨rfl, n1, rfl⟩; have HA1 := Lib.hid (HA.out.drewN n1); clear HA pk; generalize wr.drewN n1 = w1 at *; have pk3 := pk2 _ HA1.out) | (go_at_call 31; refine pk3.mono ?_; rintro e w2 ⟨rfl, n2, rfl⟩; have HA2 := Lib.hid (HA1.out.drewN n2); clear HA1 pk3; generalize w1.drewN n2 = w2 at *) | (go_at_call 37; refine (di _).mono ?_; rintro e w' ⟨rfl, hw⟩; have hw := hw.symm; subst hw))
          exact ⟨rfl, rfl, HA2.out.kept⟩
        · have dg : decide ((9007199254740991 : Int) < (n : Int) * 10 + (D : Int)) = false := decide_eq_false (by omega)
          have EN : Hid (((n : Int) * 10 + (D : Int)) = ((10 * n + D : Nat) : Int)) := by unfold Hid; omega
          go_wp2_with (first | (go_at_call 31; refine pk.mono ?_; rintro e w1 ⟨rfl, n1, rfl⟩; have HA1 := Lib.hid (HA.out.drewN n1); clear HA pk; generalize wr.drewN n1 = w1 at *; have pk3 := pk2 _ HA1.out) | (go_at_call 31; refine pk3.mono ?_; rintro e w2 ⟨rfl, n2, rfl⟩; have HA2 := Lib.hid (HA1.out.drewN n2); clear HA1 pk3; generalize w1.drewN n2 = w2 at *; have c1 := HA2.out.c1; have f := HA2.out.fz; have HA3 := Lib.hid (HA2.out.set1 (j + 1) hlt); rw [show ((j + 1 : Nat) : Int) = (j : Int) + 1 by omega] at HA3; clear HA2) | (go_at_call 37; refine (di _).mono ?_; rintro e w' ⟨rfl, hw⟩; have hw := hw.symm; subst hw))
          go_roundw
          case rel => exact ⟨j + 1, 10 * n + D, by rw [EN.out], by omega, by omega, HA3, HO2⟩
          case measure => rw [Xr.place_eq HA3.out, HM.out]; omega
      | false =>
        rw [hdj] at di
        have hji : j ≠ i := by
          rintro rfl
          have := HD.out
          rw [hdj] at this
          cases this
        have hO : some (n, j) = O := by
          rw [← HO.out]
          have e : Wx.digs j (s.data.toList.drop j) n = (n, j) := by
            by_cases q : j < s.size
            · rw [Xr.getD q] at hdj
              rw [Wx.digs_step n q, if_neg (by rw [hdj]; decide)]
            · rw [Wx.digs_end n (by omega)]
          rw [e]
          unfold Xr.dg
          rw [if_neg (fun q => q.elim hji (fun q => by omega))]
        subst hO
        clear HO HD hdj hji HM
        generalize ((s.data.toList.getD j 0).toNat : Int) = c2 at *
        go_wp2_with (first | (go_at_call 31; refine pk.mono ?_; rintro e w1 ⟨rfl, n1, rfl⟩; have HA1 := Lib.hid (HA.out.drewN n1); clear HA pk; generalize wr.drewN n1 = w1 at *) | (go_at_call 37; refine (di _).mono ?_; rintro e w' ⟨rfl, hw⟩; have hw := hw.symm; subst hw))
        go_ret
        exact ⟨rfl, HA1.out⟩
theorem Xr.pre_one {s : ByteArray} {i : Nat} (c : UInt8) : Lib.hasPrefix (s.data.toList.drop i) [c] = decide (s.data.toList[i]? = some c) := by
  show List.isPrefixOf [c] (s.data.toList.drop i) = _
  by_cases q : i < s.size
  · rw [Rl.drop s i q, Wx.get q]
    simp only [List.isPrefixOf, Bool.and_true, Option.some.injEq]
    by_cases e : s[i] = c
    · rw [e]; simp
    · rw [decide_eq_false e, beq_eq_false_iff_ne]
      exact fun h => e h.symm
  · rw [Wx.drop_none (by omega), List.getElem?_eq_none (by rw [Wk.len_data]; omega)]
    rfl
set_option maxHeartbeats 4000000 in
theorem Xr.number {w0 w : World} {g : Nat} {s : ByteArray} {i : Nat} (h : Xr.At w0 w g s i) (hs : s.size ≤ 1099511627776) :
    Calls Try.prog 38 #[.pointer (some ⟨g, 0, none⟩)] w (Xr.Out (Wx.int s.data.toList i) 1402 (fun x : Int => .int .i64 x) w0 g s) := by
  have sk := fun b hb => Xr.skip ⟨#[45]⟩ b h hs hb
  have e1 := Xr.pre_one (s := s) (i := i) 45
  obtain ⟨O, hO⟩ : ∃ O, Wx.int s.data.toList i = O := ⟨_, rfl⟩
  rw [hO]
  have HO := Lib.hid hO
  unfold Wx.int at hO
  cases hn : decide (s.data.toList[i]? = some 45) with
  | true =>
    rw [hn] at hO e1
    simp only [if_true] at hO
    have s1 := sk true e1
    rw [if_pos rfl, show (⟨#[45]⟩ : ByteArray).size = 1 from rfl] at s1
    have dg := fun u q => Xr.digits (w0 := w0) (w := u) (g := g) (s := s) (i := i + 1) q hs
    cases hD : Xr.dg (i + 1) (Wx.digs (i + 1) (s.data.toList.drop (i + 1)) 0) with
    | none =>
      have hO2 : none = O := by
        rw [← hO]
        unfold Xr.dg at hD
        split at hD
        · rename_i q; rw [if_pos q]
        · cases hD
      subst hO2
      rw [hD] at dg
      clear hO hD hn e1 HO sk
      go_enter Try.func38, Try.ntmps38
      go_wp2_with (first | (go_at_call 32; refine s1.mono ?_; rintro e w1 ⟨rfl, a1⟩; replace dg := dg _ a1; clear s1 a1) | (go_at_call 45; refine dg.mono ?_; rintro e w2 ⟨rfl, k2⟩; have HK2 := Lib.hid k2; clear k2))
      exact ⟨rfl, rfl, HK2.out⟩
    | some p =>
      obtain ⟨x, j⟩ := p
      have hx : x ≤ 9007199254740991 ∧ some (-(x : Int), j) = O := by
        rw [← hO]
        unfold Xr.dg at hD
        split at hD
        · cases hD
        · rename_i q
          injection hD with hD
          rw [if_neg q, hD]
          rw [hD] at q
          exact ⟨by omega, rfl⟩
      obtain ⟨hx, hO2⟩ := hx
      subst hO2
      rw [hD] at dg
      clear hO hD hn e1 HO sk
      go_enter Try.func38, Try.ntmps38
      go_wp2_with (first | (go_at_call 32; refine s1.mono ?_; rintro e w1 ⟨rfl, a1⟩; replace dg := dg _ a1; clear s1 a1) | (go_at_call 45; refine dg.mono ?_; rintro e w2 ⟨rfl, a2⟩; have HA2 := Lib.hid a2; clear a2))
      go_ret
      exact ⟨rfl, HA2.out⟩
  | false =>
    rw [hn] at hO e1
    simp only [Bool.false_eq_true, if_false] at hO
    have s1 := sk false e1
    rw [if_neg (by decide)] at s1
    have dg := fun u q => Xr.digits (w0 := w0) (w := u) (g := g) (s := s) (i := i) q hs
    cases hD : Xr.dg i (Wx.digs i (s.data.toList.drop i) 0) with
    | none =>
      have hO2 : none = O := by
        rw [← hO]
        unfold Xr.dg at hD
        split at hD
        · rename_i q; rw [if_pos q]
        · cases hD
      subst hO2
      rw [hD] at dg
      clear hO hD hn e1 HO sk
      go_enter Try.func38, Try.ntmps38
      go_wp2_with (first | (go_at_call 32; refine s1.mono ?_; rintro e w1 ⟨rfl, a1⟩; replace dg := dg _ a1; clear s1 a1) | (go_at_call 45; refine dg.mono ?_; rintro e w2 ⟨rfl, k2⟩; have HK2 := Lib.hid k2; clear k2))
      exact ⟨rfl, rfl, HK2.out⟩
    | some p =>
      obtain ⟨x, j⟩ := p
      have hx : x ≤ 9007199254740991 ∧ some ((x : Int), j) = O := by
        rw [← hO]
        unfold Xr.dg at hD
        split at hD
        · cases hD
        · rename_i q
          injection hD with hD
          rw [if_neg q, hD]
          rw [hD] at q
          exact ⟨by omega, rfl⟩
      obtain ⟨hx, hO2⟩ := hx
      subst hO2
      rw [hD] at dg
      clear hO hD hn e1 HO sk
      go_enter Try.func38, Try.ntmps38
      go_wp2_with (first | (go_at_call 32; refine s1.mono ?_; rintro e w1 ⟨rfl, a1⟩; replace dg := dg _ a1; clear s1 a1) | (go_at_call 45; refine dg.mono ?_; rintro e w2 ⟨rfl, a2⟩; have HA2 := Lib.hid a2; clear a2))
      go_ret
      exact ⟨rfl, HA2.out⟩
end Go.Proofs.Ytnophkbbeipaaaa

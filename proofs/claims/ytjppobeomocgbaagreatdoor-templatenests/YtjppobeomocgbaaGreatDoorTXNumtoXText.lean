/-
  THE WALKS of the landed reader: digits, number.
-/
import Derived.Test.YtjppobeomocgbaaGreatDoorTXShtoXName
import Derived.Shelf.Strings.BuilderRune
namespace Go.Proofs.YtjppobeomocgbaaGreatDoor
open Go.RowKit
/-- what digits reads, of what the document's digits are -/
def Xr.dg (i : Nat) (r : Nat × Nat) : Option (Nat × Nat) := if r.2 = i ∨ 9007199254740991 < r.1 then none else some r
theorem Xr.digs_big : ∀ (l : List UInt8) (i x : Nat), 9007199254740991 < x → (Wx.digs i l x).1 = x
  | [], i, x, h => rfl
  | c :: l, i, x, h => by
    unfold Wx.digs
    split
    · rw [if_neg (by omega)]
      exact Xr.digs_big l (i + 1) x h
    · rfl
theorem Xr.dg_big {l : List UInt8} {i j x : Nat} (h : 9007199254740991 < x) : Xr.dg i (Wx.digs j l x) = none := by
  unfold Xr.dg
  rw [if_pos (.inr (by rw [Xr.digs_big l j x h]; exact h))]
theorem Xr.digit_48 {c : UInt8} (h : Pl.digit c = true) : 48 ≤ c.toNat ∧ c.toNat ≤ 57 := by
  unfold Pl.digit at h
  simpa using h
set_option maxHeartbeats 4000000 in
theorem Xr.digits {w0 w : World} {g : Nat} {s : ByteArray} {i : Nat} (h : Xr.At w0 w g s i) (hs : s.size ≤ 1099511627776) :
    Calls Tryz.prog 152 #[.pointer (some ⟨g, 0, none⟩)] w (Xr.Out (Xr.dg i (Wx.digs i (s.data.toList.drop i) 0)) 1402 (fun x : Nat => .int .i64 (x : Int)) w0 g s) := by
  obtain ⟨O, hO⟩ : ∃ O, Xr.dg i (Wx.digs i (s.data.toList.drop i) 0) = O := ⟨_, rfl⟩
  rw [hO]
  have HO := Lib.hid hO
  have pk := Xr.peek h
  have di := fun u => Xr.isDigit (s.data.toList.getD i 0) u
  have H := Lib.hid h
  clear h hO
  cases hd : Pl.digit (s.data.toList.getD i 0) with
  | false =>
    rw [hd] at di
    have hO : none = O := by
      have e : Wx.digs i (s.data.toList.drop i) 0 = (0, i) := by
        by_cases q : i < s.size
        · rw [Xr.getD q] at hd
          rw [Wx.digs_step 0 q, if_neg (by rw [hd]; decide)]
        · rw [Wx.digs_end 0 (by omega)]
      rw [← HO.out, e]
      unfold Xr.dg
      rw [if_pos (.inl rfl)]
    subst hO
    clear HO hd
    generalize ((s.data.toList.getD i 0).toNat : Int) = c at *
    go_enter Tryz.func152, Tryz.ntmps152
    go_wp2_with (first | (go_at_call 109; refine pk.mono ?_; rintro e w1 ⟨rfl, n1, rfl⟩; have HA1 := Lib.hid (H.out.drewN n1); clear pk H; generalize w.drewN n1 = w1 at *) | (go_at_call 131; refine (di _).mono ?_; rintro e w' ⟨rfl, hw⟩; have hw := hw.symm; subst hw))
    exact ⟨rfl, rfl, HA1.out.kept⟩
  | true =>
    rw [hd] at di
    have HD := Lib.hid hd
    clear hd
    generalize ((s.data.toList.getD i 0).toNat : Int) = c at *
    go_enter Tryz.func152, Tryz.ntmps152
    go_wp2_with (first | (go_at_call 109; refine pk.mono ?_; rintro e w1 ⟨rfl, n1, rfl⟩; have HA1 := Lib.hid (H.out.drewN n1); clear pk H; generalize w.drewN n1 = w1 at *) | (go_at_call 131; refine (di _).mono ?_; rintro e w' ⟨rfl, hw⟩; have hw := hw.symm; subst hw; clear di))
    go_loopw [3] (fun nv wr => ∃ (j n : Nat), nv = .int .i64 (n : Int) ∧ n ≤ 9007199254740991 ∧ i ≤ j ∧ Hid (Xr.At w0 wr g s j) ∧ Hid (Xr.dg i (Wx.digs j (s.data.toList.drop j) n) = O)) (fun _ wr => s.size - Xr.place g wr)
    case atStart => exact ⟨i, 0, rfl, by omega, Nat.le_refl _, HA1, HO⟩
    case round =>
      clear HO HA1
      obtain ⟨j, n, rfl, hn, hij, HA, HO⟩ := hrel
      have HM := Lib.hid (Xr.place_eq HA.out)
      have pk := Xr.peek HA.out
      have di := fun u => Xr.isDigit (s.data.toList.getD j 0) u
      cases hdj : Pl.digit (s.data.toList.getD j 0) with
      | true =>
        rw [hdj] at di
        have hlt : j < s.size := by
          by_cases q : j < s.size
          · exact q
          · rw [Xr.getD_end (by omega)] at hdj
            exact absurd hdj (by decide)
        obtain ⟨h48, h57⟩ := Xr.digit_48 hdj
        rw [Xr.getD hlt] at hdj
        have HO2 : Hid (Xr.dg i (Wx.digs (j + 1) (s.data.toList.drop (j + 1)) (10 * n + ((s.data.toList.getD j 0).toNat - 48))) = O) := by
          have := HO.out
          rw [Wx.digs_step n hlt, if_pos hdj, if_pos hn] at this
          rw [Xr.getD hlt]
          exact this
        clear hdj HO HD
        have pk2 := fun u (q : Xr.At w0 u g s j) => Xr.peek q
        generalize (s.data.toList.getD j 0).toNat = m at *
        obtain ⟨D, hD⟩ : ∃ D, m - 48 = D := ⟨_, rfl⟩
        rw [hD] at HO2
        have e8 : IntKind.u8.wrap ((m : Int) - 48) = (D : Int) := by rw [IntKind.wrap_u8]; omega
        have hD9 : D ≤ 9 := by omega
        clear hD h48 h57
        by_cases hbig : 9007199254740991 < 10 * n + D
        · have hO : none = O := by rw [← HO2.out, Xr.dg_big hbig]
          subst hO
          have dg : decide ((9007199254740991 : Int) < (n : Int) * 10 + (D : Int)) = true := decide_eq_true (by omega)
          clear HO2
          go_wp2_with (first | (go_at_call 109; refine pk.mono ?_; rintro e w1 ⟨rfl, n1, rfl⟩; have HA1 := Lib.hid (HA.out.drewN n1); clear HA pk; generalize wr.drewN n1 = w1 at *; have pk3 := pk2 _ HA1.out) | (go_at_call 109; refine pk3.mono ?_; rintro e w2 ⟨rfl, n2, rfl⟩; have HA2 := Lib.hid (HA1.out.drewN n2); clear HA1 pk3; generalize w1.drewN n2 = w2 at *) | (go_at_call 131; refine (di _).mono ?_; rintro e w' ⟨rfl, hw⟩; have hw := hw.symm; subst hw))
          exact ⟨rfl, rfl, HA2.out.kept⟩
        · have dg : decide ((9007199254740991 : Int) < (n : Int) * 10 + (D : Int)) = false := decide_eq_false (by omega)
          have EN : Hid (((n : Int) * 10 + (D : Int)) = ((10 * n + D : Nat) : Int)) := by unfold Hid; omega
          go_wp2_with (first | (go_at_call 109; refine pk.mono ?_; rintro e w1 ⟨rfl, n1, rfl⟩; have HA1 := Lib.hid (HA.out.drewN n1); clear HA pk; generalize wr.drewN n1 = w1 at *; have pk3 := pk2 _ HA1.out) | (go_at_call 109; refine pk3.mono ?_; rintro e w2 ⟨rfl, n2, rfl⟩; have HA2 := Lib.hid (HA1.out.drewN n2); clear HA1 pk3; generalize w1.drewN n2 = w2 at *; have c1 := HA2.out.c1; have f := HA2.out.fz; have HA3 := Lib.hid (HA2.out.set1 (j + 1) hlt); rw [show ((j + 1 : Nat) : Int) = (j : Int) + 1 by omega] at HA3; clear HA2) | (go_at_call 131; refine (di _).mono ?_; rintro e w' ⟨rfl, hw⟩; have hw := hw.symm; subst hw))
          go_roundw
          case rel => exact ⟨j + 1, 10 * n + D, by rw [EN.out], by omega, by omega, HA3, HO2⟩
          case measure => rw [Xr.place_eq HA3.out, HM.out]; omega
      | false =>
        rw [hdj] at di
        have hji : j ≠ i := by
          rintro rfl
          have := HD.out
          rw [hdj] at this
          cases this
        have hO : some (n, j) = O := by
          rw [← HO.out]
          have e : Wx.digs j (s.data.toList.drop j) n = (n, j) := by
            by_cases q : j < s.size
            · rw [Xr.getD q] at hdj
              rw [Wx.digs_step n q, if_neg (by rw [hdj]; decide)]
            · rw [Wx.digs_end n (by omega)]
          rw [e]
          unfold Xr.dg
          rw [if_neg (fun q => q.elim hji (fun q => by omega))]
        subst hO
        clear HO HD hdj hji HM
        generalize ((s.data.toList.getD j 0).toNat : Int) = c2 at *
        go_wp2_with (first | (go_at_call 109; refine pk.mono ?_; rintro e w1 ⟨rfl, n1, rfl⟩; have HA1 := Lib.hid (HA.out.drewN n1); clear HA pk; generalize wr.drewN n1 = w1 at *) | (go_at_call 131; refine (di _).mono ?_; rintro e w' ⟨rfl, hw⟩; have hw := hw.symm; subst hw))
        go_ret
        exact ⟨rfl, HA1.out⟩
theorem Xr.pre_one {s : ByteArray} {i : Nat} (c : UInt8) : Lib.hasPrefix (s.data.toList.drop i) [c] = decide (s.data.toList[i]? = some c) := by
  show List.isPrefixOf [c] (s.data.toList.drop i) = _
  by_cases q : i < s.size
  · rw [Rl.drop s i q, Wx.get q]
    simp only [List.isPrefixOf, Bool.and_true, Option.some.injEq]
    by_cases e : s[i] = c
    · rw [e]; simp
    · rw [decide_eq_false e, beq_eq_false_iff_ne]
      exact fun h => e h.symm
  · rw [Wx.drop_none (by omega), List.getElem?_eq_none (by rw [Wk.len_data]; omega)]
    rfl
set_option maxHeartbeats 4000000 in
theorem Xr.number {w0 w : World} {g : Nat} {s : ByteArray} {i : Nat} (h : Xr.At w0 w g s i) (hs : s.size ≤ 1099511627776) :
    Calls Tryz.prog 132 #[.pointer (some ⟨g, 0, none⟩)] w (Xr.Out (Wx.int s.data.toList i) 1402 (fun x : Int => .int .i64 x) w0 g s) := by
  have sk := fun b hb => Xr.skip ⟨#[45]⟩ b h hs hb
  have e1 := Xr.pre_one (s := s) (i := i) 45
  obtain ⟨O, hO⟩ : ∃ O, Wx.int s.data.toList i = O := ⟨_, rfl⟩
  rw [hO]
  have HO := Lib.hid hO
  unfold Wx.int at hO
  cases hn : decide (s.data.toList[i]? = some 45) with
  | true =>
    rw [hn] at hO e1
    simp only [if_true] at hO
    have s1 := sk true e1
    rw [if_pos rfl, show (⟨#[45]⟩ : ByteArray).size = 1 from rfl] at s1
    have dg := fun u q => Xr.digits (w0 := w0) (w := u) (g := g) (s := s) (i := i + 1) q hs
    cases hD : Xr.dg (i + 1) (Wx.digs (i + 1) (s.data.toList.drop (i + 1)) 0) with
    | none =>
      have hO2 : none = O := by
        rw [← hO]
        unfold Xr.dg at hD
        split at hD
        · rename_i q; rw [if_pos q]
        · cases hD
      subst hO2
      rw [hD] at dg
      clear hO hD hn e1 HO sk
      go_enter Tryz.func132, Tryz.ntmps132
      go_wp2_with (first | (go_at_call 110; refine s1.mono ?_; rintro e w1 ⟨rfl, a1⟩; replace dg := dg _ a1; clear s1 a1) | (go_at_call 152; refine dg.mono ?_; rintro e w2 ⟨rfl, k2⟩; have HK2 := Lib.hid k2; clear k2))
      exact ⟨rfl, rfl, HK2.out⟩
    | some p =>
      obtain ⟨x, j⟩ := p
      have hx : x ≤ 9007199254740991 ∧ some (-(x : Int), j) = O := by
        rw [← hO]
        unfold Xr.dg at hD
        split at hD
        · cases hD
        · rename_i q
          injection hD with hD
          rw [if_neg q, hD]
          rw [hD] at q
          exact ⟨by omega, rfl⟩
      obtain ⟨hx, hO2⟩ := hx
      subst hO2
      rw [hD] at dg
      clear hO hD hn e1 HO sk
      go_enter Tryz.func132, Tryz.ntmps132
      go_wp2_with (first | (go_at_call 110; refine s1.mono ?_; rintro e w1 ⟨rfl, a1⟩; replace dg := dg _ a1; clear s1 a1) | (go_at_call 152; refine dg.mono ?_; rintro e w2 ⟨rfl, a2⟩; have HA2 := Lib.hid a2; clear a2))
      go_ret
      exact ⟨rfl, HA2.out⟩
  | false =>
    rw [hn] at hO e1
    simp only [Bool.false_eq_true, if_false] at hO
    have s1 := sk false e1
    rw [if_neg (by decide)] at s1
    have dg := fun u q => Xr.digits (w0 := w0) (w := u) (g := g) (s := s) (i := i) q hs
    cases hD : Xr.dg i (Wx.digs i (s.data.toList.drop i) 0) with
    | none =>
      have hO2 : none = O := by
        rw [← hO]
        unfold Xr.dg at hD
        split at hD
        · rename_i q; rw [if_pos q]
        · cases hD
      subst hO2
      rw [hD] at dg
      clear hO hD hn e1 HO sk
      go_enter Tryz.func132, Tryz.ntmps132
      go_wp2_with (first | (go_at_call 110; refine s1.mono ?_; rintro e w1 ⟨rfl, a1⟩; replace dg := dg _ a1; clear s1 a1) | (go_at_call 152; refine dg.mono ?_; rintro e w2 ⟨rfl, k2⟩; have HK2 := Lib.hid k2; clear k2))
      exact ⟨rfl, rfl, HK2.out⟩
    | some p =>
      obtain ⟨x, j⟩ := p
      have hx : x ≤ 9007199254740991 ∧ some ((x : Int), j) = O := by
        rw [← hO]
        unfold Xr.dg at hD
        split at hD
        · cases hD
        · rename_i q
          injection hD with hD
          rw [if_neg q, hD]
          rw [hD] at q
          exact ⟨by omega, rfl⟩
      obtain ⟨hx, hO2⟩ := hx
      subst hO2
      rw [hD] at dg
      clear hO hD hn e1 HO sk
      go_enter Tryz.func132, Tryz.ntmps132
      go_wp2_with (first | (go_at_call 110; refine s1.mono ?_; rintro e w1 ⟨rfl, a1⟩; replace dg := dg _ a1; clear s1 a1) | (go_at_call 152; refine dg.mono ?_; rintro e w2 ⟨rfl, a2⟩; have HA2 := Lib.hid a2; clear a2))
      go_ret
      exact ⟨rfl, HA2.out⟩
end Go.Proofs.YtjppobeomocgbaaGreatDoor
/-
  THE WALKS of the landed reader: escaped, quoted.
-/
namespace Go.Proofs.YtjppobeomocgbaaGreatDoor
open Go.RowKit
theorem Xr.At.below {B : Nat} {w0 w w' : World} {g : Nat} {s : ByteArray} {i : Nat} (h : Xr.At w0 w g s i) (hb : Below B w w') (hg : g < B) (hB : w0.heap.size ≤ B) : Xr.At w0 w' g s i :=
  ⟨(hb.block g hg).trans h.box, ⟨hb.os.trans h.kept.os, hb.tape.trans h.kept.tape, hb.output.trans h.kept.output, Nat.le_trans h.kept.size hb.size, fun k hk hne => (hb.block k (Nat.lt_of_lt_of_le hk hB)).trans (h.kept.block k hk hne)⟩, h.le⟩
theorem Xr.At.comp {w0 w w' : World} {g : Nat} {s : ByteArray} {i j : Nat} (h : Xr.At w0 w g s i) (h2 : Xr.At w w' g s j) : Xr.At w0 w' g s j := ⟨h2.box, h.kept.trans h2.kept, h2.le⟩
theorem Xr.isF_kept {T e : TypeId} {B b g : Nat} {bs : List Value} {W W' : World} (h : Lib.IsBuilderF T e B b bs W) (hk : Cu.Kept W W' g) (hg : g < B) : Lib.IsBuilderF T e B b bs W' := by
  have hb : W.grownBy W' (some g) := ⟨hk.os, hk.tape, hk.output, hk.size, fun k h1 hne => hk.block k h1 (fun e => hne (by rw [e]))⟩
  have key : ∀ p, Lib.BuilderAtF T e B b p bs W → Lib.BuilderAtF T e B b p bs W' := fun p h => by
    have hlt := h.lt
    obtain ⟨hB, v, hv, hown, hne⟩ := h
    refine ⟨hB, v, (hb.block b hlt (fun q => by injection q with q; omega)).trans hv, hown.kept hb ?_, hne⟩
    cases hv : v.ownBlock with
    | none => exact .inl rfl
    | some k =>
      refine .inr fun q => ?_
      injection q with q
      subst q
      have := (hown.lt k hv).1
      omega
  exact h.elim (fun x => .inl (key _ x)) (fun x => .inr (key _ x))
/-- what stands behind a '\\' -/
def Xr.esc (S : List UInt8) (i : Nat) : Option (UInt8 × Nat) :=
  match S[i]? with
  | none => none
  | some c => if c = 34 ∨ c = 92 then some (c, i + 1) else if c = 110 then some (10, i + 1) else if c = 116 then some (9, i + 1) else none
theorem Xr.text_esc (s : ByteArray) (i : Nat) (acc : List UInt8) : Wx.text true i (s.data.toList.drop i) acc = match Xr.esc s.data.toList i with | none => none | some (c, j) => Wx.text false j (s.data.toList.drop j) (acc ++ [c]) := by
  unfold Xr.esc
  by_cases q : i < s.size
  · rw [Wx.text_esc acc q, Wx.get q]
    simp only
    split
    · rfl
    · split
      · rfl
      · split <;> rfl
  · rw [Wx.text_end true acc (by omega), List.getElem?_eq_none (by rw [Wk.len_data]; omega)]
theorem Xr.esc_j {S : List UInt8} {i j : Nat} {c : UInt8} (h : Xr.esc S i = some (c, j)) : j = i + 1 := by
  unfold Xr.esc at h
  split at h
  · cases h
  · split at h
    · simp at h; omega
    · split at h
      · simp at h; omega
      · split at h
        · simp at h; omega
        · cases h
set_option maxHeartbeats 2000000 in
theorem Xr.escaped {w0 w : World} {g : Nat} {s : ByteArray} {i : Nat} (h : Xr.At w0 w g s i) (hs : s.size ≤ 1099511627776) :
    Calls Tryz.prog 155 #[.pointer (some ⟨g, 0, none⟩)] w (Xr.Out (Xr.esc s.data.toList i) 1401 (fun c : UInt8 => .int .u8 (c.toNat : Int)) w0 g s) := by
  by_cases q : i < s.size
  · have tk := Xr.take h q hs
    unfold Xr.esc
    rw [Wx.get q]
    simp only
    clear h
    by_cases h34 : s[i] = 34
    · have t34 : ((s[i].toNat : Int) == 34) = true := Tp.eq_true (d := 34) h34
      rw [if_pos (.inl h34)]
      clear h34
      go_enter Tryz.func155, Tryz.ntmps155
      go_wp2_with (go_at_call 153; refine tk.mono ?_; rintro e w1 ⟨rfl, a1⟩)
      go_ret
      exact ⟨rfl, a1⟩
    · have t34 : ((s[i].toNat : Int) == 34) = false := Tp.eq_false (d := 34) h34
      by_cases h92 : s[i] = 92
      · have t92 : ((s[i].toNat : Int) == 92) = true := Tp.eq_true (d := 92) h92
        rw [if_pos (.inr h92)]
        clear h34 h92
        go_enter Tryz.func155, Tryz.ntmps155
        go_wp2_with (go_at_call 153; refine tk.mono ?_; rintro e w1 ⟨rfl, a1⟩)
        go_ret
        exact ⟨rfl, a1⟩
      · have t92 : ((s[i].toNat : Int) == 92) = false := Tp.eq_false (d := 92) h92
        rw [if_neg (fun q => q.elim h34 h92)]
        by_cases h110 : s[i] = 110
        · have t110 : ((s[i].toNat : Int) == 110) = true := Tp.eq_true (d := 110) h110
          rw [if_pos h110]
          clear h34 h92 h110
          go_enter Tryz.func155, Tryz.ntmps155
          go_wp2_with (go_at_call 153; refine tk.mono ?_; rintro e w1 ⟨rfl, a1⟩)
          go_ret
          exact ⟨rfl, a1⟩
        · have t110 : ((s[i].toNat : Int) == 110) = false := Tp.eq_false (d := 110) h110
          rw [if_neg h110]
          by_cases h116 : s[i] = 116
          · have t116 : ((s[i].toNat : Int) == 116) = true := Tp.eq_true (d := 116) h116
            rw [if_pos h116]
            clear h34 h92 h110 h116
            go_enter Tryz.func155, Tryz.ntmps155
            go_wp2_with (go_at_call 153; refine tk.mono ?_; rintro e w1 ⟨rfl, a1⟩)
            go_ret
            exact ⟨rfl, a1⟩
          · have t116 : ((s[i].toNat : Int) == 116) = false := Tp.eq_false (d := 116) h116
            rw [if_neg h116]
            clear h34 h92 h110 h116
            go_enter Tryz.func155, Tryz.ntmps155
            go_wp2_with (go_at_call 153; refine tk.mono ?_; rintro e w1 ⟨rfl, a1⟩)
            exact ⟨rfl, rfl, a1.kept⟩
  · have tk := Xr.take_end h (by omega)
    unfold Xr.esc
    rw [List.getElem?_eq_none (by rw [Wk.len_data]; omega)]
    clear h
    go_enter Tryz.func155, Tryz.ntmps155
    go_wp2_with (go_at_call 153; refine tk.mono ?_; rintro e w1 ⟨rfl, k1⟩)
    exact ⟨rfl, rfl, k1⟩
/-- a text under way: the reader and the builder -/
structure Xr.Tx (w0 wr : World) (g : Nat) (s : ByteArray) (j B : Nat) (acc : List UInt8) : Prop where
  at_ : Xr.At w0 wr g s j
  bld : Lib.IsBuilderF 155 5 B B (Lib.byteCells acc) wr
  gB : g < B
  lo : w0.heap.size ≤ B
  hi : B + 1 ≤ wr.heap.size
theorem Xr.Tx.then {w0 w w' : World} {g : Nat} {s : ByteArray} {i j B : Nat} {acc : List UInt8} (h : Xr.Tx w0 w g s i B acc) (h2 : Xr.At w w' g s j) : Xr.Tx w0 w' g s j B acc := ⟨h.at_.comp h2, Xr.isF_kept h.bld h2.kept h.gB, h.gB, h.lo, Nat.le_trans h.hi h2.kept.size⟩
theorem Xr.Tx.wrote {w0 w w' : World} {g : Nat} {s : ByteArray} {i B : Nat} {acc : List UInt8} {c : UInt8} (h : Xr.Tx w0 w g s i B acc) (h2 : Lib.BuilderAtF 155 5 B B (.pointer (some ⟨B, 0, none⟩)) (Lib.byteCells acc ++ [.int .u8 (c.toNat : Int)]) w') (hb : Below B w w') : Xr.Tx w0 w' g s i B (acc ++ [c]) :=
  ⟨h.at_.below hb h.gB h.lo, by rw [Lib.byteCells_append]; exact .inr h2, h.gB, h.lo, Nat.le_trans h.hi hb.size⟩
set_option maxHeartbeats 4000000 in
theorem Xr.quoted {w0 w : World} {g : Nat} {s : ByteArray} {i : Nat} (h : Xr.At w0 w g s i) (hs : s.size ≤ 1099511627776) :
    Calls Tryz.prog 133 #[.pointer (some ⟨g, 0, none⟩)] w (Xr.Out (Wx.text false i (s.data.toList.drop i) []) 1401 (fun t => .string ⟨t.toArray⟩) w0 g s) := by
  obtain ⟨O, hO⟩ : ∃ O, Wx.text false i (s.data.toList.drop i) [] = O := ⟨_, rfl⟩
  rw [hO]
  have HO := Lib.hid hO
  have hgw := h.lt
  have HT : Hid (Xr.Tx w0 (w.alloc (.cells #[.pointer none, .slice none 0 0] 155)) g s i w.heap.size []) :=
    ⟨h.below ((Below.refl w.heap.size w).alloc (Nat.le_refl _) _) hgw h.kept.size, .of (Lib.fresh_isBuilder 155 5 w), hgw, h.kept.size, by simp⟩
  clear h hO
  go_enter Tryz.func133, Tryz.ntmps133
  go_wp2_with fail
  generalize w.alloc (.cells #[.pointer none, .slice none 0 0] 155) = w1 at *
  generalize w.heap.size = B at *
  go_loopw [] (fun wr => ∃ (j : Nat) (acc : List UInt8), acc.length ≤ j ∧ Hid (Xr.Tx w0 wr g s j B acc) ∧ Hid (Wx.text false j (s.data.toList.drop j) acc = O)) (fun wr => s.size - Xr.place g wr)
  case atStart => exact ⟨i, [], Nat.zero_le _, HT, HO⟩
  case round =>
    clear HT HO
    obtain ⟨j, acc, hacc, HT, HO⟩ := hrel
    have HM := Lib.hid (Xr.place_eq HT.out.at_)
    have hjs := HT.out.at_.le
    by_cases q : j < s.size
    · have tk := Xr.take HT.out.at_.start q hs
      have HS := Lib.hid (Wx.text_step acc q)
      rw [HO.out] at HS
      have cl : (Lib.byteCells acc).length + 1 ≤ 140737488355328 := by rw [Lib.byteCells_length]; omega
      clear HO
      by_cases h34 : s[j] = 34
      · have t34 : ((s[j].toNat : Int) == 34) = true := Tp.eq_true (d := 34) h34
        have hO : some (acc, j + 1) = O := by rw [HS.out, if_pos h34]
        subst hO
        clear HS h34
        go_wp2_with (first | (go_at_call 153; refine tk.mono ?_; rintro e w2 ⟨rfl, a2⟩; have HT2 := Lib.hid (HT.out.then a2); clear a2 tk) | (go_at_call 100; refine (Sh.Builder_String_any_k B B acc _ HT2.out.bld (by have := HT2.out.hi; omega)).mono ?_; rintro e w4 ⟨rfl, _, b4, _⟩; have HA4 := Lib.hid (HT2.out.at_.below b4 HT2.out.gB HT2.out.lo); clear b4))
        go_ret
        exact ⟨rfl, HA4.out⟩
      · have t34 : ((s[j].toNat : Int) == 34) = false := Tp.eq_false (d := 34) h34
        rw [if_neg h34] at HS
        by_cases h92 : s[j] = 92
        · have t92 : ((s[j].toNat : Int) == 92) = true := Tp.eq_true (d := 92) h92
          rw [if_pos h92, Xr.text_esc] at HS
          have es := fun u (q : Xr.At u u g s (j + 1)) => Xr.escaped q hs
          clear h34 h92
          cases he : Xr.esc s.data.toList (j + 1) with
          | none =>
            rw [he] at HS es
            have hO : none = O := HS.out.symm
            subst hO
            clear HS he
            go_wp2_with (first | (go_at_call 153; refine tk.mono ?_; rintro e w2 ⟨rfl, a2⟩; have HT2 := Lib.hid (HT.out.then a2); replace es := es _ HT2.out.at_.start; clear a2 tk) | (go_at_call 155; refine es.mono ?_; rintro e w3 ⟨rfl, k3⟩))
            exact ⟨rfl, rfl, HT2.out.at_.kept.trans k3⟩
          | some p =>
            obtain ⟨c, k⟩ := p
            have hk := Xr.esc_j he
            rw [he] at HS es
            have HO2 : Hid (Wx.text false k (s.data.toList.drop k) (acc ++ [c]) = O) := HS.out.symm
            have hacc2 : (acc ++ [c]).length ≤ k := by rw [List.length_append]; simp; omega
            have hjk : j < k := by omega
            replace es : ∀ u, Xr.At u u g s (j + 1) → Calls Tryz.prog 155 #[.pointer (some ⟨g, 0, none⟩)] u fun e w' => e = .returned (.int .u8 (c.toNat : Int)) ∧ Xr.At u w' g s k := fun u q => es u q
            clear HS he hk hacc
            have hwr := fun (u u' : World) (q : Xr.Tx w0 u g s k B acc) (h2 : Lib.BuilderAtF 155 5 B B (.pointer (some ⟨B, 0, none⟩)) (Lib.byteCells acc ++ [.int .u8 (c.toNat : Int)]) u') (hb : Below B u u') => q.wrote h2 hb
            generalize acc ++ [c] = acc2 at *
            generalize (c.toNat : Int) = C at *
            have HWR := Lib.hid hwr
            clear hwr
            go_wp2_with (first | (go_at_call 153; refine tk.mono ?_; rintro e w2 ⟨rfl, a2⟩; have HT2 := Lib.hid (HT.out.then a2); replace es := es _ HT2.out.at_.start; clear a2 tk) | (go_at_call 155; refine es.mono ?_; rintro e w3 ⟨rfl, a3⟩; have HT3 := Lib.hid (HT2.out.then a3); clear a3 es) | (go_at_call 154; refine (Sh.Builder_WriteByte_k B B (Lib.byteCells acc) C _ HT3.out.bld cl (by have := HT3.out.hi; omega)).mono ?_; rintro e w4 ⟨rfl, i4, b4, _⟩; have HT4 := Lib.hid (HWR.out _ _ HT3.out i4 b4); clear i4 b4))
            go_roundw
            case rel => exact ⟨k, acc2, hacc2, HT4, HO2⟩
            case measure => rw [Xr.place_eq HT4.out.at_, HM.out]; omega
        · have t92 : ((s[j].toNat : Int) == 92) = false := Tp.eq_false (d := 92) h92
          rw [if_neg h92] at HS
          have HO2 : Hid (Wx.text false (j + 1) (s.data.toList.drop (j + 1)) (acc ++ [s[j]]) = O) := HS.out.symm
          have hacc2 : (acc ++ [s[j]]).length ≤ j + 1 := by rw [List.length_append]; simp; omega
          clear HS h34 h92 hacc
          have hwr := fun (u u' : World) (q : Xr.Tx w0 u g s (j + 1) B acc) (h2 : Lib.BuilderAtF 155 5 B B (.pointer (some ⟨B, 0, none⟩)) (Lib.byteCells acc ++ [.int .u8 (s[j].toNat : Int)]) u') (hb : Below B u u') => q.wrote h2 hb
          generalize acc ++ [s[j]] = acc2 at *
          generalize (s[j].toNat : Int) = C at *
          have HWR := Lib.hid hwr
          clear hwr
          go_wp2_with (first | (go_at_call 153; refine tk.mono ?_; rintro e w2 ⟨rfl, a2⟩; have HT3 := Lib.hid (HT.out.then a2); clear a2 tk) | (go_at_call 154; refine (Sh.Builder_WriteByte_k B B (Lib.byteCells acc) C _ HT3.out.bld cl (by have := HT3.out.hi; omega)).mono ?_; rintro e w4 ⟨rfl, i4, b4, _⟩; have HT4 := Lib.hid (HWR.out _ _ HT3.out i4 b4); clear i4 b4))
          go_roundw
          case rel => exact ⟨j + 1, acc2, hacc2, HT4, HO2⟩
          case measure => rw [Xr.place_eq HT4.out.at_, HM.out]; omega
    · have tk := Xr.take_end HT.out.at_ (by omega)
      have hO : none = O := by rw [← HO.out, Wx.text_end false acc (by omega)]
      subst hO
      clear HO
      go_wp2_with (go_at_call 153; refine tk.mono ?_; rintro e w2 ⟨rfl, k2⟩)
      exact ⟨rfl, rfl, k2⟩
end Go.Proofs.YtjppobeomocgbaaGreatDoor

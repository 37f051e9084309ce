/-
  THE WALKS of the landed reader: skipBlanks, name.
-/
import Derived.Test.YtnophkbbeipaaaaXCur
import Derived.Test.YtnophkbbeipaaaaOWords
import Derived.Test.YtnophkbbeipaaaaKNames
namespace Go.Proofs.Ytnophkbbeipaaaa
open Go.RowKit
/-- what a reading function does: it gives what it read and stands behind it, or throws -/
def Xr.Out {α : Type} (O : Option (α × Nat)) (x : Int) (V : α → Value) (w0 : World) (g : Nat) (s : ByteArray) (e : Ending) (w' : World) : Prop :=
  match O with
  | none => e = .panicked (Xr.fault x) ∧ Cu.Kept w0 w' g
  | some (a, j) => e = .returned (V a) ∧ Xr.At w0 w' g s j
def Xr.place (g : Nat) (u : World) : Nat := (intOf ((u.cell? ⟨g, 1, none⟩).getD undef)).toNat
theorem Xr.place_eq {w0 w : World} {g : Nat} {s : ByteArray} {i : Nat} (h : Xr.At w0 w g s i) : Xr.place g w = i := by
  unfold Xr.place
  rw [h.c1]
  rfl
set_option maxHeartbeats 2000000 in
theorem Xr.skipBlanks {w0 w : World} {g : Nat} {s : ByteArray} {i : Nat} (h : Xr.At w0 w g s i) (hs : s.size ≤ 1099511627776) :
    Calls Try.prog 22 #[.pointer (some ⟨g, 0, none⟩)] w fun e w' => e = .returned (.tuple #[]) ∧ Xr.At w0 w' g s (Lx.skip i (s.data.toList.drop i)) := by
  obtain ⟨n, hn⟩ : ∃ n, Lx.skip i (s.data.toList.drop i) = n := ⟨_, rfl⟩
  rw [hn]
  have HN := Lib.hid hn
  have H := Lib.hid h
  clear h hn
  go_enter Try.func22, Try.ntmps22
  go_wp2_with fail
  go_loopw [] (fun wr => ∃ j : Nat, Hid (Xr.At w0 wr g s j) ∧ Hid (Lx.skip j (s.data.toList.drop j) = n)) (fun wr => s.size - Xr.place g wr)
  case atStart => exact ⟨i, H, HN⟩
  case round =>
    clear H HN
    obtain ⟨j, HA, HN⟩ := hrel
    have HM := Lib.hid (Xr.place_eq HA.out)
    have pk := Xr.peek HA.out
    have bl := fun u => Xr.isBlank (s.data.toList.getD j 0) u
    cases hb : Lx.blank (s.data.toList.getD j 0) with
    | true =>
      rw [hb] at bl
      have hlt : j < s.size := by
        by_cases q : j < s.size
        · exact q
        · rw [Xr.getD_end (by omega)] at hb
          cases hb
      rw [Xr.getD hlt] at hb
      have HN2 : Hid (Lx.skip (j + 1) (s.data.toList.drop (j + 1)) = n) := by
        have := HN.out
        rw [Wx.skip_step hlt, if_pos hb] at this
        exact this
      clear hb HN
      generalize ((s.data.toList.getD j 0).toNat : Int) = c at *
      go_wp2_with (first | (go_at_call 31; refine pk.mono ?_; rintro e w1 ⟨rfl, n1, rfl⟩; have HA1 := Lib.hid (HA.out.drewN n1); clear HA pk; generalize wr.drewN n1 = w1 at *; have c1 := HA1.out.c1; have f := HA1.out.fz; have HA2 := Lib.hid (HA1.out.set1 (j + 1) hlt); rw [show ((j + 1 : Nat) : Int) = (j : Int) + 1 by omega] at HA2; clear HA1) | (go_at_call 30; refine (bl _).mono ?_; rintro e w' ⟨rfl, hw⟩; have hw := hw.symm; subst hw))
      go_roundw
      case rel => exact ⟨j + 1, HA2, HN2⟩
      case measure => rw [Xr.place_eq HA2.out, HM.out]; omega
    | false =>
      rw [hb] at bl
      have HE : Hid (j = n) := by
        have := HN.out
        unfold Hid
        by_cases q : j < s.size
        · rw [Xr.getD q] at hb
          rw [Wx.skip_step q, if_neg (by rw [hb]; decide)] at this
          exact this
        · rw [Wx.skip_end (by omega)] at this
          exact this
      clear hb HN
      generalize ((s.data.toList.getD j 0).toNat : Int) = c at *
      go_wp2_with (first | (go_at_call 31; refine pk.mono ?_; rintro e w1 ⟨rfl, n1, rfl⟩; have HA1 := Lib.hid (HA.out.drewN n1); clear HA pk; generalize wr.drewN n1 = w1 at *) | (go_at_call 30; refine (bl _).mono ?_; rintro e w' ⟨rfl, hw⟩; have hw := hw.symm; subst hw))
      go_end0
      exact ⟨rfl, by rw [← HE.out]; exact HA1.out⟩
theorem Xr.digit_no (c : UInt8) : (Pl.letter c || c == 95) = true → Pl.digit c = false := by
  have := Xr.all (p := fun c => !(Pl.letter c || c == 95) || !Pl.digit c) (by decide +kernel) c
  intro h
  rw [h] at this
  simpa using this
theorem Xr.nend_all : ∀ (l : List UInt8) (i : Nat), (l.take (Wx.nend false i l - i)).all (Wx.sign false) = true := by
  intro l
  induction l with
  | nil => intro i; rw [List.take_nil]; rfl
  | cons c l ih =>
    intro i
    unfold Wx.nend
    split
    · rename_i h
      have h2 := (Wx.nend_ge l false (i + 1)).1
      rw [show Wx.nend false (i + 1) l - i = (Wx.nend false (i + 1) l - (i + 1)) + 1 by omega, List.take_succ_cons, List.all_cons, h, ih (i + 1)]
      rfl
    · rw [Nat.sub_self]
      rfl
theorem Xr.pi_name {c : UInt8} {r : List UInt8} (h : (c :: r).all (Wx.sign false) = true) : Pi.name (c :: r) = (!Pl.digit c && decide ((c :: r).length ≤ 32)) := by
  rw [List.all_cons, Bool.and_eq_true] at h
  unfold Pi.name
  rw [show Wx.signs true (c :: r) = (Wx.sign true c && Wx.signs false r) from rfl, Kn.first_sign, Kn.signs_all, h.1, h.2]
  cases Pl.digit c <;> simp
/-- the document's name, by where the bytes of names end -/
theorem Xr.name_is {s : ByteArray} {i : Nat} (hi : i < s.size) : Wx.name s.data.toList i = if Wx.nend false i (s.data.toList.drop i) = i ∨ Pl.digit s[i] = true ∨ 32 < Wx.nend false i (s.data.toList.drop i) - i then none else some ((s.data.toList.drop i).take (Wx.nend false i (s.data.toList.drop i) - i), Wx.nend false i (s.data.toList.drop i)) := by
  unfold Wx.name
  simp only [Wx.nend_step _ hi]
  by_cases h1 : (Pl.letter s[i] || s[i] == 95) = true
  · have hd := Xr.digit_no _ h1
    have s1 : Wx.sign true s[i] = true := by unfold Wx.sign; rw [h1]; rfl
    have s2 : Wx.sign false s[i] = true := by unfold Wx.sign; rw [h1]; rfl
    rw [if_pos s1, if_pos s2, hd]
    simp
  · have s1 : Wx.sign true s[i] = false := by unfold Wx.sign; rw [Bool.eq_false_iff.2 h1]; rfl
    by_cases hd : Pl.digit s[i] = true
    · simp [s1, hd]
    · have s2 : Wx.sign false s[i] = false := by unfold Wx.sign; rw [Bool.eq_false_iff.2 h1, Bool.eq_false_iff.2 hd]; rfl
      simp [s1, s2]
theorem Xr.name_end {s : ByteArray} {i : Nat} (hi : s.size ≤ i) : Wx.name s.data.toList i = none := by
  unfold Wx.name
  rw [Wx.drop_none hi, if_pos (.inl rfl)]
set_option maxHeartbeats 4000000 in
theorem Xr.name {w0 w : World} {g : Nat} {s : ByteArray} {i : Nat} (h : Xr.At w0 w g s i) (hs : s.size ≤ 1099511627776) :
    Calls Try.prog 42 #[.pointer (some ⟨g, 0, none⟩)] w (Xr.Out (Wx.name s.data.toList i) 1400 (fun t => .string ⟨t.toArray⟩) w0 g s) := by
  have hi := h.le
  obtain ⟨n, hn⟩ : ∃ n, Wx.nend false i (s.data.toList.drop i) = n := ⟨_, rfl⟩
  have hnb : i ≤ n ∧ n ≤ s.size := by
    have := Wx.nend_ge (s.data.toList.drop i) false i
    rw [hn, List.length_drop, Wk.len_data] at this
    omega
  obtain ⟨hin, hns⟩ := hnb
  have HO : Hid (Wx.name s.data.toList i = if h : i < s.size then (if n = i ∨ Pl.digit s[i] = true ∨ 32 < n - i then none else some ((s.data.toList.drop i).take (n - i), n)) else none) := by
    unfold Hid
    by_cases q : i < s.size
    · rw [dif_pos q, Xr.name_is q, hn]
    · rw [dif_neg q, Xr.name_end (by omega)]
  obtain ⟨O, hO⟩ : ∃ O, Wx.name s.data.toList i = O := ⟨_, rfl⟩
  rw [hO] at HO ⊢
  have HN := Lib.hid hn
  have HN0 := Lib.hid hn
  have H := Lib.hid h
  have b1 := h.c1
  clear h hn hO
  go_enter Try.func42, Try.ntmps42
  go_wp2_with fail
  go_loopw [] (fun wr => ∃ j : Nat, i ≤ j ∧ Hid (Xr.At w0 wr g s j) ∧ Hid (Wx.nend false j (s.data.toList.drop j) = n)) (fun wr => s.size - Xr.place g wr)
  case atStart => exact ⟨i, Nat.le_refl _, H, HN⟩
  case round =>
    clear H HN b1
    obtain ⟨j, hij, HA, HN⟩ := hrel
    have HM := Lib.hid (Xr.place_eq HA.out)
    have pk := Xr.peek HA.out
    have nb := fun u => Kn.isNameByte (s.data.toList.getD j 0) u
    cases hb : Wx.sign false (s.data.toList.getD j 0) with
    | true =>
      rw [hb] at nb
      have hlt : j < s.size := by
        by_cases q : j < s.size
        · exact q
        · rw [Xr.getD_end (by omega)] at hb
          exact absurd hb (by decide)
      rw [Xr.getD hlt] at hb
      have HN2 : Hid (Wx.nend false (j + 1) (s.data.toList.drop (j + 1)) = n) := by
        have := HN.out
        rw [Wx.nend_step _ hlt, if_pos hb] at this
        exact this
      clear hb HN HO
      generalize ((s.data.toList.getD j 0).toNat : Int) = c at *
      go_wp2_with (first | (go_at_call 31; refine pk.mono ?_; rintro e w1 ⟨rfl, n1, rfl⟩; have HA1 := Lib.hid (HA.out.drewN n1); clear HA pk; generalize wr.drewN n1 = w1 at *; have c1 := HA1.out.c1; have f := HA1.out.fz; have HA2 := Lib.hid (HA1.out.set1 (j + 1) hlt); rw [show ((j + 1 : Nat) : Int) = (j : Int) + 1 by omega] at HA2; clear HA1) | (go_at_call 51; refine (nb _).mono ?_; rintro e w' ⟨rfl, hw⟩; have hw := hw.symm; subst hw))
      go_roundw
      case rel => exact ⟨j + 1, by omega, HA2, HN2⟩
      case measure => rw [Xr.place_eq HA2.out, HM.out]; omega
    | false =>
      rw [hb] at nb
      have hjn : j = n := by
        have := HN.out
        by_cases q : j < s.size
        · rw [Xr.getD q] at hb
          rw [Wx.nend_step _ q, if_neg (by rw [hb]; decide)] at this
          exact this
        · rw [Wx.nend_end _ (by omega)] at this
          exact this
      subst hjn
      clear hb HN
      generalize ((s.data.toList.getD j 0).toNat : Int) = c at *
      go_upto_region 4 with (first | (go_at_call 31; refine pk.mono ?_; rintro e w1 ⟨rfl, n1, rfl⟩; have HA1 := Lib.hid (HA.out.drewN n1); clear HA pk; generalize wr.drewN n1 = w1 at *) | (go_at_call 51; refine (nb _).mono ?_; rintro e w' ⟨rfl, hw⟩; have hw := hw.symm; subst hw))
      clear nb
      have c0 := HA1.out.c0
      have c1 := HA1.out.c1
      have hcutT : ∀ u : World, (Instr.slice 9 (.string s) (some (.int .i64 (i : Int))) (some (.int .i64 (j : Int))) none).run Try.prog u = .ok (.string (s.extract i j)) u := fun u => by
        have h := Wk.run_cut u s (i : Int) (j : Int) (by omega) (by omega) (by omega)
        rw [Int.toNat_natCast, Int.toNat_natCast] at h
        exact h
      have HTD : Hid ((s.extract i j).data.toList = (s.data.toList.drop i).take (j - i)) := Lib.extract_data s i j
      have hTz : (s.extract i j).size = j - i := by rw [ByteArray.size_extract]; omega
      have HO2 : Hid (O = if Pi.name (s.extract i j).data.toList = true then some ((s.extract i j).data.toList, j) else none) := by
        have ho := HO.out
        have hal := Xr.nend_all (s.data.toList.drop i) i
        rw [HN0.out] at hal
        unfold Hid
        rw [HTD.out]
        by_cases q : i < s.size
        · rw [dif_pos q] at ho
          by_cases hji : j = i
          · rw [if_pos (.inl hji)] at ho
            rw [ho, hji, Nat.sub_self]
            rfl
          · have ht : (s.data.toList.drop i).take (j - i) = s[i] :: (s.data.toList.drop (i + 1)).take (j - i - 1) := by
              rw [List.drop_eq_getElem_cons (by rw [Wk.len_data]; exact q), show j - i = (j - i - 1) + 1 by omega, List.take_succ_cons]
              rfl
            have hl : ((s.data.toList.drop i).take (j - i)).length = j - i := by rw [List.length_take, List.length_drop, Wk.len_data]; omega
            have hp := Xr.pi_name (c := s[i]) (r := (s.data.toList.drop (i + 1)).take (j - i - 1)) (by rw [← ht]; exact hal)
            rw [← ht, hl] at hp
            rw [hp, ho]
            by_cases hd : Pl.digit s[i] = true
            · rw [if_pos (.inr (.inl hd)), hd]
              rfl
            · have hd : Pl.digit s[i] = false := by cases h : Pl.digit s[i] with | false => rfl | true => exact absurd h hd
              rw [hd]
              by_cases h32 : 32 < j - i
              · rw [if_pos (.inr (.inr h32)), decide_eq_false (by omega)]
                rfl
              · rw [if_neg (fun q => q.elim hji fun q => q.elim (fun q => by cases q) h32), decide_eq_true (by omega)]
                rfl
        · rw [dif_neg q] at ho
          rw [ho, List.drop_of_length_le (by rw [Wk.len_data]; omega), List.take_nil]
          rfl
      have ki := fun u => Kn.is (s.extract i j) u (by omega)
      obtain ⟨B, hB⟩ : ∃ B, Pi.name (s.extract i j).data.toList = B := ⟨_, rfl⟩
      rw [hB] at ki HO2
      have hTs2 : (s.extract i j).size ≤ 281474976710656 := by omega
      clear HO HTD HM hTz hB HN0
      generalize s.extract i j = T at *
      go_quiet (fail)
      have HA2 := Lib.hid (HA1.out.drewN nq)
      clear HA1 c0 c1
      generalize w1.drewN nq = w2 at *
      cases B with
      | false =>
        have hO : none = O := HO2.out.symm
        subst hO
        clear HO2
        go_wp2_with (go_at_call 52; refine (ki _).mono ?_; rintro e w' ⟨rfl, hw⟩; have hw := hw.symm; subst hw)
        exact ⟨rfl, rfl, HA2.out.kept⟩
      | true =>
        have hO : some (T.data.toList, j) = O := HO2.out.symm
        subst hO
        clear HO2
        go_wp2_with (first | (go_at_call 52; refine (ki _).mono ?_; rintro e w' ⟨rfl, hw⟩; have hw := hw.symm; subst hw) | (go_at_call 53; refine (Tp.clone T _ hTs2).mono ?_; rintro e w3 ⟨rfl, b3⟩; have HA3 := Lib.hid (HA2.out.then b3); clear b3))
        go_ret
        exact ⟨rfl, HA3.out⟩
end Go.Proofs.Ytnophkbbeipaaaa

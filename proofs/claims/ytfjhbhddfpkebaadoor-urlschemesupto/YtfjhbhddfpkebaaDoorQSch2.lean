/-
  THE WALK of stoleref1.Scheme.
-/
import Derived.Test.YtfjhbhddfpkebaaDoorQSch
namespace Go.Proofs.YtfjhbhddfpkebaaDoor
open Go.RowKit
theorem Qs.cell {w : World} {base : Nat} {a : Option Addr} {d : Nat} {acc : List UInt8} (h : w.ownsRow base 5 1 (.slice a acc.length d) acc.length (Lib.byteCells acc)) {j : Nat} {c : UInt8} (hc : acc[j]? = some c) : ∃ g, a = some ⟨g, 0, none⟩ ∧ acc.length ≤ d ∧ w.cell? ⟨g, j, none⟩ = some (.int .u8 (c.toNat : Int)) := by
  rcases h.2 with ⟨h1, h0⟩ | ⟨g, cap, cur, h1, _, _, h2, _⟩
  · have := (List.getElem?_eq_some_iff.1 hc).1
    omega
  · injection h1 with h1 _ h3
    refine ⟨g, h1, by omega, ?_⟩
    subst h1
    have hj := (List.getElem?_eq_some_iff.1 hc).1
    have e := h.cellAt j (by omega)
    rw [e]
    simp [Lib.byteCells, hc]
theorem Qs.eq_dec (c d : UInt8) : ((c.toNat : Int) == (d.toNat : Int)) = decide (c = d) := by
  by_cases h : c = d
  · rw [Qs.eq_true h, decide_eq_true h]
  · rw [Qs.eq_false h, decide_eq_false h]
theorem Qs.conv {w : World} {base g d : Nat} {acc : List UInt8} (h : w.ownsRow base 5 1 (.slice (some ⟨g, 0, none⟩) acc.length d) acc.length (Lib.byteCells acc)) {k : Nat} (hk : k ≤ acc.length) : (convert 28 9 (.slice (some ⟨g, 0, none⟩) k d)).run Tryd.prog w = .ok (.string ⟨(acc.take k).toArray⟩) w := by
  have hl : (acc.take k).length = k := by rw [List.length_take]; omega
  have h := run_convert_bytes_back (P := Tryd.prog) w 28 9 5 ⟨g, 0, none⟩ d (acc.take k) Tryd.underlying28 Tryd.underlying5 Tryd.underlying9 (fun j hj => by
    have e : (⟨g, 0, none⟩ : Addr).add j = ⟨g, j, none⟩ := by rw [Addr.add_lit, Nat.zero_add]
    rw [e, h.cellAt j (by omega)]
    have hj2 : j < acc.length := by omega
    simp [Lib.byteCells, hj2])
  rwa [hl] at h
set_option maxRecDepth 100000 in
set_option maxHeartbeats 4000000 in
theorem Qs.scheme (s : ByteArray) (w : World) (hs : s.size ≤ 1099511627776) :
    Calls Tryd.prog 10 #[.string s] w fun e w' => e = .returned (.tuple #[.string ⟨((Ug.scheme s.data.toList).getD []).toArray⟩, .bool (Ug.scheme s.data.toList).isSome]) ∧ Below w.heap.size w w' := by
  obtain ⟨R, hR⟩ : ∃ R, Ug.scheme s.data.toList = R := ⟨_, rfl⟩
  rw [hR]
  have HR : Hid (Ug.of ((s.data.toList.dropWhile fun c => decide (c.toNat ≤ 32)).filter fun c => !Ug.gap c) = R) := hR
  clear hR
  go_enter Tryd.func10, Tryd.ntmps10
  go_wp2_with fail
  go_loopw [4] (fun ix wr => ∃ i : Nat, i ≤ s.size ∧ ix = .int .i64 (i : Int) ∧ Hid ((s.data.toList.drop i).dropWhile (fun c => decide (c.toNat ≤ 32)) = s.data.toList.dropWhile (fun c => decide (c.toNat ≤ 32))) ∧ wr = w) (fun ix _ => s.size - (intOf ix).toNat)
  case atStart => exact ⟨0, Nat.zero_le _, rfl, by unfold Hid; rw [List.drop_zero], rfl⟩
  case round =>
    obtain ⟨i, hi, rfl, HD, hw⟩ := hrel
    have hw := hw.symm
    subst hw
    by_cases hgo : ∃ h : i < s.size, s[i].toNat ≤ 32
    · obtain ⟨hlt, hc⟩ := hgo
      have d1 : decide ((i : Int) < (s.size : Int)) = true := decide_eq_true (by omega)
      have d2 : decide ((s[i].toNat : Int) ≤ 32) = true := decide_eq_true (by omega)
      have HN := Lib.hid ((Qs.drop_step (Qr.at hlt) hc).symm.trans HD.out)
      go_wp2
      go_roundw
      case rel => exact ⟨i + 1, by omega, by go_num, HN, by first | rfl | trivial⟩
      case measure => simp [intOf]; omega
    · have HS : Hid (s.data.toList.dropWhile (fun c => decide (c.toNat ≤ 32)) = s.data.toList.drop i) := by
        unfold Hid
        rw [← HD.out]
        by_cases hlt : i < s.size
        · exact Qs.drop_stop (Qr.at hlt) fun q => hgo ⟨hlt, q⟩
        · rw [List.drop_of_length_le (by rw [Wk.len_data]; omega)]
          rfl
      have HR := HR.out
      rw [HS.out] at HR
      have HR := Lib.hid HR
      clear HD HS
      have hcs : (¬ i < s.size) ∨ ∃ h : i < s.size, ¬ s[i].toNat ≤ 32 := by
        by_cases hlt : i < s.size
        · exact .inr ⟨hlt, fun q => hgo ⟨hlt, q⟩⟩
        · exact .inl hlt
      clear hgo
      have HN0 : Hid (s.size ≤ 1099511627776) := hs
      have let1 := fun c u => Rt.letter c u
      have dig1 := fun c u => Rt.digit c u
      rcases hcs with hlt | ⟨hlt, hc⟩
      all_goals
        first
        | (have d1 : decide ((i : Int) < (s.size : Int)) = false := decide_eq_false (by omega))
        | (have d1 : decide ((i : Int) < (s.size : Int)) = true := decide_eq_true (by omega); have d2 : decide ((s[i].toNat : Int) ≤ 32) = false := decide_eq_false (by omega); clear hc)
        go_wp2_with fail
        go_loopw [4, 5] (fun ix ov wr => ∃ j : Nat, i ≤ j ∧ j ≤ s.size ∧ ix = .int .i64 (j : Int) ∧ Hid (wr.ownsRow w.heap.size 5 1 ov (Qs.row s.data.toList i j).length (Lib.byteCells (Qs.row s.data.toList i j))) ∧ Hid (Below w.heap.size w wr)) (fun ix _ _ => s.size - (intOf ix).toNat)
        case atStart => exact ⟨i, Nat.le_refl _, hi, rfl, by unfold Hid; rw [Qs.row_zero]; exact World.ownsRow_nil _ _ _ _, Below.refl _ _⟩
        case round =>
          first | clear d1 d2 | clear d1
          first | clear hlt | skip
          obtain ⟨j, hij, hj, rfl, HO, HB⟩ := hrel
          obtain ⟨oa, od, rfl⟩ := Rb.form HO.out
          have hws := HB.out.size
          by_cases hlt : j < s.size
          · clear let1 dig1
            have d1 : decide ((j : Int) < (s.size : Int)) = true := decide_eq_true (by omega)
            have HTK := Lib.hid (Qs.row_step hij (Qr.at hlt))
            have HN1 : Hid ((Qs.row s.data.toList i j).length + 1 ≤ 140737488355328) := by
              have h1 := Qs.row_len s.data.toList i j
              rw [Wk.len_data] at h1
              unfold Hid
              omega
            generalize Qs.row s.data.toList i j = acc at *
            have hc : (¬ s[j] = 9 ∧ ¬ s[j] = 10 ∧ ¬ s[j] = 13) ∨ s[j] = 9 ∨ s[j] = 10 ∨ s[j] = 13 := by
              by_cases h1 : s[j] = 9
              · exact .inr (.inl h1)
              · by_cases h2 : s[j] = 10
                · exact .inr (.inr (.inl h2))
                · by_cases h3 : s[j] = 13
                  · exact .inr (.inr (.inr h3))
                  · exact .inl ⟨h1, h2, h3⟩
            rcases hc with ⟨h1, h2, h3⟩ | h1 | h1 | h1
            · have n1 : ((s[j].toNat : Int) != 9) = true := Qs.ne_true (d := 9) h1
              have n2 : ((s[j].toNat : Int) != 10) = true := Qs.ne_true (d := 10) h2
              have n3 : ((s[j].toNat : Int) != 13) = true := Qs.ne_true (d := 13) h3
              have HK := HTK.out
              rw [if_neg (by simp [Ug.gap, h1, h2, h3])] at HK
              have HTK := Lib.hid HK
              clear HK h1 h2 h3
              go_wp2_with (at_builtin; refine Rb.push rfl _ _ rfl _ rfl (HO.out.alloc _) wr.heap.size [s[j]] 1 rfl rfl (Rb.new wr #[.int .u8 (s[j].toNat : Int)] 5 _ rfl) HN1.out (by simp; omega) ?_; intro v5 w5 R5 hg5; have HB5 : Hid (Below w.heap.size w w5) := (HB.out.alloc hws _).grown hg5 (by simp; omega) (fun k hk => (HO.out.lt k hk).1); have HR5 := Lib.hid R5; clear R5 hg5)
              go_roundw
              case rel => exact ⟨j + 1, by omega, by omega, by go_num, by unfold Hid; rw [HTK.out]; exact HR5.out, HB5⟩
              case measure => simp [intOf]; omega
            all_goals
              have HK := HTK.out
              rw [if_pos (by rw [h1]; rfl), List.append_nil] at HK
              have HTK := Lib.hid HK
              clear HK
              have e1 : (s[j].toNat : Int) = _ := congrArg (fun c : UInt8 => (c.toNat : Int)) h1
              simp only [UInt8.reduceToNat] at e1
              clear h1
              go_wp2
              go_roundw
              case rel => exact ⟨j + 1, by omega, by omega, by go_num, by unfold Hid; rw [HTK.out]; exact HO.out, HB⟩
              case measure => simp [intOf]; omega
          · have e : j = s.size := by omega
            subst e
            have d1 : decide ((s.size : Int) < (s.size : Int)) = false := decide_eq_false (by omega)
            have HT : Qs.row s.data.toList i s.size = (s.data.toList.drop i).filter fun c => !Ug.gap c := by
              rw [← Wk.len_data]
              exact Qs.row_all _ _
            have HR2 := HR.out
            rw [← HT] at HR2
            have HR2 := Lib.hid HR2
            have HNT : Hid ((Qs.row s.data.toList i s.size).length ≤ 1099511627776) := by
              have h1 := Qs.row_len s.data.toList i s.size
              rw [Wk.len_data] at h1
              unfold Hid
              omega
            clear HT HR
            generalize Qs.row s.data.toList i s.size = T at *
            go_wp2_with fail
            go_loopw [6] (fun kx wx => ∃ k : Nat, k ≤ T.length ∧ kx = .int .i64 (k : Int) ∧ Hid (∀ j, j < k → Qs.on T j = true) ∧ wx = wr) (fun kx _ => T.length - (intOf kx).toNat)
            case atStart => exact ⟨0, Nat.zero_le _, rfl, fun j hj => absurd hj (Nat.not_lt_zero _), rfl⟩
            case round =>
              obtain ⟨k, hk, rfl, HA, hw⟩ := hrel
              have hw := hw.symm
              subst hw
              have hT := HNT.out
              by_cases hkl : k < T.length
              · have d3 : decide ((k : Int) < (T.length : Int)) = true := decide_eq_true (by omega)
                obtain ⟨c, hc⟩ : ∃ c, T[k]? = some c := ⟨T[k], List.getElem?_eq_getElem hkl⟩
                obtain ⟨g, rfl, hcap, hcell⟩ := Qs.cell HO.out hc
                have let1 := let1 c
                have dig1 := dig1 c
                have HON : Hid (Qs.on T k = (Pl.letter c || (decide (0 < k) && (Pl.digit c || decide (c = 43) || decide (c = 45) || decide (c = 46))))) := by
                  unfold Hid Qs.on
                  rw [hc]
                have HAT : Hid (Qs.on T k = true → ∀ j, j < k + 1 → Qs.on T j = true) := fun q j hj => by
                  by_cases e : j = k
                  · rw [e]; exact q
                  · exact HA.out j (by omega)
                have f3 : ((c.toNat : Int) == 43) = decide (c = 43) := Qs.eq_dec c 43
                have f5 : ((c.toNat : Int) == 45) = decide (c = 45) := Qs.eq_dec c 45
                have f6 : ((c.toNat : Int) == 46) = decide (c = 46) := Qs.eq_dec c 46
                have HOF : Hid (Qs.on T k = false → R = if k = 0 ∨ k = T.length ∨ T[k]? ≠ some 58 then none else some (Pl.lowL (T.take k))) := fun q => HR2.out.symm.trans (Qs.of_at hk HA.out q)
                clear HA
                generalize Pl.letter c = bl at *
                generalize Pl.digit c = bd at *
                generalize decide (c = 43) = b3 at *
                generalize decide (c = 45) = b5 at *
                generalize decide (c = 46) = b6 at *
                have hcs : ((bl = true) ∨ (bl = false ∧ 0 < k ∧ bd = true) ∨ (bl = false ∧ 0 < k ∧ bd = false ∧ b3 = true) ∨ (bl = false ∧ 0 < k ∧ bd = false ∧ b3 = false ∧ b5 = true) ∨ (bl = false ∧ 0 < k ∧ bd = false ∧ b3 = false ∧ b5 = false ∧ b6 = true)) ∨ (bl = false ∧ k = 0) ∨ (bl = false ∧ 0 < k ∧ bd = false ∧ b3 = false ∧ b5 = false ∧ b6 = false) := by
                  have := Nat.eq_zero_or_pos k
                  cases bl <;> cases bd <;> cases b3 <;> cases b5 <;> cases b6 <;> simp <;> omega
                rcases hcs with hon | hoff
                · clear HOF
                  rcases hon with rfl | ⟨rfl, h0, rfl⟩ | ⟨rfl, h0, rfl, rfl⟩ | ⟨rfl, h0, rfl, rfl, rfl⟩ | ⟨rfl, h0, rfl, rfl, rfl, rfl⟩
                  all_goals
                    have HAN : Hid (∀ j, j < k + 1 → Qs.on T j = true) := HAT.out (by rw [HON.out]; simp; try omega)
                    clear HAT HON
                    go_wp2_with (first | (go_at_call 18; refine (let1 _).mono ?_; rintro e w' ⟨rfl, hw⟩; have hw := hw.symm; subst hw) | (go_at_call 19; refine (dig1 _).mono ?_; rintro e w' ⟨rfl, hw⟩; have hw := hw.symm; subst hw))
                    go_roundw
                    case rel => exact ⟨k + 1, by omega, by go_num, HAN, by first | rfl | trivial⟩
                    case measure => simp [intOf]; omega
                · clear HAT
                  rcases hoff with ⟨rfl, h0⟩ | ⟨rfl, h0, rfl, rfl, rfl, rfl⟩
                  · have q := HOF.out (by rw [HON.out, h0]; rfl)
                    rw [if_pos (.inl h0)] at q
                    subst q
                    have z1 : ((k : Int) == 0) = true := by rw [h0]; rfl
                    have h1 : ¬ 0 < k := by omega
                    clear HON HOF h0
                    go_wp2_with (first | (go_at_call 18; refine (let1 _).mono ?_; rintro e w' ⟨rfl, hw⟩; have hw := hw.symm; subst hw) | (go_at_call 19; refine (dig1 _).mono ?_; rintro e w' ⟨rfl, hw⟩; have hw := hw.symm; subst hw))
                    go_ret2
                    exact ⟨rfl, HB.out⟩
                  · have q := HOF.out (by rw [HON.out]; simp)
                    have z1 : ((k : Int) == 0) = false := by rw [beq_eq_false_iff_ne]; omega
                    have z2 : ((k : Int) == (T.length : Int)) = false := by rw [beq_eq_false_iff_ne]; omega
                    clear HON HOF
                    by_cases h58 : c = 58
                    · have z3 : ((c.toNat : Int) != 58) = false := Qs.ne_false (d := 58) h58
                      rw [if_neg (fun o => o.elim (fun q => by omega) fun o => o.elim (fun q => by omega) fun q => q (by rw [hc, h58]))] at q
                      subst q
                      have hcv := Qs.conv HO.out hk
                      have lw := fun u => Sz.lower ⟨(T.take k).toArray⟩ u (by show (T.take k).length ≤ _; rw [List.length_take]; omega)
                      clear h58 hc
                      go_wp2_with (first | (go_at_call 26; refine (lw _).mono ?_; rintro e w' ⟨rfl, b1⟩) | (first | (go_at_call 18; refine (let1 _).mono ?_; rintro e w' ⟨rfl, hw⟩; have hw := hw.symm; subst hw) | (go_at_call 19; refine (dig1 _).mono ?_; rintro e w' ⟨rfl, hw⟩; have hw := hw.symm; subst hw)))
                      go_ret2
                      exact ⟨rfl, HB.out.trans (b1.mono HB.out.size)⟩
                    · have z3 : ((c.toNat : Int) != 58) = true := Qs.ne_true (d := 58) h58
                      rw [if_pos (.inr (.inr (by rw [hc]; intro q; injection q with q; exact h58 q)))] at q
                      subst q
                      clear h58 hc
                      go_wp2_with (first | (go_at_call 18; refine (let1 _).mono ?_; rintro e w' ⟨rfl, hw⟩; have hw := hw.symm; subst hw) | (go_at_call 19; refine (dig1 _).mono ?_; rintro e w' ⟨rfl, hw⟩; have hw := hw.symm; subst hw))
                      go_ret2
                      exact ⟨rfl, HB.out⟩
              · have hke : k = T.length := by omega
                have d3 : decide ((k : Int) < (T.length : Int)) = false := decide_eq_false (by omega)
                have q := HR2.out.symm.trans (Qs.of_at hk HA.out (by unfold Qs.on; rw [List.getElem?_eq_none (by omega)]))
                rw [if_pos (.inr (.inl hke))] at q
                subst q
                have z2 : ((k : Int) == (T.length : Int)) = true := by rw [hke]; simp
                clear let1 dig1 HR2 HA hke
                by_cases h0 : k = 0
                · have z1 : ((k : Int) == 0) = true := by rw [h0]; rfl
                  clear h0
                  go_wp2
                  go_ret2
                  exact ⟨rfl, HB.out⟩
                · have z1 : ((k : Int) == 0) = false := by rw [beq_eq_false_iff_ne]; omega
                  go_wp2
                  go_ret2
                  exact ⟨rfl, HB.out⟩
end Go.Proofs.YtfjhbhddfpkebaaDoor

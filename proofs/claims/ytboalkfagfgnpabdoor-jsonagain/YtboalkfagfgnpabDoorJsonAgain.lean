/-
  THE WALK of stolelaw10.JsonAgain: it returns true.
-/
import Derived.Test.YtboalkfagfgnpabDoorJNum
import Derived.Test.YtboalkfagfgnpabDoorMJRetoNorm
namespace Go.Proofs.YtboalkfagfgnpabDoor
open Go.RowKit
theorem Jz.pre (l : List UInt8) : (l.take 6 == [92, 117, 48, 48, 48, 48]) = Pl.pre [92, 117, 48, 48, 48, 48] l := by
  rw [Bool.eq_iff_iff, beq_iff_eq, Pl.pre_iff]
  constructor
  · intro h
    exact ⟨l.drop 6, by rw [← h, List.take_append_drop]⟩
  · rintro ⟨r, rfl⟩
    rfl
theorem Jz.short : ∀ (l : List UInt8), l.length ≤ 5 → Js.zeros l = false
  | [], _ => rfl
  | c :: r, h => by
    rw [Js.zeros, Jz.short r (by simp only [List.length_cons] at h; omega), Bool.or_false]
    cases hp : Pl.pre [92, 117, 48, 48, 48, 48] (c :: r)
    · rfl
    · obtain ⟨t, ht⟩ := (Pl.pre_iff _ _).1 hp
      rw [ht] at h
      simp at h
theorem Jz.step {l : List UInt8} {i : Nat} (h : i < l.length) : Js.zeros (l.drop i) = (Pl.pre [92, 117, 48, 48, 48, 48] (l.drop i) || Js.zeros (l.drop (i + 1))) := by
  rw [List.drop_eq_getElem_cons h, Js.zeros]
set_option maxRecDepth 100000 in
set_option maxHeartbeats 4000000 in
theorem Jz.zeros (s : ByteArray) (hs : s.size ≤ 65536) (w : World) : Calls Tryd.prog 9 #[.string s] w fun e w' => e = .returned (.bool (Js.zeros s.data.toList)) ∧ w' = w := by
  obtain ⟨R, hR⟩ : ∃ R, Js.zeros s.data.toList = R := ⟨_, rfl⟩
  rw [hR]
  have HR := Lib.hid hR
  clear hR
  have hlen : s.data.toList.length = s.size := by rw [Array.length_toList]; rfl
  have HLN := Lib.hid hlen
  clear hlen
  go_enter Tryd.func9, Tryd.ntmps9
  go_wp2_with fail
  go_loopw [3] (fun ix wr => ∃ i : Nat, i ≤ s.size ∧ ix = .int .i64 (i : Int) ∧ Hid (Js.zeros (s.data.toList.drop i) = R) ∧ wr = w) (fun ix _ => s.size - (intOf ix).toNat)
  case atStart => exact ⟨0, Nat.zero_le _, rfl, HR, rfl⟩
  case round =>
    obtain ⟨i, hi, rfl, HA, hw⟩ := hrel
    have hw := hw.symm
    subst hw
    by_cases hlt : i + 5 < s.size
    · have d1 : decide ((i : Int) + 5 < (s.size : Int)) = true := decide_eq_true (by omega)
      have hcut : ∀ u : World, (Instr.slice 9 (.string s) (some (.int .i64 (i : Int))) (some (.int .i64 ((i : Int) + 6))) none).run Tryd.prog u = .ok (.string (s.extract i (i + 6))) u := fun u => by
        have h := Wk.run_cut u s (i : Int) ((i : Int) + 6) (by omega) (by omega) (by omega)
        rwa [show ((i : Int) + 6).toNat = i + 6 by omega, Int.toNat_natCast] at h
      have hpre : ((s.extract i (i + 6)).toList == [92, 117, 48, 48, 48, 48]) = Pl.pre [92, 117, 48, 48, 48, 48] (s.data.toList.drop i) := by
        rw [ByteArray.toList_eq, Wk.part_data]
        exact Jz.pre _
      have HST := Lib.hid (Jz.step (l := s.data.toList) (i := i) (by rw [HLN.out]; omega))
      cases hp : Pl.pre [92, 117, 48, 48, 48, 48] (s.data.toList.drop i)
      · rw [hp] at hpre
        have HA2 : Hid (Js.zeros (s.data.toList.drop (i + 1)) = R) := by
          unfold Hid
          rw [← HA.out, HST.out, hp]
          rfl
        clear HA HST hp HR
        generalize s.extract i (i + 6) = X at *
        go_wp2_with fail
        go_roundw
        case rel => exact ⟨i + 1, by omega, by go_num, HA2, by first | rfl | trivial⟩
        case measure => simp [intOf]; omega
      · rw [hp] at hpre
        have q : R = true := by rw [← HA.out, HST.out, hp]; rfl
        subst q
        clear HA HST hp HR
        generalize s.extract i (i + 6) = X at *
        go_wp2_with fail
        go_ret
        exact ⟨rfl, rfl⟩
    · have d1 : decide ((i : Int) + 5 < (s.size : Int)) = false := decide_eq_false (by omega)
      have q : R = false := by rw [← HA.out]; exact Jz.short _ (by rw [List.length_drop, HLN.out]; omega)
      subst q
      clear HA HR
      go_wp2_with fail
      go_ret
      exact ⟨rfl, rfl⟩
theorem Js.bits_leaf (k x : Int) (b : Nat) (hb : b < 18446744073709551616) (s : ByteArray) : Js.Bits (Js.leaf k x b s) := ⟨hb, fun i hi => absurd hi (by omega)⟩
theorem Js.bits_items {val : List UInt8 → Option (Vt × List UInt8)} (hv : ∀ l t r, val l = some (t, r) → Js.Bits t) (rec : Bool) (e : UInt8) : ∀ (f : Nat) (l : List UInt8) (p : List ByteArray × List Vt) (r : List UInt8), Js.itemsF val rec e f l = some (p, r) → ∀ t ∈ p.2, Js.Bits t
  | 0, _, _, _, h => by cases h
  | f + 1, l, p, r, h => by
    rw [Js.itemsF] at h
    split at h
    · cases h
    · split at h
      · cases h
      · rename_i t r2 h2
        have k2 := hv _ _ _ h2
        split at h
        · simp only [Option.some.injEq, Prod.mk.injEq] at h
          obtain ⟨rfl, rfl⟩ := h
          exact fun x hx => by rw [List.mem_singleton.1 hx]; exact k2
        · split at h
          · cases h
          · obtain ⟨⟨q1, q2⟩, hq, e'⟩ := Option.map_eq_some_iff.1 h
            simp only [Prod.mk.injEq] at e'
            obtain ⟨rfl, rfl⟩ := e'
            have g2 := Js.bits_items hv rec e f _ q1 q2 hq
            exact fun x hx => (List.mem_cons.1 hx).elim (fun q => by rw [q]; exact k2) (g2 x)
theorem Js.bits_list {val : List UInt8 → Option (Vt × List UInt8)} (hv : ∀ l t r, val l = some (t, r) → Js.Bits t) {rec : Bool} {e : UInt8} {l : List UInt8} {p : List ByteArray × List Vt} {r : List UInt8} (h : Js.list val rec e l = some (p, r)) : ∀ t ∈ p.2, Js.Bits t := by
  unfold Js.list at h
  split at h
  · simp only [Option.some.injEq, Prod.mk.injEq] at h
    obtain ⟨rfl, rfl⟩ := h
    exact fun t ht => by cases ht
  · exact Js.bits_items hv rec e _ _ _ _ h
theorem Js.bits_num {neg : Bool} {ds r r' : List UInt8} {t : Vt} (h : Js.numOf neg ds r = some (t, r')) : Js.Bits t := (Js.numOf_again 0 h).2.2
theorem Js.bits_value : ∀ (d : Nat) (l : List UInt8) (t : Vt) (r : List UInt8), Js.value d l = some (t, r) → Js.Bits t
  | 0, _, _, _, h => by cases h
  | d + 1, l0, t, r, h => by
    rw [Js.value] at h
    generalize Js.ws l0 = l at h
    unfold Js.at at h
    split at h
    · cases h
    · split at h
      · simp only [Option.some.injEq, Prod.mk.injEq] at h
        rw [← h.1]; exact Js.bits_leaf _ _ _ (by decide) _
      · split at h
        · simp only [Option.some.injEq, Prod.mk.injEq] at h
          rw [← h.1]; exact Js.bits_leaf _ _ _ (by decide) _
        · split at h
          · simp only [Option.some.injEq, Prod.mk.injEq] at h
            rw [← h.1]; exact Js.bits_leaf _ _ _ (by decide) _
          · split at h
            · obtain ⟨⟨q1, q2⟩, hq, e⟩ := Option.map_eq_some_iff.1 h
              simp only [Prod.mk.injEq] at e
              rw [← e.1]; exact Js.bits_leaf _ _ _ (by decide) _
            · split at h
              · obtain ⟨⟨q1, q2⟩, hq, e⟩ := Option.map_eq_some_iff.1 h
                simp only [Prod.mk.injEq] at e
                rw [← e.1]
                have g := Js.bits_list (Js.bits_value d) hq
                exact ⟨by decide, fun i hi => g _ (Js.getD_mem hi)⟩
              · split at h
                · obtain ⟨⟨q1, q2⟩, hq, e⟩ := Option.map_eq_some_iff.1 h
                  simp only [Prod.mk.injEq] at e
                  rw [← e.1]
                  have g := Js.bits_list (Js.bits_value d) hq
                  exact ⟨by decide, fun i hi => g _ (Js.getD_mem hi)⟩
                · unfold Js.number at h
                  split at h
                  · exact Js.bits_num h
                  · exact Js.bits_num h
set_option maxRecDepth 100000 in
set_option maxHeartbeats 4000000 in
theorem Law.jsonAgain (s : ByteArray) (w : World) (hT : Jt w) : Calls Tryd.prog 3 #[.string s] w fun e w' => e = .returned (.bool true) ∧ Below w.heap.size w w' := by
  have aw := Ja.awake w hT
  have er := fun x u => Vn.errno x u
  cases hg : Js.get s.data.toList with
  | none =>
    obtain ⟨g1, g2⟩ := Js.got_none hg
    have gt := fun u hu => Jc.get_to g1 g2 u hu
    clear g1 g2 hg
    have he : ((⟨#[]⟩ : ByteArray).toList == []) = true := by rw [ByteArray.toList_eq]; rfl
    go_enter Tryd.func3, Tryd.ntmps3
    go_wp2_with (first | (go_at_call 4; refine aw.mono ?_; rintro e w1 ⟨rfl, b1⟩; have B1 := Lib.hid b1; clear b1 aw) | (go_at_call 5; refine (gt _ (hT.on B1.out)).mono ?_; rintro e w2 ⟨v2, rfl, l2, b2⟩; obtain ⟨ai, c, ak, d, rfl, _⟩ := l2; have B2 := Lib.hid (Wk.below_step B1.out b2); clear b2 B1 gt) | (go_at_call 6; refine (er _ _).mono ?_; rintro e w' ⟨rfl, hw⟩; have hw := hw.symm; subst hw))
    go_ret
    exact ⟨rfl, Jl.below B2.out _⟩
  | some t =>
    obtain ⟨g1, g2⟩ := Js.got_some hg
    obtain ⟨hsl, hmay, r, hv, _⟩ := Js.get_parts hg
    have hok := Js.ok_of_may hmay (Js.bits_value 8 _ t r hv)
    have gt := fun u hu => Jc.get_to g1 g2 u hu
    have zr := fun u => Jz.zeros s (by rw [← Array.length_toList] at *; exact hsl) u
    have HAG := Lib.hid (fun hz hl => Js.get_again hg hz hl)
    have HEQ := Lib.hid (Js.eq_refl 8 t hok)
    clear g1 g2 hg hv hok
    by_cases hlen : (Js.put t).length ≤ 65536
    · have p1 : Js.said t = Js.put t := by unfold Js.said; rw [if_pos ⟨hmay, hlen⟩]
      have p2 : Js.err t = 0 := by unfold Js.err; rw [if_pos hmay, if_pos hlen]
      obtain ⟨P, hP⟩ : ∃ P : ByteArray, P = ⟨(Js.put t).toArray⟩ := ⟨_, rfl⟩
      have pt := fun v u hu hl => Jc.put_to (t := t) (s := P) (x := 0) (by rw [p1, hP]) p2 v u hu hl
      have hPl : P.data.toList = Js.put t := by rw [hP]
      obtain ⟨U, hU⟩ : ∃ U, Js.got P.data.toList = U := ⟨_, rfl⟩
      obtain ⟨X, hX⟩ : ∃ X, Js.gerr P.data.toList = X := ⟨_, rfl⟩
      have gp := fun u hu => Jc.get_to hU hX u hu
      have hcs : (X = 0 ∧ U.eq t = true) ∨ (X = 0 ∧ U.eq t = false ∧ Js.zeros s.data.toList = true) ∨ (X = 1000 ∧ Js.zeros s.data.toList = true) := by
        cases hz : Js.zeros s.data.toList
        · have := HAG.out hz hlen
          rw [← hPl] at this
          obtain ⟨h1, h2⟩ := Js.got_some this
          exact .inl ⟨by rw [← hX, h2], by rw [← hU, h1]; exact HEQ.out⟩
        · cases hq : Js.get P.data.toList with
          | none => exact .inr (.inr ⟨by rw [← hX, (Js.got_none hq).2], rfl⟩)
          | some u =>
            have h2 := (Js.got_some hq).2
            cases hb : U.eq t
            · exact .inr (.inl ⟨by rw [← hX, h2], rfl, rfl⟩)
            · exact .inl ⟨by rw [← hX, h2], rfl⟩
      clear p1 p2 HAG HEQ hlen hU hX hP hPl
      have hnz : ((0 : Int) == 1001) = false := by decide
      go_enter Tryd.func3, Tryd.ntmps3
      go_wp2_with (first | (go_at_call 4; refine aw.mono ?_; rintro e w1 ⟨rfl, b1⟩; have B1 := Lib.hid b1; clear b1 aw))
      refine (gt _ (hT.on B1.out)).mono ?_
      rintro e w2 ⟨v2, rfl, l2, b2⟩
      obtain ⟨k2, x2, d2, s2, ai2, n2, c2, ak2, m2, e2, rfl⟩ := l2.form
      have S2 : Hid (Jz.S t w (w2.alloc (.cells #[.int .i64 k2, .int .i64 x2, .int .u64 (d2 : Int), .string s2, .slice ai2 n2 c2, .slice ak2 m2 e2] 27)) w2.heap.size _ _ _ _ _ _) :=
        ⟨Jl.below (Wk.below_step B1.out b2) _, hT.on (Jl.below (Wk.below_step B1.out b2) _), ⟨Vm.new _ _⟩, l2.on fun g hg => ⟨by simp; omega, Below.heap_alloc _ _ _ hg.2⟩⟩
      clear l2 b2 B1 gt
      go_wp2_with fail
      generalize w2.alloc (.cells #[.int .i64 k2, .int .i64 x2, .int .u64 (d2 : Int), .string s2, .slice ai2 n2 c2, .slice ak2 m2 e2] 27) = W2 at *
      generalize w2.heap.size = g2 at *
      obtain ⟨q0, q1, q2, q3, q4, q5⟩ := S2.out.box.cells
      refine (er _ _).mono ?_
      rintro e w' ⟨rfl, hw⟩
      have hw := hw.symm
      subst hw
      go_wp2_with fail
      refine (pt _ _ S2.out.tab S2.out.lies).mono ?_
      rintro e w3 ⟨rfl, b3⟩
      have S3 := Lib.hid (S2.out.on b3)
      clear b3 S2 pt q0 q1 q2 q3 q4 q5
      go_wp2_with fail
      refine (er _ _).mono ?_
      rintro e w' ⟨rfl, hw⟩
      have hw := hw.symm
      subst hw
      go_wp2_with fail
      refine (gp _ S3.out.tab).mono ?_
      rintro e w4 ⟨v4, rfl, l4, b4⟩
      obtain ⟨k4, x4, d4, s4, ai4, n4, c4, ak4, m4, e4, rfl⟩ := l4.form
      have S4 : Hid (Jz.S t w (w4.alloc (.cells #[.int .i64 k4, .int .i64 x4, .int .u64 (d4 : Int), .string s4, .slice ai4 n4 c4, .slice ak4 m4 e4] 27)) g2 _ _ _ _ _ _) := (S3.out.on b4).on (Jl.below (Below.refl _ _) _)
      have X4 : Hid (Vm.Box (w4.alloc (.cells #[.int .i64 k4, .int .i64 x4, .int .u64 (d4 : Int), .string s4, .slice ai4 n4 c4, .slice ak4 m4 e4] 27)) w4.heap.size _ _ _ _ _ _) := ⟨Vm.new _ _⟩
      have sm := Vs.same U t _ _ (w4.alloc (.cells #[.int .i64 k4, .int .i64 x4, .int .u64 (d4 : Int), .string s4, .slice ai4 n4 c4, .slice ak4 m4 e4] 27)) (l4.on fun g hg => ⟨by simp; omega, Below.heap_alloc _ _ _ hg.2⟩) S4.out.lies
      clear l4 b4 S3 gp
      rcases hcs with ⟨rfl, hb⟩ | ⟨rfl, hb, hz⟩ | ⟨rfl, hz⟩
      all_goals
        go_wp2_with fail
        generalize w4.alloc (.cells #[.int .i64 k4, .int .i64 x4, .int .u64 (d4 : Int), .string s4, .slice ai4 n4 c4, .slice ak4 m4 e4] 27) = W4 at *
        generalize w4.heap.size = g4 at *
        obtain ⟨q0, q1, q2, q3, q4, q5⟩ := S4.out.box.cells
        obtain ⟨r0, r1, r2, r3, r4, r5⟩ := X4.out.cells
        try rw [hb] at sm
        try simp only [hz] at zr
        refine (er _ _).mono ?_
        rintro e w' ⟨rfl, hw⟩
        have hw := hw.symm
        subst hw
      · go_wp2_with (first | (go_at_call 6; refine (er _ _).mono ?_; rintro e w' ⟨rfl, hw⟩; have hw := hw.symm; subst hw) | (go_at_call 8; refine sm.mono ?_; rintro e w5 ⟨rfl, b5⟩; have B5 := Lib.hid (Wk.below_step S4.out.low b5); clear b5 sm))
        go_ret
        exact ⟨rfl, B5.out⟩
      · go_wp2_with (first | (go_at_call 6; refine (er _ _).mono ?_; rintro e w' ⟨rfl, hw⟩; have hw := hw.symm; subst hw) | (go_at_call 8; refine sm.mono ?_; rintro e w5 ⟨rfl, b5⟩; have B5 := Lib.hid (Wk.below_step S4.out.low b5); clear b5 sm) | (go_at_call 9; refine (zr _).mono ?_; rintro e w' ⟨rfl, hw⟩; have hw := hw.symm; subst hw))
        go_ret
        exact ⟨rfl, B5.out⟩
      · go_wp2_with (first | (go_at_call 6; refine (er _ _).mono ?_; rintro e w' ⟨rfl, hw⟩; have hw := hw.symm; subst hw) | (go_at_call 9; refine (zr _).mono ?_; rintro e w' ⟨rfl, hw⟩; have hw := hw.symm; subst hw))
        go_ret
        exact ⟨rfl, S4.out.low⟩
    · have p1 : Js.said t = [] := by unfold Js.said; rw [if_neg (fun q => hlen q.2)]
      have p2 : Js.err t = 1001 := by unfold Js.err; rw [if_pos hmay, if_neg hlen]
      have pt := fun v u hu hl => Jc.put_to (t := t) (s := ⟨#[]⟩) (x := 1001) (by rw [p1]) p2 v u hu hl
      have he : ((⟨#[]⟩ : ByteArray).toList == []) = true := by rw [ByteArray.toList_eq]; rfl
      clear p1 p2 HAG HEQ zr hlen
      go_enter Tryd.func3, Tryd.ntmps3
      go_wp2_with (first | (go_at_call 4; refine aw.mono ?_; rintro e w1 ⟨rfl, b1⟩; have B1 := Lib.hid b1; clear b1 aw))
      refine (gt _ (hT.on B1.out)).mono ?_
      rintro e w2 ⟨v2, rfl, l2, b2⟩
      obtain ⟨k2, x2, d2, s2, ai2, n2, c2, ak2, m2, e2, rfl⟩ := l2.form
      have S2 : Hid (Jz.S t w (w2.alloc (.cells #[.int .i64 k2, .int .i64 x2, .int .u64 (d2 : Int), .string s2, .slice ai2 n2 c2, .slice ak2 m2 e2] 27)) w2.heap.size _ _ _ _ _ _) :=
        ⟨Jl.below (Wk.below_step B1.out b2) _, hT.on (Jl.below (Wk.below_step B1.out b2) _), ⟨Vm.new _ _⟩, l2.on fun g hg => ⟨by simp; omega, Below.heap_alloc _ _ _ hg.2⟩⟩
      clear l2 b2 B1 gt
      go_wp2_with fail
      generalize w2.alloc (.cells #[.int .i64 k2, .int .i64 x2, .int .u64 (d2 : Int), .string s2, .slice ai2 n2 c2, .slice ak2 m2 e2] 27) = W2 at *
      generalize w2.heap.size = g2 at *
      obtain ⟨q0, q1, q2, q3, q4, q5⟩ := S2.out.box.cells
      refine (er _ _).mono ?_
      rintro e w' ⟨rfl, hw⟩
      have hw := hw.symm
      subst hw
      go_wp2_with (first | (go_at_call 7; refine (pt _ _ S2.out.tab S2.out.lies).mono ?_; rintro e w3 ⟨rfl, b3⟩; have B3 := Lib.hid (Wk.below_step S2.out.low b3); clear b3 pt) | (go_at_call 6; refine (er _ _).mono ?_; rintro e w' ⟨rfl, hw⟩; have hw := hw.symm; subst hw))
      go_ret
      exact ⟨rfl, B3.out⟩
end Go.Proofs.YtboalkfagfgnpabDoor

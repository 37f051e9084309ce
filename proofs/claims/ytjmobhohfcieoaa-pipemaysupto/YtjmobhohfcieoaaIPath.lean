/-
  THE WALKS of the reference's pathMay, Function, pipeWord.
-/
import Derived.Test.YtjmobhohfcieoaaIName
namespace Go.Proofs.Ytjmobhohfcieoaa
open Go.RowKit
theorem Pi.all_step {p : List (List UInt8)} {i : Nat} (h : i < p.length) : (p.drop i).all Pi.name = (Pi.name p[i] && (p.drop (i + 1)).all Pi.name) := by
  rw [List.drop_eq_getElem_cons h, List.all_cons]
set_option maxRecDepth 100000 in
set_option maxHeartbeats 2000000 in
theorem Pr.path (p : List (List UInt8)) (v : Value) (R : Nat → Prop) (w : World) (h : St.Lies w R p v) (hz : ∀ t ∈ p, t.length ≤ 4611686018427387904) : Calls Try.prog 33 #[v] w fun e w' => e = .returned (.bool (Pi.path p)) ∧ w' = w := by
  obtain ⟨a, d, rfl, hd, hm, hx⟩ := h
  have hml : p.length ≤ 9223372036854775807 := by unfold maxLen at hm; omega
  obtain ⟨B, hB⟩ : ∃ B, Pi.path p = B := ⟨_, rfl⟩
  rw [hB]
  have HB := Lib.hid hB
  have HX := Lib.hid hx
  have HZ := Lib.hid hz
  clear hB hx hz hm
  go_enter Try.func33, Try.ntmps33
  go_wp2_with fail
  go_loopw [3] (fun iv wr => ∃ i : Nat, i ≤ p.length ∧ iv = .int .i64 (i : Int) ∧ Hid (p.all Pi.name = (p.drop i).all Pi.name) ∧ wr = w) (fun iv _ => p.length - (intOf iv).toNat)
  case atStart => exact ⟨0, Nat.zero_le _, rfl, rfl, rfl⟩
  case round =>
    obtain ⟨i, hi, rfl, HS, hw⟩ := hrel
    have hw := hw.symm
    subst hw
    by_cases hlt : i < p.length
    · have d1 : decide ((i : Int) < (p.length : Int)) = true := decide_eq_true (by omega)
      have hid : i < d := by omega
      obtain ⟨b, o, rfl, _, c⟩ := HX.out i p[i] (List.getElem?_eq_getElem hlt)
      have nm := fun u => Pr.name ⟨p[i].toArray⟩ u (by show p[i].toArray.size ≤ _; rw [List.size_toArray]; exact HZ.out _ (List.getElem_mem hlt))
      have hst := HS.out.trans (Pi.all_step hlt)
      have HST := Lib.hid hst
      have e1 : (⟨p[i].toArray⟩ : ByteArray).data.toList = p[i] := rfl
      rw [e1] at nm
      clear HS hst HX HZ e1
      generalize (⟨p[i].toArray⟩ : ByteArray) = y at *
      cases hn : Pi.name p[i] with
      | true =>
        have HN : Hid (p.all Pi.name = (p.drop (i + 1)).all Pi.name) := by unfold Hid; rw [HST.out, hn]; rfl
        rw [hn] at nm
        clear HST hn
        go_wp2_with (go_at_call 34; refine (nm _).mono ?_; rintro e w' ⟨rfl, hw⟩; have hw := hw.symm; subst hw)
        go_roundw
        case rel => exact ⟨i + 1, by omega, by go_num, HN, by first | rfl | trivial⟩
        case measure => simp [intOf]; omega
      | false =>
        have hB : B = false := by rw [← HB.out, Pi.path, HST.out, hn]; rfl
        subst hB
        rw [hn] at nm
        clear HST hn
        go_wp2_with (go_at_call 34; refine (nm _).mono ?_; rintro e w' ⟨rfl, hw⟩; have hw := hw.symm; subst hw)
        go_ret
        exact ⟨rfl, rfl⟩
    · have d1 : decide ((i : Int) < (p.length : Int)) = false := decide_eq_false (by omega)
      have hB : decide (p.length ≤ 8) = B := by
        rw [← HB.out, Pi.path, HS.out, List.drop_of_length_le (by omega)]
        rfl
      have d2 : decide ((p.length : Int) ≤ 8) = B := by rw [← hB]; exact decide_eq_decide.2 (by omega)
      clear HS HB HX HZ
      go_wp2_with fail
      go_ret
      first | exact ⟨by rw [hB], rfl⟩ | exact ⟨rfl, rfl⟩
theorem Pi.isFn_eq (s : ByteArray) : Pi.isFn s.data.toList = (s.toList == [108, 101, 110] || (s.toList == [105, 110, 100, 101, 120] || (s.toList == [101, 113] || (s.toList == [108, 116] || (s.toList == [110, 111, 116] || (s.toList == [97, 110, 100] || (s.toList == [111, 114] || (s.toList == [99, 97, 116])))))))) := by
  unfold Pi.isFn Pi.fns
  rw [ByteArray.toList_eq]
  simp only [List.contains_cons, List.contains_nil, Bool.or_false]
set_option maxRecDepth 100000 in
set_option maxHeartbeats 2000000 in
theorem Pr.fn (s : ByteArray) (w : World) : Calls Try.prog 25 #[.string s] w fun e w' => e = .returned (.bool (Pi.isFn s.data.toList)) ∧ w' = w := by
  rw [Pi.isFn_eq]
  cases t0 : (s.toList == [108, 101, 110]) with
  | true =>
    go_enter Try.func25, Try.ntmps25
    go_wp2_with fail
    go_ret
    exact ⟨rfl, rfl⟩
  | false =>
    cases t1 : (s.toList == [105, 110, 100, 101, 120]) with
    | true =>
      go_enter Try.func25, Try.ntmps25
      go_wp2_with fail
      go_ret
      exact ⟨rfl, rfl⟩
    | false =>
      cases t2 : (s.toList == [101, 113]) with
      | true =>
        go_enter Try.func25, Try.ntmps25
        go_wp2_with fail
        go_ret
        exact ⟨rfl, rfl⟩
      | false =>
        cases t3 : (s.toList == [108, 116]) with
        | true =>
          go_enter Try.func25, Try.ntmps25
          go_wp2_with fail
          go_ret
          exact ⟨rfl, rfl⟩
        | false =>
          cases t4 : (s.toList == [110, 111, 116]) with
          | true =>
            go_enter Try.func25, Try.ntmps25
            go_wp2_with fail
            go_ret
            exact ⟨rfl, rfl⟩
          | false =>
            cases t5 : (s.toList == [97, 110, 100]) with
            | true =>
              go_enter Try.func25, Try.ntmps25
              go_wp2_with fail
              go_ret
              exact ⟨rfl, rfl⟩
            | false =>
              cases t6 : (s.toList == [111, 114]) with
              | true =>
                go_enter Try.func25, Try.ntmps25
                go_wp2_with fail
                go_ret
                exact ⟨rfl, rfl⟩
              | false =>
                cases t7 : (s.toList == [99, 97, 116]) with
                | true =>
                  go_enter Try.func25, Try.ntmps25
                  go_wp2_with fail
                  go_ret
                  exact ⟨rfl, rfl⟩
                | false =>
                  go_enter Try.func25, Try.ntmps25
                  go_wp2_with fail
                  go_ret
                  exact ⟨rfl, rfl⟩
end Go.Proofs.Ytjmobhohfcieoaa

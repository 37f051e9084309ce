/-
  THE WALK of stolelaw2.RefPlain: for any text it returns true, and turns nothing that was there.
-/
import Derived.Test.YtpehplamidbkeaaDoorRAwake
namespace Go.Proofs.YtpehplamidbkeaaDoor
open Go.RowKit

theorem Wk.ext {a b : ByteArray} (h : a.data.toList = b.data.toList) : a = b := ByteArray.ext (Array.toList_inj.1 h)
theorem Wk.cat2_data (s t : ByteArray) : (s ++ t).data.toList = s.data.toList ++ t.data.toList := by
  rw [ByteArray.data_append, Array.toList_append]
theorem Wk.cat2_size (s t : ByteArray) : (s ++ t).size = s.size + t.size := by
  rw [← Wk.len_data, Wk.cat2_data, List.length_append, Wk.len_data, Wk.len_data]
/-- Decode of x is y -/
theorem Rr.dec_to (x y : ByteArray) (h : Pl.decL x.data.toList = y.data.toList) (w : World) (hs : x.size ≤ 35184372088832) :
    Calls Tryd.prog 11 #[.string x] w fun e w' => e = .returned (.string y) ∧ Below w.heap.size w w' := by
  have c := Rr.decode x w hs
  have e : (⟨(Pl.decL x.data.toList).toArray⟩ : ByteArray) = y := Wk.ext h
  rwa [e] at c
/-- Encode of x is y -/
theorem Re.enc_to (x y : ByteArray) (h : Pl.encL x.data.toList = y.data.toList) (w : World) (hT : Lib.Utf8Tabs 1 2 w) (hs : x.size ≤ 4398046511104) :
    Calls Tryd.prog 9 #[.string x] w fun e w' => e = .returned (.string y) ∧ Below w.heap.size w w' := by
  have c := Re.encode x w hT hs
  have e : (⟨(Pl.encL x.data.toList).toArray⟩ : ByteArray) = y := Wk.ext h
  rwa [e] at c

set_option maxRecDepth 100000 in
set_option maxHeartbeats 1000000 in
theorem Law.refPlain (s : ByteArray) (w : World) (hT : Lib.Utf8Tabs 1 2 w) :
    Calls Tryd.prog 7 #[.string s] w fun e w' => e = .returned (.bool true) ∧ Below w.heap.size w w' := by
  go_enter Tryd.func7, Tryd.ntmps7
  go_wp2_with fail
  refine (Aw.awake w hT).mono ?_
  rintro e wa ⟨rfl, ba⟩
  go_wp2_with fail
  go_loop [3, 4] (fun t i => ∃ (k : Nat) (x : ByteArray), k ≤ s.size ∧ k ≤ 500 ∧ t = .string x ∧ i = .int .i64 k ∧ x.size ≤ k ∧ Hid ((59 : UInt8) ∉ x.data.toList)) (fun _ i => 500 - (intOf i).toNat)
  case atStart => exact ⟨0, ⟨#[]⟩, Nat.zero_le _, Nat.zero_le _, rfl, rfl, Nat.le_refl _, by show _ ∉ _; simp⟩
  case round =>
    obtain ⟨k, x, hk, hk5, rfl, rfl, hxs, HX⟩ := hrel
    by_cases hgo : k < s.size ∧ k < 500
    · obtain ⟨hlt, h5⟩ := hgo
      obtain ⟨c, hc⟩ : ∃ c, s[k] = c := ⟨_, rfl⟩
      have hcn : s[k].toNat = c.toNat := by rw [hc]
      by_cases h59 : c = 59
      · have b0 : ((c.toNat : Int) == 59) = true := Re.beq_true c 59 (by rw [h59]; rfl)
        clear h59 hc
        go_wp2_with fail
        go_round
        case rel => exact ⟨k + 1, x, by omega, by omega, rfl, by go_num, by omega, HX⟩
        case measure => simp [intOf]; omega
      · have b0 : ((c.toNat : Int) == 59) = false := Re.beq_false c 59 59 rfl h59
        have hcut : ∀ u : World, (Instr.slice 9 (.string s) (some (.int .i64 (k : Int))) (some (.int .i64 ((k : Int) + 1))) none).run Tryd.prog u = .ok (.string (s.extract k (k + 1))) u := fun u => by
          have h := Wk.run_cut u s (k : Int) ((k : Int) + 1) (by omega) (by omega) (by omega)
          rwa [show ((k : Int) + 1).toNat = k + 1 by omega, Int.toNat_natCast] at h
        have hps := Wk.part_size s k 1 (by omega)
        have hpd := Wk.part_data s k 1
        rw [Rd.drop_cons s k hlt, hc] at hpd
        generalize s.extract k (k + 1) = part at hcut hps hpd
        have HN : Hid ((59 : UInt8) ∉ (x ++ part).data.toList) := by
          show _ ∉ _
          rw [Wk.cat2_data, hpd, List.mem_append]
          rintro (h | h)
          · exact HX.out h
          · simp at h
            exact h59 h.symm
        have hcs := Wk.cat2_size x part
        clear hpd HX h59 hc
        go_wp2_with fail
        go_round
        case rel => exact ⟨k + 1, x ++ part, by omega, by omega, rfl, by go_num, by omega, HN⟩
        case measure => simp [intOf]; omega
    · have cd := Rr.dec_to x x (Pl.dec_plain _ HX.out) wa (by omega)
      by_cases hlt : k < s.size
      · have h5 : ¬ k < 500 := fun h => hgo ⟨hlt, h⟩
        clear hgo
        go_wp2_with fail
        refine cd.mono ?_
        rintro e w1 ⟨rfl, b1⟩
        go_wp2
        go_ret
        exact ⟨by simp, Wk.below_step ba b1⟩
      · clear hgo
        go_wp2_with fail
        refine cd.mono ?_
        rintro e w1 ⟨rfl, b1⟩
        go_wp2
        go_ret
        exact ⟨by simp, Wk.below_step ba b1⟩
end Go.Proofs.YtpehplamidbkeaaDoor

/-
  THE WALK of stolelaw13.plain; pieces put behind pieces.
-/
import Derived.Test.YtfcmcmokmhklhaaDoorLOne
import Derived.Test.YtfcmcmokmhklhaaDoorLMem
import Derived.Test.YtfcmcmokmhklhaaDoorLBlk
namespace Go.Proofs.YtfcmcmokmhklhaaDoor
open Go.RowKit
def Lo.Clean (A : ByteArray) : Prop := ∀ c ∈ A.data.toList, c ≠ 123 ∧ c ≠ 13
set_option maxRecDepth 100000 in
set_option maxHeartbeats 2000000 in
theorem Lo.plain1 (s : ByteArray) (w : World) (_hs : s.size ≤ 1152921504606846976) : Calls Tryd.prog 14 #[.string s] w fun e w' => ∃ A : ByteArray, e = .returned (.string A) ∧ A.size ≤ 200 ∧ Lo.Clean A ∧ w' = w := by
  go_enter Tryd.func14, Tryd.ntmps14
  go_wp2_with fail
  go_loopw [3, 4] (fun sv iv wx => ∃ (A : ByteArray) (i : Nat), sv = .string A ∧ iv = .int .i64 (i : Int) ∧ i ≤ s.size ∧ i ≤ 200 ∧ A.size ≤ i ∧ Hid (Lo.Clean A) ∧ wx = w) (fun _ iv _ => s.size - (intOf iv).toNat)
  case atStart => exact ⟨⟨#[]⟩, 0, rfl, rfl, Nat.zero_le _, by decide, Nat.le_refl _, fun c hc => by simp at hc, rfl⟩
  case round =>
    obtain ⟨A, i, rfl, rfl, hi, hi2, zA, HA, hw⟩ := hrel
    have hw := hw.symm
    subst hw
    by_cases hlt : i < s.size
    · have d1 : decide ((i : Int) < (s.size : Int)) = true := decide_eq_true (by omega)
      by_cases h2k : i < 200
      · have d2 : decide ((i : Int) < 200) = true := decide_eq_true (by omega)
        have d2n : decide (i < 200) = true := decide_eq_true h2k
        by_cases hc : s[i] = 123
        · have t1 : ((s[i].toNat : Int) == 123) = true := Tp.eq_true (d := 123) hc
          have t1b : ((s[i].toNat : Int) != 123) = false := by rw [bne, t1]; rfl
          clear hc
          go_wp2_with fail
          go_roundw
          case rel => exact ⟨A, i + 1, rfl, by go_num, by omega, by omega, by omega, HA, by first | rfl | trivial⟩
          case measure => simp [intOf]; omega
        · have t1 : ((s[i].toNat : Int) == 123) = false := Tp.eq_false (d := 123) hc
          have t1b : ((s[i].toNat : Int) != 123) = true := by rw [bne, t1]; rfl
          by_cases hd : s[i] = 13
          · have t2 : ((s[i].toNat : Int) == 13) = true := Tp.eq_true (d := 13) hd
            have t2b : ((s[i].toNat : Int) != 13) = false := by rw [bne, t2]; rfl
            clear hc hd
            go_wp2_with fail
            go_roundw
            case rel => exact ⟨A, i + 1, rfl, by go_num, by omega, by omega, by omega, HA, by first | rfl | trivial⟩
            case measure => simp [intOf]; omega
          · have t2 : ((s[i].toNat : Int) == 13) = false := Tp.eq_false (d := 13) hd
            have t2b : ((s[i].toNat : Int) != 13) = true := by rw [bne, t2]; rfl
            obtain ⟨q, hcut, hq, zq⟩ := Lf.cut1 s i hlt
            have HA2 : Hid (Lo.Clean (A ++ q)) := fun c h => by
              rw [Lf.append, hq] at h
              rcases List.mem_append.1 h with h | h
              · exact HA.out c h
              · rw [List.mem_singleton.1 h]; exact ⟨hc, hd⟩
            have zAq : (A ++ q).size = A.size + 1 := by rw [ByteArray.size_append, zq]
            clear hc hd HA hq
            go_wp2_with fail
            go_roundw
            case rel => exact ⟨A ++ q, i + 1, rfl, by go_num, by omega, by omega, by omega, HA2, by first | rfl | trivial⟩
            case measure => simp [intOf]; omega
      · have d2 : decide ((i : Int) < 200) = false := decide_eq_false (by omega)
        have d2n : decide (i < 200) = false := decide_eq_false h2k
        go_wp2_with fail
        go_ret
        exact ⟨A, rfl, by omega, HA.out, rfl⟩
    · have d1 : decide ((i : Int) < (s.size : Int)) = false := decide_eq_false (by omega)
      go_wp2_with fail
      go_ret
      exact ⟨A, rfl, by omega, HA.out, rfl⟩
/-- pieces in a block, laid anew, are a row of one's own -/
theorem Lm.own_lit {w : World} {base g : Nat} {cs : Array Value} (ps : List Pc) (n : Nat) (h : Bs.Box w g cs 33) (hb : base ≤ g) (hn : ps.length = n) (hm : n ≤ 1000) (hc : cs.toList = Pc.cells ps) : w.ownsRow base 33 3 (.slice (some ⟨g, 0, none⟩) n n) ps.length (Pc.cells ps) := by
  subst hn
  have hl : cs.size = ps.length * 3 := by rw [← Array.length_toList, hc, Pc.cells_length]
  refine ⟨Pc.cells_length ps, .inr ⟨g, ps.length, cs, rfl, hb, h, Nat.le_refl _, by unfold maxLen; omega, hl, ?_⟩⟩
  rw [hc, List.take_of_length_le (by rw [Pc.cells_length]; exact Nat.le_refl _)]
/-- 'append(row, pieces...)' -/
theorem Lm.pushN {w : World} {ops : Array Oper} {rest : List Oper} {o : Oper} {a : Act} {Z : Exit → Act → World → Prop} (hgd : o.guard = none) (s x : Operand)
    (ho : o.op = .call { callee := .builtin .append, args := #[s, x], argTypes := #[22, 22] })
    {base : Nat} {ps qs : List Pc} (v : Value) (hs : a.eval s = v) (hown : w.ownsRow base 33 3 v ps.length (Pc.cells ps)) (g1 m c : Nat) (hm : qs.length = m)
    (hx : a.eval x = .slice (some ⟨g1, 0, none⟩) m c) (hg1 : ∀ j u, (Pc.cells qs)[j]? = some u → w.cell? ⟨g1, j, none⟩ = some u) (hn : ps.length + m ≤ 4398046511104) (hbase : base ≤ w.heap.size)
    (h : ∀ v' w', w'.ownsRow base 33 3 v' (ps ++ qs).length (Pc.cells (ps ++ qs)) → w.grownBy w' v.ownBlock → wpList Tryd.prog ops Z rest (a.put o.dst v') w') : wpList Tryd.prog ops Z (o :: rest) a w := by
  refine wpList_plain hgd fun _ hK => ?_
  obtain ⟨iV, hiV, hzV, hsV, hbV⟩ := info_parts Lm.info
  have hone : ∀ u ∈ Pc.cells qs, u.oneCell' = true := by
    intro u hu
    obtain ⟨p, _, hp⟩ := List.mem_flatMap.1 hu
    exact Pc.three_one p u hp
  have hl : (Pc.cells qs).length = m * 3 := by rw [Pc.cells_length, hm]
  have hnews : ∀ j u, (Pc.cells qs)[j]? = some u → w.cell? ((⟨g1, 0, none⟩ : Addr).add j) = some u := fun j u hj => by
    rw [Ro.add, Nat.zero_add]
    exact hg1 j u hj
  obtain ⟨v', w', hr, h2, h3, h4⟩ := run_append_own (P := Tryd.prog) w base 22 o.type 33 iV _ 3 32 Tryd.underlying22 hiV hzV hsV hbV rfl (by decide) v ps.length (Pc.cells ps) hown ⟨g1, 0, none⟩ m c (Pc.cells qs) hl hnews hone (by unfold maxLen; omega) (by omega) hbase
  unfold Oper.wp execOp
  simp only [ho, resolve, invoke, builtin, Sem.run_bind, Sem.run_pure, Result.andThen_ok, List.map_toArray, List.map_cons, List.map_nil, hs, hx, hr]
  refine hK _ _ (h v' w' ?_ h3)
  rw [List.length_append, hm, Pc.cells_append]
  exact h2
theorem Lb.and12 (x : Int) : ∃ k : Nat, Go.bits .and .i64 x 4095 = (k : Int) ∧ k < 4096 := ⟨(x % 4096).toNat, by rw [show Go.bits .and .i64 x 4095 = x % 4096 from Lb.and 12 (by decide) x]; omega, by omega⟩
theorem Lo.act_dec (k : Nat) : Lo.Act (46 :: 107 :: Lib.decDigits k) ∧ ∀ c ∈ 46 :: 107 :: Lib.decDigits k, c ≠ 13 := by
  have hd := Dm.digit k
  have hne := Dm.digits_ne k
  refine ⟨⟨?_, ?_⟩, ?_⟩
  · obtain ⟨m, d, hmd⟩ : ∃ m d, Lib.decDigits k = m ++ [d] := ⟨_, _, (List.dropLast_concat_getLast hne).symm⟩
    have h := hd d (by rw [hmd]; simp)
    refine ⟨46, 107 :: m, d, by rw [hmd]; rfl, rfl, ?_, ?_, by decide, by decide⟩
    · unfold Lx.blank
      rw [beq_eq_false_iff_ne.2 (fun q => by rw [q] at h; revert h; decide), beq_eq_false_iff_ne.2 (fun q => by rw [q] at h; revert h; decide), beq_eq_false_iff_ne.2 (fun q => by rw [q] at h; revert h; decide)]
      rfl
    · intro q
      rw [q] at h
      revert h
      decide
  · intro c hc
    rcases List.mem_cons.1 hc with rfl | hc
    · decide
    · rcases List.mem_cons.1 hc with rfl | hc
      · decide
      · have h := hd c hc
        exact ⟨fun q => by rw [q] at h; revert h; decide, fun q => by rw [q] at h; revert h; decide⟩
  · intro c hc
    rcases List.mem_cons.1 hc with rfl | hc
    · decide
    · rcases List.mem_cons.1 hc with rfl | hc
      · decide
      · have h := hd c hc
        intro q
        rw [q] at h
        revert h
        decide
end Go.Proofs.YtfcmcmokmhklhaaDoor

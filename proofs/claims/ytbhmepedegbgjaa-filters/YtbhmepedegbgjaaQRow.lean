/-
  A ROW OF BYTES OF ONE'S OWN THAT GROWS by some bytes at a time.
-/
import Derived.Test.YtbhmepedegbgjaaQPlain
import Derived.Test.YtbhmepedegbgjaaRefNorm
import Derived.Laws.AppendOwn
import Derived.Lib.Hide
import Derived.Laws.OwnMore
import Derived.Deep.RegionLaw
namespace Go.Proofs.Ytbhmepedegbgjaa
open Go.RowKit
theorem Rb.info : (Try.prog.info? 5).map (fun i => (i.zero, i.size, i.bytes)) = some (some (.int .u8 0), 1, 1) := by kernel_rfl
theorem Rb.new (W : World) (arr : Array Value) (t : TypeId) (g : Nat) (h : g = W.heap.size) : ∀ (j : Nat) (u : Value), arr.toList[j]? = some u → (W.alloc (.cells arr t)).cell? ((⟨g, 0, none⟩ : Addr).add j) = some u := by
  subst h
  intro j u hj
  rw [Addr.add_lit, Nat.zero_add]
  unfold World.cell?
  rw [show (W.alloc (.cells arr t)).heap[W.heap.size]? = some _ from heap_alloc_new W _]
  simpa using hj
theorem Rb.wp {w : World} {o : Oper} {a : Act} {K : Act → World → Prop} {Z : Exit → Act → World → Prop} (s x : Operand)
    (ho : o.op = .call { callee := .builtin .append, args := #[s, x], argTypes := #[25, 25] })
    {base : Nat} {acc : List UInt8} (v : Value) (hs : a.eval s = v) (hown : w.ownsRow base 5 1 v acc.length (Lib.byteCells acc)) (g1 : Nat) (news : List UInt8) (k : Nat) (hk : news.length = k)
    (hx : a.eval x = .slice (some ⟨g1, 0, none⟩) k k) (hg1 : ∀ (j : Nat) (u : Value), (Lib.byteCells news)[j]? = some u → w.cell? ((⟨g1, 0, none⟩ : Addr).add j) = some u)
    (hn : acc.length + k ≤ 140737488355328) (hbase : base ≤ w.heap.size)
    (h : ∀ v' w', w'.ownsRow base 5 1 v' (acc ++ news).length (Lib.byteCells (acc ++ news)) → w.grownBy w' v.ownBlock → K (a.put o.dst v') w') : o.wp Try.prog a w K Z := by
  obtain ⟨iV, hiV, hzV, hsV, hbV⟩ := info_parts Rb.info
  have hone : ∀ u ∈ Lib.byteCells news, u.oneCell' = true := by
    intro u hu
    simp only [Lib.byteCells, List.mem_map] at hu
    obtain ⟨b, _, rfl⟩ := hu
    rfl
  have hl : (Lib.byteCells news).length = k * 1 := by rw [Lib.byteCells_length, hk, Nat.mul_one]
  obtain ⟨v', w', hr, h2, h3, h4⟩ := run_append_own (P := Try.prog) w base 25 o.type 5 iV _ 1 1 Try.underlying25 hiV hzV hsV hbV rfl (by decide) v acc.length (Lib.byteCells acc) hown ⟨g1, 0, none⟩ k k (Lib.byteCells news) hl hg1 hone (by unfold maxLen; omega) (by omega) hbase
  unfold Oper.wp execOp
  simp only [ho, resolve, invoke, builtin, Sem.run_bind, Sem.run_pure, Result.andThen_ok, List.map_toArray, List.map_cons, List.map_nil, hs, hx, hr]
  refine h v' w' ?_ h3
  rw [List.length_append, hk]
  have e : Lib.byteCells (acc ++ news) = Lib.byteCells acc ++ Lib.byteCells news := by simp [Lib.byteCells]
  rw [e]
  exact h2
theorem Rb.push {w : World} {ops : Array Oper} {rest : List Oper} {o : Oper} {a : Act} {Z : Exit → Act → World → Prop} (hgd : o.guard = none) (s x : Operand)
    (ho : o.op = .call { callee := .builtin .append, args := #[s, x], argTypes := #[25, 25] })
    {base : Nat} {acc : List UInt8} (v : Value) (hs : a.eval s = v) (hown : w.ownsRow base 5 1 v acc.length (Lib.byteCells acc)) (g1 : Nat) (news : List UInt8) (k : Nat) (hk : news.length = k)
    (hx : a.eval x = .slice (some ⟨g1, 0, none⟩) k k) (hg1 : ∀ (j : Nat) (u : Value), (Lib.byteCells news)[j]? = some u → w.cell? ((⟨g1, 0, none⟩ : Addr).add j) = some u)
    (hn : acc.length + k ≤ 140737488355328) (hbase : base ≤ w.heap.size)
    (h : ∀ v' w', w'.ownsRow base 5 1 v' (acc ++ news).length (Lib.byteCells (acc ++ news)) → w.grownBy w' v.ownBlock → wpList Try.prog ops Z rest (a.put o.dst v') w') : wpList Try.prog ops Z (o :: rest) a w :=
  wpList_plain hgd fun _ hK => Rb.wp s x ho v hs hown g1 news k hk hx hg1 hn hbase fun v' w' h2 h3 => hK _ _ (h v' w' h2 h3)
theorem Rb.step {w : World} {ops : Array Oper} {o : Oper} {a : Act} {K : Act → World → Prop} {E : Prop} {Z : Exit → Act → World → Prop} (hgd : o.guard = none) (s x : Operand)
    (ho : o.op = .call { callee := .builtin .append, args := #[s, x], argTypes := #[25, 25] })
    {base : Nat} {acc : List UInt8} (v : Value) (hs : a.eval s = v) (hown : w.ownsRow base 5 1 v acc.length (Lib.byteCells acc)) (g1 : Nat) (news : List UInt8) (k : Nat) (hk : news.length = k)
    (hx : a.eval x = .slice (some ⟨g1, 0, none⟩) k k) (hg1 : ∀ (j : Nat) (u : Value), (Lib.byteCells news)[j]? = some u → w.cell? ((⟨g1, 0, none⟩ : Addr).add j) = some u)
    (hn : acc.length + k ≤ 140737488355328) (hbase : base ≤ w.heap.size)
    (h : ∀ v' w', w'.ownsRow base 5 1 v' (acc ++ news).length (Lib.byteCells (acc ++ news)) → w.grownBy w' v.ownBlock → K (a.put o.dst v') w') : if Region.wanted o (yielded ops a.tmps) = true then Oper.wp Try.prog o a w K Z else E := by
  rw [if_pos (by simp [Region.wanted, hgd])]
  exact Rb.wp s x ho v hs hown g1 news k hk hx hg1 hn hbase h
theorem Rb.form {w : World} {base n : Nat} {v : Value} {xs : List Value} (h : w.ownsRow base 5 1 v n xs) : ∃ a d, v = .slice a n d := by
  rcases h.2 with ⟨rfl, rfl⟩ | ⟨g, cap, cur, rfl, _⟩
  · exact ⟨_, _, rfl⟩
  · exact ⟨_, _, rfl⟩
set_option maxRecDepth 100000 in
theorem Qr.in (c : UInt8) (S : ByteArray) (w : World) (hS : S.size ≤ 4611686018427387904) :
    Calls Try.prog 14 #[.int .u8 c.toNat, .string S] w fun e w' => e = .returned (.bool (S.data.toList.contains c)) ∧ w' = w := by
  obtain ⟨b, hb⟩ : ∃ b, S.data.toList.contains c = b := ⟨_, rfl⟩
  rw [hb]
  have HB := Lib.hid hb
  clear hb
  go_enter Try.func14, Try.ntmps14
  go_wp2_with fail
  go_loopw [5] (fun ix wr => ∃ i : Nat, i ≤ S.size ∧ ix = .int .i64 (i : Int) ∧ Hid ((S.data.toList.take i).contains c = false) ∧ wr = w) (fun ix _ => S.size - (intOf ix).toNat)
  case atStart => exact ⟨0, Nat.zero_le _, rfl, rfl, rfl⟩
  case round =>
    obtain ⟨i, hi, rfl, HC, hw⟩ := hrel
    have hw := hw.symm
    subst hw
    by_cases hlt : i < S.size
    · have d1 : decide ((i : Int) < (S.size : Int)) = true := decide_eq_true (by omega)
      have hl : i < S.data.toList.length := by rw [Wk.len_data]; exact hlt
      have hg : S.data.toList[i] = S[i] := by simp [ByteArray.getElem_eq_getElem_data]
      have HT : Hid ((S.data.toList.take (i + 1)).contains c = ((S.data.toList.take i).contains c || decide (c = S[i]))) := by
        unfold Hid
        rw [List.take_succ_eq_append_getElem hl, hg]
        simp [List.contains_eq_mem]
      by_cases hc : S[i] = c
      · have t1 : ((S[i].toNat : Int) == (c.toNat : Int)) = true := by rw [hc]; simp
        have HR : Hid (S.data.toList.contains c = true) := by
          unfold Hid
          rw [List.contains_iff_mem, ← hc, ← hg]
          exact List.getElem_mem hl
        have hbt : b = true := HB.out.symm.trans HR.out
        subst hbt
        clear hc hg
        go_wp2
        go_ret
        exact ⟨rfl, rfl⟩
      · have t1 : ((S[i].toNat : Int) == (c.toNat : Int)) = false := beq_eq_false_iff_ne.2 fun q => hc (UInt8.toNat_inj.1 (by omega))
        have HN : Hid ((S.data.toList.take (i + 1)).contains c = false) := by
          unfold Hid
          rw [HT.out, HC.out]
          simp
          exact fun q => hc q.symm
        clear hc hg
        go_wp2
        go_roundw
        case rel => exact ⟨i + 1, by omega, by go_num, HN, by first | rfl | trivial⟩
        case measure => simp [intOf]; omega
    · have e : i = S.size := by omega
      subst e
      have d1 : decide ((S.size : Int) < (S.size : Int)) = false := decide_eq_false (by omega)
      have HR : Hid (S.data.toList.contains c = false) := by
        have := HC.out
        rw [List.take_of_length_le (by rw [Wk.len_data]; exact Nat.le_refl _)] at this
        exact this
      have hbf : b = false := HB.out.symm.trans HR.out
      subst hbf
      go_wp2
      go_ret
      exact ⟨rfl, rfl⟩
end Go.Proofs.Ytbhmepedegbgjaa

/-
  A TREE IN MEMORY OF ITS OWN, and the law of 'append(nil, xs...)'.
-/
import Derived.Test.YtggfemdnoccmeaaDoorVAlike
import Derived.Laws.AppendOwn
namespace Go.Proofs.YtggfemdnoccmeaaDoor
open Go.RowKit

/-- the tree lies in blocks from lo on, below hi, each part in blocks of its own -/
def Vt.Own (w : World) : Vt → Nat → Nat → Value → Prop
  | .nil, _, _, _ => False
  | .mk k x b s n it m ks, lo, hi, v => ∃ ai c ak d mid, v = .agg #[.int .i64 k, .int .i64 x, .int .u64 (b : Int), .string s, .slice ai n c, .slice ak m d] ∧ b < 18446744073709551616 ∧ (m ≤ d ∧ d ≤ maxLen) ∧ (n ≤ c ∧ c ≤ maxLen) ∧ lo ≤ mid ∧ mid ≤ hi ∧
    (0 < m → ∃ g cur, ak = some ⟨g, 0, none⟩ ∧ lo ≤ g ∧ g < mid ∧ w.heap[g]? = some (.cells cur 9) ∧ ∀ j, j < m → cur[j]? = some (.string (ks j))) ∧
    (0 < n → ∃ g cur, ∃ A B : Nat → Nat, ai = some ⟨g, 0, none⟩ ∧ mid ≤ g ∧ g < hi ∧ w.heap[g]? = some (.cells cur 26) ∧
      (∀ i, i < n → g < A i ∧ B i ≤ hi ∧ ∃ u0 u1 u2 u3 u4 u5, cur[i * 6]? = some u0 ∧ cur[i * 6 + 1]? = some u1 ∧ cur[i * 6 + 2]? = some u2 ∧ cur[i * 6 + 3]? = some u3 ∧ cur[i * 6 + 4]? = some u4 ∧ cur[i * 6 + 5]? = some u5 ∧ (it i).Own w (A i) (B i) (.agg #[u0, u1, u2, u3, u4, u5])) ∧
      ∀ i i', i < i' → i' < n → B i ≤ A i')

theorem Vt.Own.on {w w' : World} : ∀ {t : Vt} {lo hi : Nat} {v : Value}, (∀ g, lo ≤ g → g < hi → w'.heap[g]? = w.heap[g]?) → t.Own w lo hi v → t.Own w' lo hi v := by
  intro t
  induction t with
  | nil => intro lo hi v _ h; exact h.elim
  | mk k x b s n it m ks ih =>
    rintro lo hi v hw ⟨ai, c, ak, d, mid, rfl, hb, hd, hc, h1, h2, hk, hi'⟩
    refine ⟨ai, c, ak, d, mid, rfl, hb, hd, hc, h1, h2, fun hm => ?_, fun hn => ?_⟩
    · obtain ⟨g, cur, e, g1, g2, hg, hj⟩ := hk hm
      exact ⟨g, cur, e, g1, g2, (hw g g1 (by omega)).trans hg, hj⟩
    · obtain ⟨g, cur, A, B, e, g1, g2, hg, hj, hp⟩ := hi' hn
      refine ⟨g, cur, A, B, e, g1, g2, (hw g (by omega) g2).trans hg, fun i hin => ?_, hp⟩
      obtain ⟨a1, a2, u0, u1, u2, u3, u4, u5, q0, q1, q2, q3, q4, q5, ho⟩ := hj i hin
      exact ⟨a1, a2, u0, u1, u2, u3, u4, u5, q0, q1, q2, q3, q4, q5, ih i (fun g' l1 l2 => hw g' (by omega) (by omega)) ho⟩
theorem Vt.Own.lies {w : World} : ∀ {t : Vt} {lo hi : Nat} {v : Value}, t.Own w lo hi v → t.Lies w (fun g => lo ≤ g ∧ g < hi) v := by
  intro t
  induction t with
  | nil => intro lo hi v h; exact h.elim
  | mk k x b s n it m ks ih =>
    rintro lo hi v ⟨ai, c, ak, d, mid, rfl, hb, hd, hc, h1, h2, hk, hi'⟩
    refine ⟨ai, c, ak, d, rfl, hb, hc.1, hc.2, ⟨hd.1, hd.2, fun j hj => ?_⟩, fun i hin => ?_⟩
    · obtain ⟨g, cur, e, g1, g2, hg, hj'⟩ := hk (by omega)
      refine ⟨g, 0, e, ⟨g1, by omega⟩, ?_⟩
      rw [Nat.zero_add]
      exact Vm.boxCell hg j (hj' j hj)
    · obtain ⟨g, cur, A, B, e, g1, g2, hg, hj, hp⟩ := hi' (by omega)
      obtain ⟨a1, a2, u0, u1, u2, u3, u4, u5, q0, q1, q2, q3, q4, q5, ho⟩ := hj i hin
      refine ⟨g, 0, u0, u1, u2, u3, u4, u5, e, ⟨by omega, g2⟩, ?_, ?_, ?_, ?_, ?_, ?_, (ih i ho).on fun g' hg' => ⟨⟨by omega, by omega⟩, rfl⟩⟩
      all_goals rw [Nat.zero_add]
      · exact Vm.boxCell hg _ q0
      · exact Vm.boxCell hg _ q1
      · exact Vm.boxCell hg _ q2
      · exact Vm.boxCell hg _ q3
      · exact Vm.boxCell hg _ q4
      · exact Vm.boxCell hg _ q5

theorem Vc.run0 (P : Program) (w : World) (t ty e : TypeId) (i : TypeInfo) (ht : P.underlying t = some (.slice e)) (hi : P.info? e = some i) (ak : Option Addr) (d : Nat) :
    (Builtin.append_ #[t, t] ty #[.slice none 0 0, .slice ak 0 d]).run P w = .ok (.slice none 0 0) w := by
  cases ak with
  | none => simp [Builtin.append_, run_underlying ht, sizeOf, typeInfo, hi, Builtin.lenOf, Builtin.firstCells]
  | some a => simp [Builtin.append_, run_underlying ht, sizeOf, typeInfo, hi, Builtin.lenOf, Builtin.firstCells, loadCells, loadCellsFrom]

/-- 'append(nil, xs...)': the elements of xs, in a row of its own -/
theorem Vc.append {P : Program} {w : World} {ops : Array Oper} {rest : List Oper} {o : Oper} {a : Act} {Q : Exit → Act → World → Prop} (hgd : o.guard = none) (s x : Operand) (t : TypeId)
    (ho : o.op = .call { callee := .builtin .append, args := #[s, x], argTypes := #[t, t] })
    (base : Nat) (e : TypeId) (i : TypeInfo) (z : Value) (size bytes : Nat) (ht : P.underlying t = some (.slice e)) (hi : P.info? e = some i) (hz : i.zero = some z)
    (hsize : i.size = size) (hby : i.bytes = bytes) (hzs : z.cells.size = size) (hsz : 0 < size) (hs : a.eval s = .slice none 0 0)
    (ak : Option Addr) (m d : Nat) (news : List Value) (hx : a.eval x = .slice ak m d) (hl : news.length = m * size) (hnews : ∀ j u, news[j]? = some u → ∃ ad, ak = some ad ∧ w.cell? (ad.add j) = some u) (h1 : ∀ u ∈ news, u.oneCell' = true)
    (h63 : m ≤ maxLen) (hbytes : m * bytes ≤ 140737488355328) (hbase : base ≤ w.heap.size)
    (h : ∀ v' w', w'.ownsRow base e size v' m news → w.grownBy w' none → wpList P ops Q rest (a.put o.dst v') w') : wpList P ops Q (o :: rest) a w := by
  by_cases hm : m = 0
  · subst hm
    refine wpList_plain hgd fun K hK => ?_
    have hrun := Vc.run0 P w t o.type e i ht hi ak d
    have hn : news = [] := List.eq_nil_of_length_eq_zero (by rw [hl]; simp)
    subst hn
    have h2 := h (.slice none 0 0) w (World.ownsRow_nil _ _ _ _) ?_
    · unfold Oper.wp
      simp [execOp, ho, resolve, invoke, builtin, hs, hx, hrun, Result.andThen]
      exact hK _ _ h2
    · exact ⟨rfl, rfl, rfl, Nat.le_refl _, fun _ _ _ => rfl⟩
  · have hp : 0 < news.length := by rw [hl]; exact Nat.mul_pos (by omega) hsz
    obtain ⟨ad, rfl, _⟩ := hnews 0 _ (List.getElem?_eq_getElem hp)
    refine wpList_append_own _ hgd s x t ho base e i z size bytes ht hi hz hsize hby hzs hsz (.slice none 0 0) 0 [] hs (World.ownsRow_nil _ _ _ _) ad m d news hx hl (fun j u hj => ?_) h1 (by omega) (by rw [Nat.zero_add]; exact hbytes) hbase (fun v' w' r g _ => ?_)
    · obtain ⟨ad', e', hc⟩ := hnews j u hj
      cases e'
      exact hc
    · rw [Nat.zero_add, List.nil_append] at r
      exact h v' w' r g
end Go.Proofs.YtggfemdnoccmeaaDoor

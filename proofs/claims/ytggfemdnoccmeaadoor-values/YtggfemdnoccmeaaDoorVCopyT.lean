/-
  'append([]string{}, xs...)', and the walk of stolelaw0.CopyTexts.
-/
import Derived.Test.YtggfemdnoccmeaaDoorVRow
namespace Go.Proofs.YtggfemdnoccmeaaDoor
open Go.RowKit

theorem Vc.run0' (P : Program) (w : World) (t ty e : TypeId) (i : TypeInfo) (ht : P.underlying t = some (.slice e)) (hi : P.info? e = some i) (g : Nat) (ak : Option Addr) (d : Nat) :
    (Builtin.append_ #[t, t] ty #[.slice (some ⟨g, 0, none⟩) 0 0, .slice ak 0 d]).run P w = .ok (.slice (some ⟨g, 0, none⟩) 0 0) w := by
  cases ak with
  | none => simp [Builtin.append_, run_underlying ht, sizeOf, typeInfo, hi, Builtin.lenOf, Builtin.firstCells, storeCells]
  | some a => simp [Builtin.append_, run_underlying ht, sizeOf, typeInfo, hi, Builtin.lenOf, Builtin.firstCells, loadCells, loadCellsFrom, storeCells]
/-- 'append([]string{}, xs...)': the texts of xs, in a row of its own -/
theorem Vc.append' {w : World} {ops : Array Oper} {rest : List Oper} {o : Oper} {a : Act} {Q : Exit → Act → World → Prop} (hgd : o.guard = none) (s x : Operand)
    (ho : o.op = .call { callee := .builtin .append, args := #[s, x], argTypes := #[24, 24] })
    (base g : Nat) (hs : a.eval s = .slice (some ⟨g, 0, none⟩) 0 0) (hown : w.ownsRow base 9 1 (.slice (some ⟨g, 0, none⟩) 0 0) 0 [])
    (m : Nat) (ks : Nat → ByteArray) (ak : Option Addr) (d : Nat) (hx : a.eval x = .slice ak m d) (hk : ∀ j u, (Vc.texts m ks)[j]? = some u → ∃ ad, ak = some ad ∧ w.cell? (ad.add j) = some u)
    (hm : m * 16 ≤ 140737488355328) (hbase : base ≤ w.heap.size)
    (h : ∀ v' w', w'.ownsRow base 9 1 v' m (Vc.texts m ks) → w.grownBy w' (some g) → wpList Tryd.prog ops Q rest (a.put o.dst v') w') : wpList Tryd.prog ops Q (o :: rest) a w := by
  obtain ⟨iS, hiS, hzS, hsS, hbS⟩ := info_parts Vc.infoS
  by_cases h0 : m = 0
  · subst h0
    refine wpList_plain hgd fun K hK => ?_
    have hrun := Vc.run0' Tryd.prog w 24 o.type 9 iS Tryd.underlying24 hiS g ak d
    have h2 := h (.slice (some ⟨g, 0, none⟩) 0 0) w hown ⟨rfl, rfl, rfl, Nat.le_refl _, fun _ _ _ => rfl⟩
    unfold Oper.wp
    simp [execOp, ho, resolve, invoke, builtin, hs, hx, hrun, Result.andThen]
    exact hK _ _ h2
  · have hp : 0 < (Vc.texts m ks).length := by rw [Vc.texts_length]; omega
    obtain ⟨ad, rfl, _⟩ := hk 0 _ (List.getElem?_eq_getElem hp)
    refine wpList_append_own _ hgd s x 24 ho base 9 iS _ 1 16 Tryd.underlying24 hiS hzS hsS hbS rfl (by decide) (.slice (some ⟨g, 0, none⟩) 0 0) 0 [] hs hown ad m d (Vc.texts m ks) hx (Vc.texts_length m ks) (fun j u hj => ?_) (Vc.texts_one m ks) (by unfold maxLen; omega) (by omega) hbase (fun v' w' r gr _ => ?_)
    · obtain ⟨ad', e', hc⟩ := hk j u hj
      cases e'
      exact hc
    · rw [Nat.zero_add, List.nil_append] at r
      exact h v' w' r gr
/-- what a row of texts of its own is -/
theorem Vc.keysOf {w : World} {base m : Nat} {ks : Nat → ByteArray} {v : Value} (h : w.ownsRow base 9 1 v m (Vc.texts m ks)) : ∃ a d, v = .slice a m d ∧ Vt.Keys w (fun k => base ≤ k ∧ k < w.heap.size) m ks a d := by
  obtain ⟨a, d, e, h1, h2, _, hrow⟩ := Vc.row_form h
  refine ⟨a, d, e, h1, h2, fun j hj => ?_⟩
  obtain ⟨g, cur, e', g1, g2, hg, _, hc⟩ := hrow (by omega)
  refine ⟨g, 0, e', ⟨g1, g2⟩, ?_⟩
  rw [Nat.zero_add]
  exact Vm.boxCell hg j (hc j _ (by simp [Vc.texts, hj]))
theorem Vc.empty (w : World) (base : Nat) (hb : base ≤ w.heap.size) : (w.alloc (.cells #[] 9)).ownsRow base 9 1 (.slice (some ⟨w.heap.size, 0, none⟩) 0 0) 0 [] :=
  World.ownsRow_made w #[] 0 hb (by decide) rfl

set_option maxRecDepth 100000 in
theorem Cv.texts (m : Nat) (ks : Nat → ByteArray) (ak : Option Addr) (d : Nat) (w : World) (h : Vt.Keys w (· < w.heap.size) m ks ak d) (hm : m * 16 ≤ 140737488355328) :
    Calls Tryd.prog 5 #[.slice ak m d] w fun e w' => ∃ a' d', e = .returned (.slice a' m d') ∧ Vt.Keys w' (fun k => w.heap.size ≤ k ∧ k < w'.heap.size) m ks a' d' ∧ Below w.heap.size w w' := by
  have HK := Lib.hid h
  clear h
  have hmk : ∀ o, Hid (∀ j u, (Vc.texts m ks)[j]? = some u → ∃ ad, ak = some ad ∧ (w.alloc o).cell? (ad.add j) = some u) := fun o => Vc.texts_cell HK.out ((Below.refl _ _).alloc (Nat.le_refl _) o)
  go_enter Tryd.func5, Tryd.ntmps5
  go_wp2_with (at_builtin; refine Vc.append' rfl _ _ rfl w.heap.size w.heap.size rfl (Vc.empty w _ (Nat.le_refl _)) m ks ak d rfl (hmk _).out hm (by simp) ?_)
  intro v' w1 hown hgr
  obtain ⟨a1, d1, rfl, hK⟩ := Vc.keysOf hown
  have hb : Below w.heap.size w w1 := ((Below.refl w.heap.size w).alloc (Nat.le_refl _) _).grown hgr (by simp) (fun k hk => by cases hk; exact Nat.le_refl _)
  have HKK := Lib.hid hK
  clear hK hown hgr
  go_wp2
  go_ret
  exact ⟨a1, d1, rfl, HKK.out, hb⟩
end Go.Proofs.YtggfemdnoccmeaaDoor

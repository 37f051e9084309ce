/-
  THE WALK of the landed reader: field.
-/
import Derived.Test.YtnophkbbeipaaaaXWord
namespace Go.Proofs.Ytnophkbbeipaaaa
open Go.RowKit
/-- what the document's word at a '.' is -/
def Xr.fld (S : List UInt8) (i : Nat) : Except Int (Wo × Nat) :=
  if i + 1 < S.length ∧ Lx.blank (S.getD (i + 1) 0) = false ∧ S.getD (i + 1) 0 ≠ 124 then (Wx.or (Wx.path S i) 1400).map fun r => (⟨1, [], r.1, 0⟩, r.2)
  else .ok (⟨1, [], [], 0⟩, i + 1)
theorem Xr.fld_is (s : ByteArray) (i : Nat) : Xr.fld s.data.toList i = if Xr.fin s (i + 1) = true then .ok (⟨1, [], [], 0⟩, i + 1) else (Wx.or (Wx.path s.data.toList i) 1400).map fun r => (⟨1, [], r.1, 0⟩, r.2) := by
  unfold Xr.fld Xr.fin
  rw [Wk.len_data]
  by_cases h1 : s.size ≤ i + 1
  · rw [decide_eq_true h1, if_neg (fun q => by omega)]
    rfl
  · rw [decide_eq_false h1, Bool.false_or]
    cases h2 : Lx.blank (s.data.toList.getD (i + 1) 0) with
    | true => rw [if_neg (fun q => by cases q.2.1)]; rfl
    | false =>
      rw [Bool.false_or]
      by_cases h3 : s.data.toList.getD (i + 1) 0 = 124
      · rw [decide_eq_true h3, if_neg (fun q => q.2.2 h3)]; rfl
      · rw [decide_eq_false h3, if_pos ⟨by omega, rfl, h3⟩]; rfl
set_option maxRecDepth 100000 in
set_option maxHeartbeats 4000000 in
theorem Xr.field {w0 w : World} {g : Nat} {s : ByteArray} {i : Nat} (h : Xr.At w0 w g s (i + 1)) (hdot : s.data.toList[i]? = some 46) (hs : s.size ≤ 1099511627776) :
    Calls Try.prog 41 #[.pointer (some ⟨g, 0, none⟩)] w (Xr.WOut (Xr.fld s.data.toList i) w0 w g s) := by
  have hgw := h.lt
  have hlo := h.kept.size
  obtain ⟨w2, hw2⟩ : ∃ W0, (w.alloc (.cells #[.int .i64 0, .string ⟨#[]⟩, .slice none 0 0, .int .i64 0] 37)).alloc (.cells #[.int .i64 1, .string ⟨#[]⟩, .slice none 0 0, .int .i64 0] 37) = W0 := ⟨_, rfl⟩
  have hsz0 : w2.heap.size = w.heap.size + 1 + 1 := by rw [← hw2]; simp
  have HX2 : Hid (Bs.Box w2 w.heap.size #[.int .i64 0, .string ⟨#[]⟩, .slice none 0 0, .int .i64 0] 37) := by rw [← hw2]; exact (Bs.Box.new _ _ _ _ rfl).alloc _
  have HV2 : Hid (Bs.Box w2 (w.heap.size + 1) #[.int .i64 1, .string ⟨#[]⟩, .slice none 0 0, .int .i64 0] 37) := by rw [← hw2]; exact Bs.Box.new _ _ _ _ (by simp)
  have HA2 : Hid (Xr.At w0 w2 g s (i + 1)) := by rw [← hw2]; exact (h.then ((Below.refl _ _).alloc (Nat.le_refl _) _)).then ((Below.refl _ _).alloc (Nat.le_refl _) _)
  have me := Xr.mayEnd HA2.out
  clear h
  obtain ⟨O, hO⟩ : ∃ O, Xr.fld s.data.toList i = O := ⟨_, rfl⟩
  rw [hO]
  rw [Xr.fld_is] at hO
  have HO := Lib.hid hO
  have HW2 := Lib.hid hw2
  clear hO hw2
  go_enter Try.func41, Try.ntmps41
  go_upto_region 2 with fail
  rw [HW2.out]
  obtain ⟨r, hr⟩ : ∃ r, w.heap.size = r := ⟨_, rfl⟩
  obtain ⟨V, hV⟩ : ∃ V, w.heap.size + 1 = V := ⟨_, rfl⟩
  rw [hV] at HV2 ⊢
  rw [hr] at HX2 ⊢
  have hgr : g < r := by omega
  have hwr : w.heap.size ≤ r := by omega
  have hrV : r < V := by omega
  have hV2 : V < w2.heap.size := by omega
  have hne : ¬ r = V := by omega
  have hne2 : ¬ V = r := by omega
  clear hr hV hsz0 HW2
  cases hf : Xr.fin s (i + 1) with
  | true =>
    rw [hf] at me HO
    have hO : .ok ((⟨1, [], [], 0⟩ : Wo), i + 1) = O := by rw [← HO.out, if_pos rfl]
    subst hO
    clear hf HO
    go_wp2_with (go_at_call 34; refine me.mono ?_; rintro e w3 ⟨rfl, n3, rfl⟩; have HA3 := Lib.hid (HA2.out.drewN n3); have HX3 : Hid (Bs.Box (w2.drewN n3) r #[.int .i64 0, .string ⟨#[]⟩, .slice none 0 0, .int .i64 0] 37) := HX2; have HV3 : Hid (Bs.Box (w2.drewN n3) V #[.int .i64 1, .string ⟨#[]⟩, .slice none 0 0, .int .i64 0] 37) := HV2; have hV3 := HV3.out.lt; clear me HA2 HX2 HV2 hV2; generalize w2.drewN n3 = w3 at *; obtain ⟨v0, v1, v2, v3, -⟩ := Xr.cells4 HV3.out; obtain ⟨x0, x1, x2, x3, xf⟩ := Xr.cells4 HX3.out)
    obtain ⟨W, hW, hX, hq, hz, ho, ht, hu⟩ := Xr.four HX3.out (.int .i64 1) (.string ⟨#[]⟩) (.slice none 0 0) (.int .i64 0)
    rw [hW]
    obtain ⟨y0, y1, y2, y3, -⟩ := Xr.cells4 hX
    refine bodyPost_ret (v := .agg #[.int .i64 1, .string ⟨#[]⟩, .slice none 0 0, .int .i64 0]) (by simp [results, Try.results41, go_sem, y0, y1, y2, y3]) rfl ?_
    exact Xr.wend (r := r) (V := r) ⟨1, [], [], 0⟩ HA3.out (St.Lies.nil _ _) (fun k h1 _ => hq k h1) hz ho ht hu hgr (Nat.le_refl _) hwr hlo (by omega)
  | false =>
    rw [hf] at me HO
    have pt := fun u (q : Xr.At u u g s (i + 1)) => Xr.path q hdot hs
    clear hf
    cases hp : Wx.path s.data.toList i with
    | none =>
      have hO : .error 1400 = O := by
        rw [← HO.out, if_neg (by decide), hp]
        rfl
      subst hO
      rw [hp] at pt
      clear HO hp
      go_wp2_with (first | (go_at_call 34; refine me.mono ?_; rintro e w3 ⟨rfl, n3, rfl⟩; have HA3 := Lib.hid (HA2.out.drewN n3); clear me HA2 HX2 HV2 hV2; generalize w2.drewN n3 = w3 at *; replace pt := pt _ HA3.out.start) | (go_at_call 50; refine pt.mono ?_; rintro e w4 ⟨rfl, k4⟩; have HK4 := Lib.hid (HA3.out.kept.trans k4); clear k4))
      exact ⟨rfl, rfl, HK4.out⟩
    | some z =>
      obtain ⟨ts, q⟩ := z
      have hO : .ok ((⟨1, [], ts, 0⟩ : Wo), q) = O := by
        rw [← HO.out, if_neg (by decide), hp]
        rfl
      subst hO
      replace pt : ∀ u, Xr.At u u g s (i + 1) → Calls Try.prog 50 #[.pointer (some ⟨g, 0, none⟩)] u fun e w' => ∃ a n d, e = .returned (.slice a n d) ∧ Xr.At u w' g s q ∧ u.heap.size ≤ w'.heap.size ∧ St.Lies w' (fun k => u.heap.size ≤ k ∧ k < w'.heap.size ∧ Rm.Ub w' k) ts (.slice a n d) := fun u z => by
        have := pt u z
        rw [hp] at this
        exact this
      clear HO hp
      go_upto_region 4 with (first | (go_at_call 34; refine me.mono ?_; rintro e w3 ⟨rfl, n3, rfl⟩; have HA3 := Lib.hid (HA2.out.drewN n3); have HX3 : Hid (Bs.Box (w2.drewN n3) r #[.int .i64 0, .string ⟨#[]⟩, .slice none 0 0, .int .i64 0] 37) := HX2; have HV3 : Hid (Bs.Box (w2.drewN n3) V #[.int .i64 1, .string ⟨#[]⟩, .slice none 0 0, .int .i64 0] 37) := HV2; have hV3 := HV3.out.lt; clear me HA2 HX2 HV2 hV2; generalize w2.drewN n3 = w3 at *; replace pt := pt _ HA3.out.start) | (go_at_call 50; refine pt.mono ?_; rintro e w4 ⟨a, n, d, rfl, a4, hs4, l4⟩; have HA4 := Lib.hid (HA3.out.comp a4); have HX4 := Lib.hid (Xr.box_kept HX3.out a4.kept (by omega)); have HV4 := Lib.hid (Xr.box_kept HV3.out a4.kept (by omega)); obtain ⟨v0, v1, v2, v3, vf⟩ := Xr.cells4 HV4.out; have HL4 := Lib.hid l4; clear a4 l4 pt))
      have HV5 : Hid (Bs.Box (w4.setCell ⟨V, 2, none⟩ (.slice a n d)) V #[.int .i64 1, .string ⟨#[]⟩, .slice a n d, .int .i64 0] 37) := HV4.out.set 2 _
      have HX5 : Hid (Bs.Box (w4.setCell ⟨V, 2, none⟩ (.slice a n d)) r #[.int .i64 0, .string ⟨#[]⟩, .slice none 0 0, .int .i64 0] 37) := (Below.heap_setCell _ _ _ _ hne).trans HX4.out
      have HA5 := Lib.hid (HA4.out.setV V 2 (.slice a n d) (by omega) (by omega))
      have HL5 : Hid (St.Lies (w4.setCell ⟨V, 2, none⟩ (.slice a n d)) (fun k => V < k ∧ k < (w4.setCell ⟨V, 2, none⟩ (.slice a n d)).heap.size ∧ Rm.Ub (w4.setCell ⟨V, 2, none⟩ (.slice a n d)) k) ts (.slice a n d)) := HL4.out.on fun k hk => by
        have e : (w4.setCell ⟨V, 2, none⟩ (.slice a n d)).heap[k]? = w4.heap[k]? := Below.heap_setCell _ _ _ _ (by show k ≠ V; omega)
        exact ⟨⟨by omega, by simp; omega, hk.2.2.on e⟩, e⟩
      have hs5 : w.heap.size ≤ (w4.setCell ⟨V, 2, none⟩ (.slice a n d)).heap.size := by simp; omega
      clear v0 v1 v2 v3 vf HA4 HX4 HV4 HL4 HA3 HX3 HV3
      generalize w4.setCell ⟨V, 2, none⟩ (.slice a n d) = w5 at *
      obtain ⟨v0, v1, v2, v3, -⟩ := Xr.cells4 HV5.out
      obtain ⟨x0, x1, x2, x3, xf⟩ := Xr.cells4 HX5.out
      go_wp2_with fail
      obtain ⟨W, hW, hX, hq, hz, ho, ht, hu⟩ := Xr.four HX5.out (.int .i64 1) (.string ⟨#[]⟩) (.slice a n d) (.int .i64 0)
      rw [hW]
      obtain ⟨y0, y1, y2, y3, -⟩ := Xr.cells4 hX
      refine bodyPost_ret (v := .agg #[.int .i64 1, .string ⟨#[]⟩, .slice a n d, .int .i64 0]) (by simp [results, Try.results41, go_sem, y0, y1, y2, y3]) rfl ?_
      exact Xr.wend (r := r) (V := V) ⟨1, [], ts, 0⟩ HA5.out HL5.out (fun k h1 _ => hq k h1) hz ho ht hu hgr (by omega) hwr hlo hs5
end Go.Proofs.Ytnophkbbeipaaaa

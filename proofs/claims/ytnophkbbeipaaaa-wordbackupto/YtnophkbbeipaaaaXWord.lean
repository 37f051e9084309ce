/-
  THE WALKS of the landed reader: variable, field, longWord, word.
-/
import Derived.Test.YtnophkbbeipaaaaXPath
import Derived.Test.YtnophkbbeipaaaaOMem
namespace Go.Proofs.Ytnophkbbeipaaaa
open Go.RowKit
theorem Xr.four {w : World} {r : Nat} {c0 c1 c2 c3 : Value} {T : TypeId} (h : Bs.Box w r #[c0, c1, c2, c3] T) (v0 v1 v2 v3 : Value) :
    ∃ W, (((w.setCell ⟨r, 0, none⟩ v0).setCell ⟨r, 1, none⟩ v1).setCell ⟨r, 2, none⟩ v2).setCell ⟨r, 3, none⟩ v3 = W ∧ Bs.Box W r #[v0, v1, v2, v3] T ∧ (∀ k, k ≠ r → W.heap[k]? = w.heap[k]?) ∧ W.heap.size = w.heap.size ∧ W.os = w.os ∧ W.tape = w.tape ∧ W.output = w.output :=
  ⟨_, rfl, (((h.set 0 v0).set 1 v1).set 2 v2).set 3 v3, fun k hk => by
    rw [Below.heap_setCell _ _ _ _ hk, Below.heap_setCell _ _ _ _ hk, Below.heap_setCell _ _ _ _ hk, Below.heap_setCell _ _ _ _ hk], by simp, rfl, rfl, rfl⟩
theorem Xr.cells4 {w : World} {r : Nat} {c0 c1 c2 c3 : Value} {T : TypeId} (h : Bs.Box w r #[c0, c1, c2, c3] T) : w.cell? ⟨r, 0, none⟩ = some c0 ∧ w.cell? ⟨r, 1, none⟩ = some c1 ∧ w.cell? ⟨r, 2, none⟩ = some c2 ∧ w.cell? ⟨r, 3, none⟩ = some c3 ∧ ∀ q, w.frozen? ⟨r, q, none⟩ = false :=
  ⟨h.cell 0 rfl, h.cell 1 rfl, h.cell 2 rfl, h.cell 3 rfl, fun q => h.frozen q⟩
theorem Xr.box_kept {w w' : World} {g r : Nat} {cs : Array Value} {T : TypeId} (h : Bs.Box w r cs T) (hk : Cu.Kept w w' g) (hg : r ≠ g) : Bs.Box w' r cs T := (hk.block r h.lt hg).trans h
theorem Xr.At.setV {w0 w : World} {g : Nat} {s : ByteArray} {i : Nat} (h : Xr.At w0 w g s i) (b c : Nat) (v : Value) (hb : w0.heap.size ≤ b) (hg : g ≠ b) : Xr.At w0 (w.setCell ⟨b, c, none⟩ v) g s i :=
  ⟨(Below.heap_setCell _ _ _ _ hg).trans h.box, ⟨h.kept.os, h.kept.tape, h.kept.output, by simp; exact h.kept.size, fun k hk hne => (Below.heap_setCell _ _ _ _ (by show k ≠ b; omega)).trans (h.kept.block k hk hne)⟩, h.le⟩
theorem Xr.At.other {w0 w W : World} {g r : Nat} {s : ByteArray} {i : Nat} (h : Xr.At w0 w g s i) (hq : ∀ k, k ≠ r → W.heap[k]? = w.heap[k]?) (hz : W.heap.size = w.heap.size) (ho : W.os = w.os) (ht : W.tape = w.tape) (hu : W.output = w.output) (hg : g ≠ r) (hr : w0.heap.size ≤ r) : Xr.At w0 W g s i :=
  ⟨(hq g hg).trans h.box, ⟨ho.trans h.kept.os, ht.trans h.kept.tape, hu.trans h.kept.output, by rw [hz]; exact h.kept.size, fun k hk hne => (hq k (by omega)).trans (h.kept.block k hk hne)⟩, h.le⟩
/-- what a function that gives a word gives -/
def Xr.WOut (O : Except Int (Wo × Nat)) (w0 w : World) (g : Nat) (s : ByteArray) (e : Ending) (w' : World) : Prop :=
  match O with
  | .error x => e = .panicked (Xr.fault x) ∧ Cu.Kept w0 w' g
  | .ok (x, j) => ∃ a n d, e = .returned (.agg #[.int .i64 (x.kind : Int), .string ⟨x.text.toArray⟩, .slice a n d, .int .i64 x.num]) ∧ Xr.At w0 w' g s j ∧ w.heap.size ≤ w'.heap.size ∧ St.Lies w' (fun k => w.heap.size ≤ k ∧ k < w'.heap.size ∧ Rm.Ub w' k) x.path (.slice a n d)
/-- a word is given: it was laid in the result's block r (and V) -/
theorem Xr.wend {w0 w u W : World} {g r V j n d : Nat} {s : ByteArray} {a : Option Addr} (x : Wo) (hA : Xr.At w0 u g s j) (hL : St.Lies u (fun k => V < k ∧ k < u.heap.size ∧ Rm.Ub u k) x.path (.slice a n d)) (hq : ∀ k, k ≠ r → k ≠ V → W.heap[k]? = u.heap[k]?) (hz : W.heap.size = u.heap.size) (ho : W.os = u.os) (ht : W.tape = u.tape) (hu : W.output = u.output) (hgr : g < r) (hrV : r ≤ V) (hr : w.heap.size ≤ r) (h0 : w0.heap.size ≤ w.heap.size) (hwu : w.heap.size ≤ u.heap.size) :
    Xr.WOut (.ok (x, j)) w0 w g s (.returned (.agg #[.int .i64 (x.kind : Int), .string ⟨x.text.toArray⟩, .slice a n d, .int .i64 x.num])) W :=
  ⟨a, n, d, rfl, ⟨(hq g (by omega) (by omega)).trans hA.box, ⟨ho.trans hA.kept.os, ht.trans hA.kept.tape, hu.trans hA.kept.output, by rw [hz]; exact hA.kept.size, fun k hk hne => (hq k (by omega) (by omega)).trans (hA.kept.block k hk hne)⟩, hA.le⟩, by omega, hL.on fun k hk => by
    have e := hq k (by omega) (by omega)
    exact ⟨⟨by omega, by omega, hk.2.2.on e⟩, e⟩⟩
/-- what the document's word behind a '$' is -/
def Xr.var (S : List UInt8) (p : Nat) : Except Int (Wo × Nat) :=
  match Wx.name S p with
  | none => .error 1400
  | some (t, j) => (Wx.or (Wx.path S j) 1400).map fun r => (⟨2, t, r.1, 0⟩, r.2)
theorem Xr.path_none {S : List UInt8} {j : Nat} (h : S[j]? ≠ some 46) : Wx.path S j = some ([], j) := by
  rw [Xr.path_is, Wx.names_end h]
  rfl
set_option maxRecDepth 100000 in
set_option maxHeartbeats 4000000 in
theorem Xr.variable {w0 w : World} {g : Nat} {s : ByteArray} {p : Nat} (h : Xr.At w0 w g s p) (hs : s.size ≤ 1099511627776) :
    Calls Try.prog 40 #[.pointer (some ⟨g, 0, none⟩)] w (Xr.WOut (Xr.var s.data.toList p) w0 w g s) := by
  have hgw := h.lt
  have hlo := h.kept.size
  obtain ⟨W0, hW0⟩ : ∃ W0, w.alloc (.cells #[.int .i64 0, .string ⟨#[]⟩, .slice none 0 0, .int .i64 0] 37) = W0 := ⟨_, rfl⟩
  have hsz0 : W0.heap.size = w.heap.size + 1 := by rw [← hW0]; simp
  have HX0 : Hid (Bs.Box W0 w.heap.size #[.int .i64 0, .string ⟨#[]⟩, .slice none 0 0, .int .i64 0] 37) := by rw [← hW0]; exact Bs.Box.new _ _ _ _ rfl
  have HA0 : Hid (Xr.At w0 W0 g s p) := by rw [← hW0]; exact h.then ((Below.refl _ _).alloc (Nat.le_refl _) _)
  have nm := Xr.name HA0.out.start hs
  clear h
  obtain ⟨O, hO⟩ : ∃ O, Xr.var s.data.toList p = O := ⟨_, rfl⟩
  rw [hO]
  unfold Xr.var at hO
  cases hn : Wx.name s.data.toList p with
  | none =>
    rw [hn] at hO nm
    have hO : .error 1400 = O := hO
    subst hO
    clear hn
    go_enter Try.func40, Try.ntmps40
    go_wp2_with fail
    refine nm.mono ?_
    rintro e w1 ⟨rfl, k1⟩
    exact ⟨rfl, rfl, HA0.out.kept.trans k1⟩
  | some q =>
    obtain ⟨t, j⟩ := q
    rw [hn] at hO nm
    replace nm : Calls Try.prog 42 #[.pointer (some ⟨g, 0, none⟩)] W0 fun e w' => e = .returned (.string ⟨t.toArray⟩) ∧ Xr.At W0 w' g s j := nm
    have HO : Hid ((Wx.or (Wx.path s.data.toList j) 1400).map (fun r => ((⟨2, t, r.1, 0⟩ : Wo), r.2)) = O) := hO
    clear hn hO
    go_enter Try.func40, Try.ntmps40
    go_upto_region 2 with (go_at_call 42; refine nm.mono ?_; rintro e w1 ⟨rfl, a1⟩; have HA1 := Lib.hid (HA0.out.comp a1); have HX1 : Hid (Bs.Box w1 w.heap.size #[.int .i64 0, .string ⟨#[]⟩, .slice none 0 0, .int .i64 0] 37) := (a1.kept.block _ (by omega) (by omega)).trans HX0.out; have hs1 := a1.kept.size; clear a1 nm)
    have HA2 := Lib.hid (HA1.out.then ((Below.refl w1.heap.size w1).alloc (Nat.le_refl _) (.cells #[.int .i64 2, .string ⟨t.toArray⟩, .slice none 0 0, .int .i64 0] 37)))
    have HX2 := Lib.hid (HX1.out.alloc (.cells #[.int .i64 2, .string ⟨t.toArray⟩, .slice none 0 0, .int .i64 0] 37))
    have HV2 : Hid (Bs.Box (w1.alloc (.cells #[.int .i64 2, .string ⟨t.toArray⟩, .slice none 0 0, .int .i64 0] 37)) w1.heap.size #[.int .i64 2, .string ⟨t.toArray⟩, .slice none 0 0, .int .i64 0] 37) := Bs.Box.new _ _ _ _ rfl
    clear HA1 HX1 HX0 HA0
    generalize w1.alloc (.cells #[.int .i64 2, .string ⟨t.toArray⟩, .slice none 0 0, .int .i64 0] 37) = w2 at *
    have hrV : w.heap.size < w1.heap.size := by omega
    have hV2 := HV2.out.lt
    generalize w1.heap.size = V at *
    obtain ⟨r, hr⟩ : ∃ r, w.heap.size = r := ⟨_, rfl⟩
    rw [hr] at HX2 hrV ⊢
    have hgr : g < r := by omega
    have hwr : w.heap.size ≤ r := by omega
    have hne : ¬ r = V := by omega
    have hne2 : ¬ V = r := by omega
    clear hr hsz0 hW0
    have sk := fun b hb => Xr.skip ⟨#[46]⟩ b HA2.out.start hs hb
    cases hd : decide (s.data.toList[j]? = some 46) with
    | false =>
      have s1 := sk false ((Xr.pre_one (s := s) (i := j) 46).trans hd)
      rw [if_neg (by decide)] at s1
      have hO : .ok ((⟨2, t, [], 0⟩ : Wo), j) = O := by
        rw [← HO.out, Xr.path_none (of_decide_eq_false hd)]
        rfl
      subst hO
      clear hd HO sk
      go_wp2_with (go_at_call 32; refine s1.mono ?_; rintro e w3 ⟨rfl, a3⟩; have HA3 := Lib.hid (HA2.out.comp a3); have hs3 := a3.kept.size; have HX3 := Lib.hid (Xr.box_kept HX2.out a3.kept (by omega)); obtain ⟨v0, v1, v2, v3, -⟩ := Xr.cells4 (Xr.box_kept HV2.out a3.kept (by omega)); obtain ⟨x0, x1, x2, x3, xf⟩ := Xr.cells4 HX3.out; clear a3 s1)
      obtain ⟨W, hW, hX, hq, hz, ho, ht, hu⟩ := Xr.four HX3.out (.int .i64 2) (.string ⟨t.toArray⟩) (.slice none 0 0) (.int .i64 0)
      rw [hW]
      obtain ⟨y0, y1, y2, y3, -⟩ := Xr.cells4 hX
      refine bodyPost_ret (v := .agg #[.int .i64 2, .string ⟨t.toArray⟩, .slice none 0 0, .int .i64 0]) (by simp [results, Try.results40, go_sem, y0, y1, y2, y3]) rfl ?_
      exact Xr.wend (r := r) (V := r) ⟨2, t, [], 0⟩ HA3.out (St.Lies.nil _ _) (fun k h1 _ => hq k h1) hz ho ht hu hgr (Nat.le_refl _) hwr hlo (by omega)
    | true =>
      have s1 := sk true ((Xr.pre_one (s := s) (i := j) 46).trans hd)
      rw [if_pos rfl, show (⟨#[46]⟩ : ByteArray).size = 1 from rfl] at s1
      have hd : s.data.toList[j]? = some 46 := of_decide_eq_true hd
      have pt := fun u (q : Xr.At u u g s (j + 1)) => Xr.path q hd hs
      cases hp : Wx.path s.data.toList j with
      | none =>
        have hO : .error 1400 = O := by
          rw [← HO.out, hp]
          rfl
        subst hO
        rw [hp] at pt
        clear hd HO sk hp
        go_wp2_with (first | (go_at_call 32; refine s1.mono ?_; rintro e w3 ⟨rfl, a3⟩; have HA3 := Lib.hid (HA2.out.comp a3); replace pt := pt _ a3.start; clear a3 s1) | (go_at_call 50; refine pt.mono ?_; rintro e w4 ⟨rfl, k4⟩; have HK4 := Lib.hid (HA3.out.kept.trans k4); clear k4))
        exact ⟨rfl, rfl, HK4.out⟩
      | some z =>
        obtain ⟨ts, q⟩ := z
        have hO : .ok ((⟨2, t, ts, 0⟩ : Wo), q) = O := by
          rw [← HO.out, hp]
          rfl
        subst hO
        replace pt : ∀ u, Xr.At u u g s (j + 1) → Calls Try.prog 50 #[.pointer (some ⟨g, 0, none⟩)] u fun e w' => ∃ a n d, e = .returned (.slice a n d) ∧ Xr.At u w' g s q ∧ u.heap.size ≤ w'.heap.size ∧ St.Lies w' (fun k => u.heap.size ≤ k ∧ k < w'.heap.size ∧ Rm.Ub w' k) ts (.slice a n d) := fun u z => by
          have := pt u z
          rw [hp] at this
          exact this
        clear hd HO sk hp
        go_upto_region 4 with (first | (go_at_call 32; refine s1.mono ?_; rintro e w3 ⟨rfl, a3⟩; have HA3 := Lib.hid (HA2.out.comp a3); have hs3 := a3.kept.size; have HX3 := Lib.hid (Xr.box_kept HX2.out a3.kept (by omega)); have HV3 := Lib.hid (Xr.box_kept HV2.out a3.kept (by omega)); replace pt := pt _ a3.start; clear a3 s1) | (go_at_call 50; refine pt.mono ?_; rintro e w4 ⟨a, n, d, rfl, a4, hs4, l4⟩; have HA4 := Lib.hid (HA3.out.comp a4); have HX4 := Lib.hid (Xr.box_kept HX3.out a4.kept (by omega)); have HV4 := Lib.hid (Xr.box_kept HV3.out a4.kept (by omega)); obtain ⟨v0, v1, v2, v3, vf⟩ := Xr.cells4 HV4.out; have HL4 := Lib.hid l4; clear a4 l4 pt))
        have HV5 : Hid (Bs.Box (w4.setCell ⟨V, 2, none⟩ (.slice a n d)) V #[.int .i64 2, .string ⟨t.toArray⟩, .slice a n d, .int .i64 0] 37) := HV4.out.set 2 _
        have HX5 : Hid (Bs.Box (w4.setCell ⟨V, 2, none⟩ (.slice a n d)) r #[.int .i64 0, .string ⟨#[]⟩, .slice none 0 0, .int .i64 0] 37) := (Below.heap_setCell _ _ _ _ hne).trans HX4.out
        have HA5 := Lib.hid (HA4.out.setV V 2 (.slice a n d) (by omega) (by omega))
        have HL5 : Hid (St.Lies (w4.setCell ⟨V, 2, none⟩ (.slice a n d)) (fun k => V < k ∧ k < (w4.setCell ⟨V, 2, none⟩ (.slice a n d)).heap.size ∧ Rm.Ub (w4.setCell ⟨V, 2, none⟩ (.slice a n d)) k) ts (.slice a n d)) := HL4.out.on fun k hk => by
          have e : (w4.setCell ⟨V, 2, none⟩ (.slice a n d)).heap[k]? = w4.heap[k]? := Below.heap_setCell _ _ _ _ (by show k ≠ V; omega)
          exact ⟨⟨by omega, by simp; omega, hk.2.2.on e⟩, e⟩
        have hs5 : w.heap.size ≤ (w4.setCell ⟨V, 2, none⟩ (.slice a n d)).heap.size := by simp; omega
        clear v0 v1 v2 v3 vf HA4 HX4 HV4 HL4 HA3 HX3 HV3 HA2 HX2 HV2
        generalize w4.setCell ⟨V, 2, none⟩ (.slice a n d) = w5 at *
        obtain ⟨v0, v1, v2, v3, -⟩ := Xr.cells4 HV5.out
        obtain ⟨x0, x1, x2, x3, xf⟩ := Xr.cells4 HX5.out
        go_wp2_with fail
        obtain ⟨W, hW, hX, hq, hz, ho, ht, hu⟩ := Xr.four HX5.out (.int .i64 2) (.string ⟨t.toArray⟩) (.slice a n d) (.int .i64 0)
        rw [hW]
        obtain ⟨y0, y1, y2, y3, -⟩ := Xr.cells4 hX
        refine bodyPost_ret (v := .agg #[.int .i64 2, .string ⟨t.toArray⟩, .slice a n d, .int .i64 0]) (by simp [results, Try.results40, go_sem, y0, y1, y2, y3]) rfl ?_
        exact Xr.wend (r := r) (V := V) ⟨2, t, ts, 0⟩ HA5.out HL5.out (fun k h1 _ => hq k h1) hz ho ht hu hgr (by omega) hwr hlo hs5
end Go.Proofs.Ytnophkbbeipaaaa

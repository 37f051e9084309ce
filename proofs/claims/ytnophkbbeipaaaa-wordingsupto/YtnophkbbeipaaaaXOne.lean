/-
  THE WALK of the landed reader: word.
-/
import Derived.Test.YtnophkbbeipaaaaXLong
namespace Go.Proofs.Ytnophkbbeipaaaa
open Go.RowKit
/-- what the document's word with what stands behind it is -/
def Xr.one (S : List UInt8) (i : Nat) : Except Int (Wo × Nat) :=
  match Wx.word S i with
  | .error e => .error e
  | .ok (w, j) => if Wx.ends S w.kind j = true then .ok (w, j) else .error 1400
theorem Xr.or_kind {α : Type} {o : Option (α × Nat)} {e : Int} {f : α × Nat → Wo × Nat} {k : Nat} {p : Wo × Nat} (h : (Wx.or o e).map f = .ok p) (hk : ∀ a, (f a).1.kind ≠ k) : p.1.kind ≠ k := by
  obtain ⟨a, _, rfl⟩ := Wx.or_ok h
  exact hk a
theorem Xr.kind {s : ByteArray} {i : Nat} (hi : i < s.size) (h124 : s[i] ≠ 124) {p : Wo × Nat} (h : Wx.word s.data.toList i = .ok p) : p.1.kind ≠ 5 := by
  by_cases h45 : s[i] = 45 ∨ Pl.digit s[i] = true
  · rw [Xr.word_num hi h45] at h
    exact Xr.or_kind h (fun _ => (by decide : (3 : Nat) ≠ 5))
  · by_cases h34 : s[i] = 34
    · rw [Xr.word_text hi h34] at h
      exact Xr.or_kind h (fun _ => (by decide : (4 : Nat) ≠ 5))
    · by_cases h2 : s[i] = 58 ∧ s.data.toList[i + 1]? = some 61
      · rw [Xr.word_set hi h2.1 h2.2] at h
        injection h with h
        rw [← h]
        exact (by decide : (6 : Nat) ≠ 5)
      · by_cases h36 : s[i] = 36
        · rw [Xr.word_var hi h36] at h
          unfold Xr.var at h
          split at h
          · cases h
          · exact Xr.or_kind h (fun _ => (by decide : (2 : Nat) ≠ 5))
        · by_cases h46 : s[i] = 46
          · rw [Xr.word_fld hi h46] at h
            unfold Xr.fld at h
            split at h
            · exact Xr.or_kind h (fun _ => (by decide : (1 : Nat) ≠ 5))
            · injection h with h
              rw [← h]
              exact (by decide : (1 : Nat) ≠ 5)
          · rw [Xr.word_name hi h124 h2 h34 h45 h46 h36] at h
            exact Xr.or_kind h (fun _ => (by decide : (0 : Nat) ≠ 5))
theorem Xr.ends_fin {s : ByteArray} {k j : Nat} (hk : k ≠ 5) : Wx.ends s.data.toList k j = Xr.fin s j := by
  unfold Wx.ends Xr.fin
  rw [decide_eq_false hk, Wk.len_data, Bool.false_or]
set_option maxRecDepth 100000 in
set_option maxHeartbeats 4000000 in
theorem Xr.word {w0 w : World} {g : Nat} {s : ByteArray} {i : Nat} (h : Xr.At w0 w g s i) (hi : i < s.size) (hs : s.size ≤ 1099511627776) :
    Calls Try.prog 24 #[.pointer (some ⟨g, 0, none⟩)] w (Xr.WOut (Xr.one s.data.toList i) w0 w g s) := by
  have hgw := h.lt
  have hlo := h.kept.size
  obtain ⟨w00, hw00⟩ : ∃ W0, w.alloc (.cells #[.int .i64 0, .string ⟨#[]⟩, .slice none 0 0, .int .i64 0] 37) = W0 := ⟨_, rfl⟩
  have HR0 : Hid (Xr.Rs w0 w w00 g s i w.heap.size) := by rw [← hw00]; exact ⟨h.then ((Below.refl _ _).alloc (Nat.le_refl _) _), Bs.Box.new _ _ _ _ rfl, hgw, Nat.le_refl _, hlo⟩
  have hget := Wx.get hi
  obtain ⟨O, hO⟩ : ∃ O, Xr.one s.data.toList i = O := ⟨_, rfl⟩
  rw [hO]
  unfold Xr.one at hO
  have HW := Lib.hid hw00
  clear h hw00
  by_cases hc : s[i] = 124
  · have sk := Xr.skR ⟨#[124]⟩ true HR0.out hs (by rw [show (⟨#[124]⟩ : ByteArray).data.toList = [124] from rfl, Xr.pre_one, hget, hc]; rfl)
    rw [if_pos rfl, show (⟨#[124]⟩ : ByteArray).size = 1 from rfl] at sk
    have hO2 : .ok ((⟨5, [], [], 0⟩ : Wo), i + 1) = O := by
      rw [← hO]
      have e : Wx.word s.data.toList i = .ok (⟨5, [], [], 0⟩, i + 1) := by
        unfold Wx.word
        simp only [Xr.getD hi, hc]
        rw [if_pos (by decide)]
      rw [e]
      simp only
      rw [if_pos (by unfold Wx.ends; rfl)]
    subst hO2
    clear hO hc hget
    have hw00 := HW.out
    go_enter Try.func24, Try.ntmps24
    go_wp2_with (go_at_call 32; refine sk.mono ?_; rintro e w3 ⟨rfl, a3⟩; have HR := Lib.hid a3; obtain ⟨x0, x1, x2, x3, xf⟩ := Xr.cells4 HR.out.box; clear a3 sk)
    obtain ⟨W, hW, hX, hq, hz, ho, ht, hu⟩ := Xr.four HR.out.box (.int .i64 5) (.string ⟨#[]⟩) (.slice none 0 0) (.int .i64 0)
    rw [hW]
    obtain ⟨y0, y1, y2, y3, -⟩ := Xr.cells4 hX
    refine bodyPost_ret (v := .agg #[.int .i64 5, .string ⟨#[]⟩, .slice none 0 0, .int .i64 0]) (by simp [results, Try.results24, go_sem, y0, y1, y2, y3]) rfl ?_
    exact Xr.wend (r := w.heap.size) (V := w.heap.size) ⟨5, [], [], 0⟩ HR.out.at_ (St.Lies.nil _ _) (fun k h1 _ => hq k h1) hz ho ht hu HR.out.gr (Nat.le_refl _) HR.out.wr HR.out.lo HR.out.us
  · have sk := Xr.skR ⟨#[124]⟩ false HR0.out hs (by rw [show (⟨#[124]⟩ : ByteArray).data.toList = [124] from rfl, Xr.pre_one, hget]; exact decide_eq_false fun q => hc (Option.some.inj q))
    rw [if_neg (by decide)] at sk
    have lw := fun u (q : Xr.At u u g s i) => Xr.longWord q hi hs hc
    have hkd := fun p => Xr.kind (p := p) hi hc
    clear hget hc
    cases hx : Wx.word s.data.toList i with
    | error x =>
      rw [hx] at lw hO
      have hO : .error x = O := hO
      subst hO
      clear hx hkd
      have hw00 := HW.out
      go_enter Try.func24, Try.ntmps24
      go_wp2_with (first | (go_at_call 32; refine sk.mono ?_; rintro e w3 ⟨rfl, a3⟩; have HR := Lib.hid a3; replace lw := lw _ a3.at_.start; clear a3 sk) | (go_at_call 33; refine lw.mono ?_; rintro e w4 ⟨rfl, k4⟩; have HK := Lib.hid (HR.out.at_.kept.trans k4); clear k4))
      exact ⟨rfl, rfl, HK.out⟩
    | ok p =>
      have hk5 := hkd p hx
      obtain ⟨⟨k, t, ts, m⟩, j⟩ := p
      have HO : Hid ((if Xr.fin s j = true then .ok ((⟨k, t, ts, m⟩ : Wo), j) else .error 1400) = O) := by
        rw [hx] at hO
        simp only at hO
        rw [Xr.ends_fin hk5] at hO
        exact hO
      replace lw : ∀ u, Xr.At u u g s i → Calls Try.prog 33 #[.pointer (some ⟨g, 0, none⟩)] u fun e w' => ∃ a n d, e = .returned (.agg #[.int .i64 (k : Int), .string ⟨t.toArray⟩, .slice a n d, .int .i64 m]) ∧ Xr.At u w' g s j ∧ u.heap.size ≤ w'.heap.size ∧ St.Lies w' (fun b => u.heap.size ≤ b ∧ b < w'.heap.size ∧ Rm.Ub w' b) ts (.slice a n d) := fun u z => by
        have := lw u z
        rw [hx] at this
        exact this
      clear hx hkd hO hk5
      have hw00 := HW.out
      go_enter Try.func24, Try.ntmps24
      go_upto_region 4 with (first | (go_at_call 32; refine sk.mono ?_; rintro e w3 ⟨rfl, a3⟩; have HR := Lib.hid a3; replace lw := lw _ a3.at_.start; have hr3 := a3.box.lt; clear a3 sk) | (go_at_call 33; refine lw.mono ?_; rintro e w4 ⟨a, n, d, rfl, a4, hs4, l4⟩; replace HR := Lib.hid (HR.out.then a4); have HL := Lib.hid l4; clear a4 l4 lw))
      have hr4 := HR.out.box.lt
      have HV5 : Hid (Bs.Box (w4.alloc (.cells #[.int .i64 (k : Int), .string ⟨t.toArray⟩, .slice a n d, .int .i64 m] 37)) w4.heap.size #[.int .i64 (k : Int), .string ⟨t.toArray⟩, .slice a n d, .int .i64 m] 37) := Bs.Box.new _ _ _ _ rfl
      have HR5 : Hid (Xr.Rs w0 w (w4.alloc (.cells #[.int .i64 (k : Int), .string ⟨t.toArray⟩, .slice a n d, .int .i64 m] 37)) g s j w.heap.size) := ⟨HR.out.at_.then ((Below.refl _ _).alloc (Nat.le_refl _) _), HR.out.box.alloc _, HR.out.gr, HR.out.wr, HR.out.lo⟩
      have HL5 : Hid (St.Lies (w4.alloc (.cells #[.int .i64 (k : Int), .string ⟨t.toArray⟩, .slice a n d, .int .i64 m] 37)) (fun b => w.heap.size < b ∧ b < w4.heap.size ∧ Rm.Ub (w4.alloc (.cells #[.int .i64 (k : Int), .string ⟨t.toArray⟩, .slice a n d, .int .i64 m] 37)) b) ts (.slice a n d)) := HL.out.on fun b hb => by
        have e := Below.heap_alloc w4 (.cells #[.int .i64 (k : Int), .string ⟨t.toArray⟩, .slice a n d, .int .i64 m] 37) b hb.2.1
        exact ⟨⟨by omega, hb.2.1, hb.2.2.on e⟩, e⟩
      clear HR HL
      generalize w4.alloc (.cells #[.int .i64 (k : Int), .string ⟨t.toArray⟩, .slice a n d, .int .i64 m] 37) = w5 at *
      have hV5 := HV5.out.lt
      generalize w4.heap.size = V at *
      have me := Xr.mayEnd HR5.out.at_
      cases hf : Xr.fin s j with
      | true =>
        rw [hf] at me HO
        have hO : .ok ((⟨k, t, ts, m⟩ : Wo), j) = O := by rw [← HO.out, if_pos rfl]
        subst hO
        clear hf HO
        go_wp2_with (go_at_call 34; refine me.mono ?_; rintro e w6 ⟨rfl, n6, rfl⟩; have HR := Lib.hid (HR5.out.drewN n6); have HV : Hid (Bs.Box (w5.drewN n6) V #[.int .i64 (k : Int), .string ⟨t.toArray⟩, .slice a n d, .int .i64 m] 37) := HV5; have HL : Hid (St.Lies (w5.drewN n6) (fun b => w.heap.size < b ∧ b < V ∧ Rm.Ub (w5.drewN n6) b) ts (.slice a n d)) := HL5; have hV6 := HV.out.lt; clear me HR5 HV5 HL5 hV5; generalize w5.drewN n6 = w6 at *; obtain ⟨v0, v1, v2, v3, -⟩ := Xr.cells4 HV.out; obtain ⟨x0, x1, x2, x3, xf⟩ := Xr.cells4 HR.out.box)
        obtain ⟨W, hW, hX, hq, hz, ho, ht, hu⟩ := Xr.four HR.out.box (.int .i64 (k : Int)) (.string ⟨t.toArray⟩) (.slice a n d) (.int .i64 m)
        rw [hW]
        obtain ⟨y0, y1, y2, y3, -⟩ := Xr.cells4 hX
        refine bodyPost_ret (v := .agg #[.int .i64 (k : Int), .string ⟨t.toArray⟩, .slice a n d, .int .i64 m]) (by simp [results, Try.results24, go_sem, y0, y1, y2, y3]) rfl ?_
        exact Xr.wend (r := w.heap.size) (V := w.heap.size) ⟨k, t, ts, m⟩ HR.out.at_ (HL.out.on fun b hb => ⟨⟨hb.1, Nat.lt_trans hb.2.1 hV6, hb.2.2⟩, rfl⟩) (fun k h1 _ => hq k h1) hz ho ht hu HR.out.gr (Nat.le_refl _) HR.out.wr HR.out.lo HR.out.us
      | false =>
        rw [hf] at me HO
        have hO : .error 1400 = O := by rw [← HO.out, if_neg (by decide)]
        subst hO
        clear hf HO
        go_wp2_with (go_at_call 34; refine me.mono ?_; rintro e w6 ⟨rfl, n6, rfl⟩; have HK := Lib.hid (HR5.out.drewN n6).at_.kept; clear me HR5 HV5 HL5 hV5; generalize w5.drewN n6 = w6 at *)
        exact ⟨rfl, rfl, HK.out⟩
end Go.Proofs.Ytnophkbbeipaaaa

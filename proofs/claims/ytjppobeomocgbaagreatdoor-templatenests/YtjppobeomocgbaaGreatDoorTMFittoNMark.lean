/-
  An action's words are none too long; the walk of the reference's item, whatever its name.
-/
import Derived.Test.YtjppobeomocgbaaGreatDoorTMItem
import Derived.Test.YtjppobeomocgbaaGreatDoorTOGoodtoMPipe
import Derived.Test.YtjppobeomocgbaaGreatDoorTNBegintoNEnd
import Derived.Test.YtjppobeomocgbaaGreatDoorTKOwntoIProg
import Derived.Deep.RegionWith
namespace Go.Proofs.YtjppobeomocgbaaGreatDoor
open Go.RowKit
theorem Tm.wr_le {ws : List Wo} {x : Wo} (h : x ∈ ws) : (Wx.wr x).length ≤ Wx.bulk ws := by
  induction ws with
  | nil => cases h
  | cons y ws ih =>
    unfold Wx.bulk
    simp only [List.map_cons, List.sum_cons]
    rcases List.mem_cons.1 h with rfl | h
    · omega
    · have := ih h
      unfold Wx.bulk at this
      omega
theorem Tm.text_le {x : Wo} (h : Wx.good x) : x.text.length ≤ (Wx.wr x).length + 32 := by
  have hn : ∀ t, Wx.nm t → t.length ≤ 32 := fun t q => q.2.2
  have h0 : x.text = [] → x.text.length ≤ (Wx.wr x).length + 32 := fun e => by rw [e]; simp
  rcases h with h | h | h | h | h | h | h
  · have := hn _ h.2.1; omega
  · exact h0 h.2.1
  · have := hn _ h.2.1; omega
  · exact h0 h.2.1
  · have : x.text.length ≤ (x.text.flatMap Wx.esc).length := by
      generalize x.text = l
      induction l with
      | nil => simp
      | cons c l ih =>
        rw [List.flatMap_cons, List.length_append, List.length_cons]
        have : 1 ≤ (Wx.esc c).length := by unfold Wx.esc; repeat' split
                                           all_goals simp
        omega
    unfold Wx.wr
    rw [if_neg (by rw [h.1]; decide), if_neg (by rw [h.1]; decide), if_neg (by rw [h.1]; decide), if_pos h.1]
    simp only [List.length_cons, List.length_append]
    omega
  · exact h0 h.2.1
  · exact h0 h.2.1
theorem Tm.fit (s : ByteArray) (hs : s.size ≤ 65536) : Tm.Fit (Wx.words s).1 := by
  obtain ⟨h1, h2, h3⟩ := Wx.words_is s
  refine ⟨by omega, fun x hx => ?_⟩
  have a := Tm.text_le (h1 x hx)
  have b := Tm.wr_le hx
  have c := Wx.good_path (h1 x hx)
  exact ⟨by omega, fun t ht => by have := c.2 t ht; omega⟩
theorem Tr.item (t : ByteArray) (ws : List Wo) (v : Value) (R : Nat → Prop) (ps : List Pc) (n deep : Nat) (loop : Bool) (i g : Nat) (pv : Value) (w : World) (HRW : Tr.Rows ps g pv n) (hA : Tr.At w g pv i 0) (hP : Pc.Lies w (fun k => k < w.heap.size ∧ k ≠ g) ps pv) (h : Wo.Lies w R ws v) (hz : Tm.Fit ws) (hd : deep ≤ 16) (hi : i ≤ ps.length) (hn : ps.length < i + n) (hne : ws ≠ []) :
    Calls Tryz.prog 37 #[.pointer (some ⟨g, 0, none⟩), .string t, v, .int .i64 (deep : Int), .bool loop] w fun e w' => Tr.IOut (Tm.item (fun d l j => Tm.rows ps n d l j []) t.data.toList ws deep loop i) ps.length i w g pv e w' := by
  by_cases h1 : t.data.toList = Tm.sBreak
  · exact Tr.item_break t ws v R ps n deep loop i g pv w HRW hA hP h hz hd hi hn h1
  · by_cases h2 : t.data.toList = Tm.sCont
    · exact Tr.item_cont t ws v R ps n deep loop i g pv w HRW hA hP h hz hd hi hn h2
    · by_cases h3 : t.data.toList = Tm.sTmpl
      · exact Tr.item_tmpl t ws v R ps n deep loop i g pv w HRW hA hP h hz hd hi hn h3 hne
      · by_cases h4 : t.data.toList = Tm.sIf
        · exact Tr.item_if t ws v R ps n deep loop i g pv w HRW hA hP h hz hd hi hn h4 hne
        · by_cases h5 : t.data.toList = Tm.sWith
          · exact Tr.item_with t ws v R ps n deep loop i g pv w HRW hA hP h hz hd hi hn h5 hne
          · by_cases h6 : t.data.toList = Tm.sRange
            · exact Tr.item_range t ws v R ps n deep loop i g pv w HRW hA hP h hz hd hi hn h6 hne
            · exact Tr.item_rest t ws v R ps n deep loop i g pv w HRW hA hP h hz hd hi hn h1 h2 h3 h4 h5 h6 hne
end Go.Proofs.YtjppobeomocgbaaGreatDoor
/-
  THE WALKS of readAsked, readBegin; words in memory.
-/
namespace Go.Proofs.YtjppobeomocgbaaGreatDoor
open Go.RowKit
theorem Ml.Is.heap {base g : Nat} {w W : World} {s : Mz.St} (h : Ml.Is base w g s) (e : W.heap = w.heap) : Ml.Is base W g s := by
  obtain ⟨own, iv, ov, xs, h⟩ := h
  exact ⟨own, iv, ov, xs, h.on (by rw [e]; exact Nat.le_refl _) fun b _ _ _ => ⟨rfl, by rw [e]⟩⟩
theorem Ml.Has.heap {base g : Nat} {w W : World} {s : Mz.St} {ds : List Dt} {vs : List Value} (h : Ml.Has base w g s ds vs) (e : W.heap = w.heap) : Ml.Has base W g s ds vs := by
  obtain ⟨own, iv, ov, xs, h, hf⟩ := h
  exact ⟨own, iv, ov, xs, h.on (by rw [e]; exact Nat.le_refl _) fun b _ _ _ => ⟨rfl, by rw [e]⟩, Dt.fits_on ds vs (fun b hq => ⟨hq.on (by rw [e]; exact Nat.le_refl _) hq.2.2.1 (by rw [e]), by rw [e]⟩) hf⟩
theorem Wi.Fits.drop {ws : List Wi} (h : Wi.Fits ws) (n : Nat) : Wi.Fits (ws.drop n) := ⟨by have := h.1; rw [List.length_drop]; omega, fun x hx => h.2 x (List.mem_of_mem_drop hx)⟩
theorem Mz.fits (s : ByteArray) (hs : s.size ≤ 256) : Wi.Fits ((Wx.words s).1.map Wo.wi) := by
  obtain ⟨h1, h2, h3⟩ := Wx.words_is s
  refine ⟨by rw [List.length_map]; omega, fun y hy => ?_⟩
  obtain ⟨x, hx, rfl⟩ := List.mem_map.1 hy
  have a := Tm.text_le (h1 x hx)
  have b := Tm.wr_le hx
  have c := Wx.good_path (h1 x hx)
  exact ⟨by show x.text.length ≤ _; omega, by have := c.1; show x.path.length ≤ _; omega, fun t ht => by have := c.2 t ht; omega⟩
set_option maxRecDepth 100000 in
set_option maxHeartbeats 8000000 in
theorem Ml.asked {base g : Nat} {w : World} {s : Mz.St} {k : Int} {t : ByteArray} {ws : List Wo} {v : Value} {R : Nat → Prop} (h : Ml.Is base w g s) (hlo : base ≤ w.heap.size) (hf : s.Few 1048576) (hl : Wo.Lies w R ws v) (hz : Wi.Fits (ws.map Wo.wi)) :
    Calls Tryz.prog 59 #[.pointer (some ⟨g, 0, none⟩), .agg #[.int .i64 k, .string t, .slice none 0 0, .slice none 0 0, .slice none 0 0], v] w (Ml.Out base w g (s.asked k t.data.toList ws)) := by
  obtain ⟨w1, hw1⟩ : ∃ w1, w.alloc (.cells #[.int .i64 k, .string t, .slice none 0 0, .slice none 0 0, .slice none 0 0] 37) = w1 := ⟨_, rfl⟩
  have hB1 : Below w.heap.size w w1 := by rw [← hw1]; exact (Below.refl w.heap.size w).alloc (Nat.le_refl _) _
  have hX : Bs.Box w1 w.heap.size #[.int .i64 k, .string t, .slice none 0 0, .slice none 0 0, .slice none 0 0] 37 := by rw [← hw1]; exact Bs.Box.new w _ _ _ rfl
  have pc := Ip.parse (ws.map Wo.wi) v _ w1 ⟨trivial⟩ (hl.data.later hB1) hz
  have hcur := hf.cur
  have hxb := hX.lt
  unfold Mz.St.asked
  dsimp only
  generalize Pi.parse (ws.map Wo.wi) = r at *
  obtain ⟨cs, E⟩ := r
  dsimp only at pc ⊢
  have HB1 := Lib.hid hB1
  have HX := Lib.hid hX
  have HI := Lib.hid h
  obtain ⟨ub, hub⟩ : ∃ ub, w.heap.size = ub := ⟨_, rfl⟩
  rw [hub] at hxb
  rw [hub] at HX
  clear hB1 hX h hl hz hf
  by_cases hE : E = 0
  · subst hE
    rw [if_pos rfl]
    go_enter Tryz.func59, Tryz.ntmps59
    go_upto_region 4 with (go_at_call 84; refine pc.mono ?_; rintro e w2 ⟨v', rfl, hl, hb⟩; obtain ⟨a, d, rfl⟩ := Tr.form hl; have HL2 := Lib.hid hl; have HX2 := Lib.hid (HX.out.on hb hxb); have HB2 := Lib.hid hb; clear hb hl pc)
    have x0 := HX2.out.cell 0 rfl
    have x1 := HX2.out.cell 1 rfl
    have x2 := HX2.out.cell 2 rfl
    have x3 := HX2.out.cell 3 rfl
    have x4 := HX2.out.cell 4 rfl
    have xf := HX2.out.frozen
    go_upto_region 5 with fail
    have HX3 : Hid (Bs.Box (w2.setCell ⟨ub, 2, none⟩ (.slice a cs.length d)) ub #[.int .i64 k, .string t, .slice a cs.length d, .slice none 0 0, .slice none 0 0] 37) := HX2.out.set 2 _
    have HB3 : Hid (Below w.heap.size w (w2.setCell ⟨ub, 2, none⟩ (.slice a cs.length d))) := (HB1.out.trans (HB2.out.mono HB1.out.size)).setCell (p := ⟨ub, 2, none⟩) (Nat.le_of_eq hub) _
    have HL3 : Hid (Dt.Lies (w2.setCell ⟨ub, 2, none⟩ (.slice a cs.length d)) (fun b => w.heap.size ≤ b ∧ b < (w2.setCell ⟨ub, 2, none⟩ (.slice a cs.length d)).heap.size ∧ Rm.Ub (w2.setCell ⟨ub, 2, none⟩ (.slice a cs.length d)) b) (Cm.rows cs) (.slice a cs.length d)) := HL2.out.on fun b hb => by
      have e : (w2.setCell ⟨ub, 2, none⟩ (.slice a cs.length d)).heap[b]? = w2.heap[b]? := Below.heap_setCell _ _ _ _ (by have := hb.1; show b ≠ ub; omega)
      have := HB1.out.size
      exact ⟨⟨by have := hb.1; omega, by simp; exact hb.2.1, hb.2.2.on e⟩, e⟩
    clear x0 x1 x2 x3 x4 xf HX2 HL2 HB2
    generalize w2.setCell ⟨ub, 2, none⟩ (.slice a cs.length d) = w3 at *
    have HH : Hid (∀ u : World, u.heap = w3.heap → Ml.Has base u g s (It.dt (.mk k t.data.toList cs [] [])) [.int .i64 k, .string t, .slice a cs.length d, .slice none 0 0, .slice none 0 0]) := fun u e => (HI.out.has HB3.out hlo (It.fits rfl HL3.out (It.nil _ _) (It.nil _ _))).heap e
    have x0 : w3.cell? ⟨ub, 0, none⟩ = some (.int .i64 k) := HX3.out.cell 0 rfl
    have x1 : w3.cell? ⟨ub, 1, none⟩ = some (.string t) := HX3.out.cell 1 rfl
    have x2 : w3.cell? ⟨ub, 2, none⟩ = some (.slice a cs.length d) := HX3.out.cell 2 rfl
    have x3 : w3.cell? ⟨ub, 3, none⟩ = some (.slice none 0 0) := HX3.out.cell 3 rfl
    have x4 : w3.cell? ⟨ub, 4, none⟩ = some (.slice none 0 0) := HX3.out.cell 4 rfl
    have HZ : Hid (∀ u : World, u.heap = w3.heap → base ≤ u.heap.size) := fun u e => by rw [e]; exact Nat.le_trans hlo HB3.out.size
    have HBU : Hid (∀ u : World, u.heap = w3.heap → u.os = w3.os → u.tape = w3.tape → u.output = w3.output → Below base w u) := fun u e e1 e2 e3 => by
      have hb := HB3.out.mono hlo
      exact ⟨e1.trans hb.os, e2.trans hb.tape, e3.trans hb.output, by rw [e]; exact hb.size, fun q hq => by rw [e]; exact hb.block q hq⟩
    go_region_with (go_at_call 26; refine (Ml.put (HH.out w3.drew rfl) (HZ.out w3.drew rfl) hcur).mono ?_; rintro e w4 ⟨rfl, i4, b4⟩; have HI4 := Lib.hid i4; have HB5 := Lib.hid ((HBU.out w3.drew rfl rfl rfl rfl).trans b4); clear i4 b4)
    all_goals go_wp2
    all_goals go_ret
    all_goals exact .fine HB5.out HI4.out
  · have hE2 : (E != 0) = true := bne_iff_ne.2 hE
    rw [if_neg hE]
    have HE := Lib.hid hE
    clear hE
    go_enter Tryz.func59, Tryz.ntmps59
    go_wp2_with (go_at_call 84; refine pc.mono ?_; rintro e w2 ⟨v', rfl, hl, hb⟩; have HB2 := Lib.hid (HB1.out.trans (hb.mono HB1.out.size)); clear hb hl pc)
    go_ret
    exact .err (HB2.out.mono hlo) HE.out
set_option maxRecDepth 100000 in
set_option maxHeartbeats 8000000 in
theorem Ml.block {base g : Nat} {w : World} {s : Mz.St} {k : Int} {ws : List Wo} {v : Value} {R : Nat → Prop} (h : Ml.Is base w g s) (hlo : base ≤ w.heap.size) (hl : Wo.Lies w R ws v) (hz : Wi.Fits (ws.map Wo.wi)) :
    Calls Tryz.prog 55 #[.pointer (some ⟨g, 0, none⟩), .int .i64 k, v] w (Ml.Out base w g (s.block k ws)) := by
  have pc := Ip.parse (ws.map Wo.wi) v _ w ⟨trivial⟩ hl.data hz
  unfold Mz.St.block
  dsimp only
  generalize Pi.parse (ws.map Wo.wi) = r at *
  obtain ⟨cs, E⟩ := r
  dsimp only at pc ⊢
  have HI := Lib.hid h
  clear h hl hz
  by_cases hE : E = 0
  · subst hE
    rw [if_neg (fun q => q rfl)]
    have BG : Hid (∀ (u : World) (a : Option Addr) (n d : Nat), Ml.Has base u g s [Cm.rows cs] [.slice a n d] → base ≤ u.heap.size → Calls Tryz.prog 85 #[.pointer (some ⟨g, 0, none⟩), .agg #[.int .i64 k, .string ⟨#[]⟩, .slice a n d, .slice none 0 0, .slice none 0 0]] u (Ml.Out base u g (if s.op.length = 16 then .error 1603 else .ok (s.begin k cs)))) := fun u a n d hh hb => Ml.begin hh hb
    generalize (if s.op.length = 16 then (Except.error 1603 : Except Int Mz.St) else Except.ok (s.begin k cs)) = Z at *
    go_enter Tryz.func55, Tryz.ntmps55
    go_wp2_with (first | (go_at_call 84; refine pc.mono ?_; rintro e w2 ⟨v', rfl, hl, hb⟩; obtain ⟨a, d, rfl⟩ := Tr.form hl; have HH := Lib.hid (HI.out.has (ds := [Cm.rows cs]) (vs := [.slice a cs.length d]) hb hlo ⟨hl, trivial⟩); have HB2 := Lib.hid hb; clear hb hl pc) | (go_at_call 85; refine (BG.out _ _ _ _ HH.out (Nat.le_trans hlo HB2.out.size)).mono ?_; rintro e w4 ⟨b4, rfl, n4, o4⟩; have HO4 := Lib.hid o4; have HN4 := Lib.hid n4; have HB5 := Lib.hid ((HB2.out.mono hlo).trans b4); clear o4 n4 b4))
    go_ret
    exact .same HB5.out HN4.out HO4.out
  · have hE2 : (E != 0) = true := bne_iff_ne.2 hE
    rw [if_pos hE]
    have HE := Lib.hid hE
    clear hE
    go_enter Tryz.func55, Tryz.ntmps55
    go_wp2_with (go_at_call 84; refine pc.mono ?_; rintro e w2 ⟨v', rfl, hl, hb⟩; have HB2 := Lib.hid hb; clear hb hl pc)
    go_ret
    exact .err (HB2.out.mono hlo) HE.out
end Go.Proofs.YtjppobeomocgbaaGreatDoor
/-
  WORDS in memory: the first, what stands behind the first ones; the walks of nameOf, isSet.
-/
namespace Go.Proofs.YtjppobeomocgbaaGreatDoor
open Go.RowKit
/-- a row of words from its k-th on -/
def Ml.cut (b o n d k : Nat) : Value := if d = k then .slice (some ⟨b, o, none⟩) 0 0 else .slice (some ⟨b, o + k * 4, none⟩) (n - k) (d - k)
theorem Ml.drop {w : World} {R : Nat → Prop} {ws : List Wo} {b o d : Nat} (h : Wo.Lies w R ws (.slice (some ⟨b, o, none⟩) ws.length d)) (k : Nat) (hk : k ≤ ws.length) : Wo.Lies w R (ws.drop k) (Ml.cut b o ws.length d k) := by
  obtain ⟨a, d2, e, h1, h2, hx⟩ := h
  injection e with e1 _ e2
  subst e1 e2
  unfold Ml.cut
  split
  · have : ws.drop k = [] := List.drop_eq_nil_of_le (by omega)
    rw [this]
    exact ⟨_, _, rfl, Nat.zero_le _, Nat.zero_le _, fun i x hi => by simp at hi⟩
  · refine ⟨_, _, by rw [List.length_drop], by rw [List.length_drop]; omega, by omega, fun i x hi => ?_⟩
    rw [List.getElem?_drop] at hi
    obtain ⟨b2, o2, pv, e, hb, c0, c1, c2, c3, hl⟩ := hx _ x hi
    injection e with e
    injection e with e1 e2
    subst e1 e2
    rw [show o + (k + i) * 4 = o + k * 4 + i * 4 by omega] at c0 c1 c2 c3
    exact ⟨b, _, pv, rfl, hb, c0, c1, c2, c3, hl⟩
theorem Ml.at {w : World} {R : Nat → Prop} {ws : List Wo} {b o d : Nat} (h : Wo.Lies w R ws (.slice (some ⟨b, o, none⟩) ws.length d)) {i : Nat} {x : Wo} (hi : ws[i]? = some x) :
    ∃ pa pd, w.cell? ⟨b, o + i * 4, none⟩ = some (.int .i64 (x.kind : Int)) ∧ w.cell? ⟨b, o + i * 4 + 1, none⟩ = some (.string ⟨x.text.toArray⟩) ∧ w.cell? ⟨b, o + i * 4 + 2, none⟩ = some (.slice pa x.path.length pd) ∧ w.cell? ⟨b, o + i * 4 + 3, none⟩ = some (.int .i64 x.num) := by
  obtain ⟨a, d2, e, h1, h2, hx⟩ := h
  injection e with e1 _ e2
  subst e1 e2
  obtain ⟨b2, o2, pv, e, hb, c0, c1, c2, c3, hl⟩ := hx _ x hi
  injection e with e
  injection e with e1 e2
  subst e1 e2
  obtain ⟨pa, pd, rfl, _⟩ := hl
  exact ⟨pa, pd, c0, c1, c2, c3⟩
/-- a row of words has a slice's form -/
theorem Ml.ws_form {w : World} {R : Nat → Prop} {ws : List Wo} {v : Value} (h : Wo.Lies w R ws v) (hne : ws ≠ []) : ∃ b o d, v = .slice (some ⟨b, o, none⟩) ws.length d ∧ ws.length ≤ d ∧ d ≤ 9223372036854775807 := by
  obtain ⟨a, d, rfl, h1, h2, hx⟩ := h
  obtain ⟨b, o, _, rfl, _⟩ := hx 0 (ws.head hne) (by
    match ws, hne with
    | x :: l, _ => rfl)
  exact ⟨b, o, d, rfl, h1, by unfold maxLen at h2; omega⟩
def Mz.name (x : Wo) : List UInt8 := if x.kind = 0 then x.text else []
set_option maxHeartbeats 1000000 in
theorem Ml.nameOf (x : Wo) (pa : Option Addr) (pn pd : Nat) (w : World) :
    Calls Tryz.prog 54 #[.agg #[.int .i64 (x.kind : Int), .string ⟨x.text.toArray⟩, .slice pa pn pd, .int .i64 x.num]] w fun e w' => e = .returned (.string ⟨(Mz.name x).toArray⟩) ∧ Below w.heap.size w w' := by
  have hb := (Below.refl w.heap.size w).alloc (Nat.le_refl _) (.cells #[.int .i64 (x.kind : Int), .string ⟨x.text.toArray⟩, .slice pa pn pd, .int .i64 x.num] 91)
  have HB := Lib.hid hb
  clear hb
  by_cases hk : x.kind = 0
  · have d0 : ((x.kind : Int) != 0) = false := by rw [hk]; rfl
    have e : Mz.name x = x.text := if_pos hk
    rw [e]
    clear hk e
    go_enter Tryz.func54, Tryz.ntmps54
    go_wp2_with fail
    go_ret
    exact ⟨rfl, HB.out⟩
  · have d0 : ((x.kind : Int) != 0) = true := bne_iff_ne.2 (by omega)
    have e : Mz.name x = [] := if_neg hk
    rw [e]
    clear hk e
    go_enter Tryz.func54, Tryz.ntmps54
    go_wp2_with fail
    go_ret
    exact ⟨rfl, HB.out⟩
def Mz.isSet (ws : List Wo) : Bool :=
  match ws with
  | x :: y :: _ => decide (x.kind = 2) && (decide (x.path.length = 0) && decide (y.kind = 6))
  | _ => false
set_option maxRecDepth 100000 in
set_option maxHeartbeats 4000000 in
theorem Ml.isSet {w : World} {R : Nat → Prop} {ws : List Wo} {v : Value} (h : Wo.Lies w R ws v) (hne : ws ≠ []) :
    Calls Tryz.prog 58 #[v] w fun e w' => e = .returned (.bool (Mz.isSet ws)) ∧ ∃ k, w' = w.drewN k := by
  obtain ⟨b, o, d, rfl, h1, h2⟩ := Ml.ws_form h hne
  match ws, hne with
  | [x], _ =>
    show Calls _ _ _ _ fun e w' => e = .returned (.bool false) ∧ _
    clear h
    go_enter Tryz.func58, Tryz.ntmps58
    go_wp2_with fail
    go_ret
    exact ⟨rfl, 0, rfl⟩
  | x :: y :: l, _ =>
    obtain ⟨pa, pd, c0, c1, c2, c3⟩ := Ml.at h (i := 0) (x := x) rfl
    obtain ⟨qa, qd, e0, e1, e2, e3⟩ := Ml.at h (i := 1) (x := y) rfl
    rw [show o + 0 * 4 = o by omega] at c0 c1 c2 c3
    rw [show o + 1 * 4 = o + 4 by omega] at e0 e1 e2 e3
    have hl : (x :: y :: l).length = l.length + 2 := rfl
    rw [hl] at h1 ⊢
    unfold Mz.isSet
    dsimp only
    have g1 : decide ((1 : Int) < (l.length : Int) + 2) = true := decide_eq_true (by omega)
    have g2 : (1 : Int) < (l.length : Int) + 2 := by omega
    have g3 : (0 : Int) < (l.length : Int) + 2 := by omega
    have k1 : ((x.kind : Int) == 2) = decide (x.kind = 2) := by
      by_cases q : x.kind = 2
      · rw [decide_eq_true q]; exact beq_iff_eq.2 (by omega)
      · rw [decide_eq_false q]; exact beq_eq_false_iff_ne.2 (by omega)
    have k2 : ((x.path.length : Int) == 0) = decide (x.path.length = 0) := by
      by_cases q : x.path.length = 0
      · rw [decide_eq_true q]; exact beq_iff_eq.2 (by omega)
      · rw [decide_eq_false q]; exact beq_eq_false_iff_ne.2 (by omega)
    have k3 : ((y.kind : Int) == 6) = decide (y.kind = 6) := by
      by_cases q : y.kind = 6
      · rw [decide_eq_true q]; exact beq_iff_eq.2 (by omega)
      · rw [decide_eq_false q]; exact beq_eq_false_iff_ne.2 (by omega)
    generalize decide (x.kind = 2) = b1 at *
    generalize decide (x.path.length = 0) = b2 at *
    generalize decide (y.kind = 6) = b3 at *
    clear h c1 c3 e1 e2 e3 hl
    cases b1 with
    | false =>
      go_enter Tryz.func58, Tryz.ntmps58
      go_wp2_with fail
      go_ret
      exact ⟨rfl, 0, rfl⟩
    | true =>
      cases b2 with
      | false =>
        go_enter Tryz.func58, Tryz.ntmps58
        go_wp2_with fail
        go_ret
        exact ⟨rfl, 0, rfl⟩
      | true =>
        go_enter Tryz.func58, Tryz.ntmps58
        go_wp2_with fail
        go_ret
        exact ⟨rfl, 0, rfl⟩
end Go.Proofs.YtjppobeomocgbaaGreatDoor
/-
  THE WALKS of readMark, readCall.
-/
namespace Go.Proofs.YtjppobeomocgbaaGreatDoor
open Go.RowKit
theorem Wo.Lies.later {w u : World} {R : Nat → Prop} {ws : List Wo} {v : Value} (h : Wo.Lies w R ws v) (hb0 : Below w.heap.size w u) : Wo.Lies u (fun _ => True) ws v := by
  obtain ⟨a, d, e, h1, h2, hx⟩ := h
  refine ⟨a, d, e, h1, h2, fun q x hq => ?_⟩
  obtain ⟨b, o, pv2, ea, _, c0, c1, c2, c3, hl⟩ := hx q x hq
  refine ⟨b, o, pv2, ea, trivial, Tp.keep hb0 c0, Tp.keep hb0 c1, Tp.keep hb0 c2, Tp.keep hb0 c3, ?_⟩
  obtain ⟨a5, d5, e5, h15, h25, hx5⟩ := hl
  refine ⟨a5, d5, e5, h15, h25, fun q5 t5 hq5 => ?_⟩
  obtain ⟨b5, o5, ea5, _, c5⟩ := hx5 q5 t5 hq5
  exact ⟨b5, o5, ea5, trivial, Tp.keep hb0 c5⟩
theorem Mz.no {t : ByteArray} {k : List UInt8} (h : ¬ t.data.toList = k) : (t.toList == k) = false := by rw [ByteArray.toList_eq]; exact beq_eq_false_iff_ne.2 h
set_option maxRecDepth 100000 in
set_option maxHeartbeats 4000000 in
theorem Ml.mark {base g : Nat} {w : World} {s : Mz.St} (t : ByteArray) (h : Ml.Is base w g s) (hlo : base ≤ w.heap.size) (hf : s.Few 1048576) :
    Calls Tryz.prog 56 #[.pointer (some ⟨g, 0, none⟩), .string t] w (Ml.Out base w g (s.mark t.data.toList)) := by
  unfold Mz.St.mark
  by_cases c1 : t.data.toList = Tm.sElse
  · rw [if_pos c1]
    obtain rfl : t = ⟨#[101, 108, 115, 101]⟩ := Tm.is t _ c1
    have tc := Ml.turn h
    clear h c1 hf
    go_enter Tryz.func56, Tryz.ntmps56
    go_wp2_with (go_at_call 86; refine tc.mono ?_; rintro e w1 ⟨b1, rfl, n1, o1⟩; have HB := Lib.hid b1; have HN := Lib.hid n1; have HO := Lib.hid o1; clear b1 n1 o1 tc)
    go_ret
    exact .same HB.out HN.out HO.out
  · rw [if_neg c1]
    by_cases c2 : t.data.toList = Tm.sEnd
    · rw [if_pos c2]
      obtain rfl : t = ⟨#[101, 110, 100]⟩ := Tm.is t _ c2
      have tc := Ml.end h hf
      clear h c1 c2 hf
      go_enter Tryz.func56, Tryz.ntmps56
      go_wp2_with (go_at_call 87; refine tc.mono ?_; rintro e w1 ⟨b1, rfl, n1, o1⟩; have HB := Lib.hid b1; have HN := Lib.hid n1; have HO := Lib.hid o1; clear b1 n1 o1 tc)
      go_ret
      exact .same HB.out HN.out HO.out
    · rw [if_neg c2]
      by_cases c3 : t.data.toList = Tm.sBreak
      · rw [if_pos c3]
        obtain rfl : t = ⟨#[98, 114, 101, 97, 107]⟩ := Tm.is t _ c3
        have tc := Ml.leave (k := 7) h hlo hf
        clear h c1 c2 c3 hf
        go_enter Tryz.func56, Tryz.ntmps56
        go_wp2_with (go_at_call 88; refine tc.mono ?_; rintro e w1 ⟨b1, rfl, n1, o1⟩; have HB := Lib.hid b1; have HN := Lib.hid n1; have HO := Lib.hid o1; clear b1 n1 o1 tc)
        go_ret
        exact .same HB.out HN.out HO.out
      · rw [if_neg c3]
        have e1 : (t.toList == [101, 108, 115, 101]) = false := Mz.no c1
        have e2 : (t.toList == [101, 110, 100]) = false := Mz.no c2
        have e3 : (t.toList == [98, 114, 101, 97, 107]) = false := Mz.no c3
        have tc := Ml.leave (k := 8) h hlo hf
        clear h c1 c2 c3 hf
        go_enter Tryz.func56, Tryz.ntmps56
        go_wp2_with (go_at_call 88; refine tc.mono ?_; rintro e w1 ⟨b1, rfl, n1, o1⟩; have HB := Lib.hid b1; have HN := Lib.hid n1; have HO := Lib.hid o1; clear b1 n1 o1 tc)
        go_ret
        exact .same HB.out HN.out HO.out
set_option maxRecDepth 100000 in
set_option maxHeartbeats 8000000 in
theorem Ml.call {base g : Nat} {w : World} {s : Mz.St} {ws : List Wo} {v : Value} {R : Nat → Prop} (h : Ml.Is base w g s) (hlo : base ≤ w.heap.size) (hf : s.Few 1048576) (hl : Wo.Lies w R ws v) (hz : Wi.Fits (ws.map Wo.wi)) :
    Calls Tryz.prog 57 #[.pointer (some ⟨g, 0, none⟩), v] w (Ml.Out base w g (s.call ws)) := by
  match ws, hl, hz with
  | [], hl, hz =>
    obtain ⟨a, d, rfl, _, _, _⟩ := hl
    have hR : s.call [] = .error 1604 := rfl
    rw [hR]
    clear h hf hz
    go_enter Tryz.func57, Tryz.ntmps57
    go_wp2_with fail
    go_ret
    exact .err (Below.refl _ _) (by decide)
  | x :: rest, hl, hz =>
    obtain ⟨b, o, d, rfl, h1, h2⟩ := Ml.ws_form hl (by simp)
    obtain ⟨pa, pd, c0, c1, c2, c3⟩ := Ml.at hl (i := 0) (x := x) rfl
    rw [show o + 0 * 4 = o by omega] at c0 c1 c2 c3
    have hn : (x :: rest).length = rest.length + 1 := rfl
    have g0 : (((rest.length + 1 : Nat) : Int) == 0) = false := beq_eq_false_iff_ne.2 (by omega)
    have g3 : (0 : Int) < (rest.length : Int) + 1 := by omega
    by_cases hk : x.kind = 4
    · have k0 : ((x.kind : Int) != 4) = false := by rw [hk]; rfl
      have hcur := hf.cur
      obtain ⟨T, hT⟩ : ∃ T : ByteArray, (⟨x.text.toArray⟩ : ByteArray) = T := ⟨_, rfl⟩
      have hTl : T.data.toList = x.text := by rw [← hT]
      rw [hT] at c1
      have hwl : ∀ k, ∀ (q r : Nat), q < w.heap.size → (w.alloc (.cells #[.int .i64 k, .string T, .slice none 0 0, .slice none 0 0, .slice none 0 0] 37)).cell? ⟨q, r, none⟩ = w.cell? ⟨q, r, none⟩ := fun k q r hq => World.cell?_of_block (w := w) (Below.heap_alloc w _ _ hq)
      have HX : Hid (Bs.Box (w.alloc (.cells #[.int .i64 6, .string T, .slice none 0 0, .slice none 0 0, .slice none 0 0] 37)) w.heap.size #[.int .i64 6, .string T, .slice none 0 0, .slice none 0 0, .slice none 0 0] 37) := Bs.Box.new w _ _ _ rfl
      have HB1 : Hid (Below w.heap.size w (w.alloc (.cells #[.int .i64 6, .string T, .slice none 0 0, .slice none 0 0, .slice none 0 0] 37))) := (Below.refl _ _).alloc (Nat.le_refl _) _
      have HH : Hid (∀ u W : World, Below w.heap.size w u → W.heap = u.heap → Ml.Has base W g s (It.dt (.mk 6 x.text [] [] [])) [.int .i64 6, .string T, .slice none 0 0, .slice none 0 0, .slice none 0 0]) := fun u W hb e => (h.has hb hlo (It.fits hTl (Cm.nil _ _) (It.nil _ _) (It.nil _ _))).heap e
      have HBU : Hid (∀ u : World, u.heap = (w.alloc (.cells #[.int .i64 6, .string T, .slice none 0 0, .slice none 0 0, .slice none 0 0] 37)).heap → u.os = w.os → u.tape = w.tape → u.output = w.output → Below base w u ∧ base ≤ u.heap.size) := fun u e e1 e2 e3 => by
        have hb := HB1.out.mono hlo
        exact ⟨⟨e1, e2, e3, by rw [e]; exact hb.size, fun q hq => by rw [e]; exact hb.block q hq⟩, by rw [e]; exact Nat.le_trans hlo hb.size⟩
      by_cases hr : rest = []
      · subst hr
        have hR : s.call [x] = .ok (s.put (.mk 6 x.text [] [] [])) := by
          show (if x.kind ≠ 4 then _ else _) = _
          rw [if_neg (fun q => q hk), if_pos rfl]
        rw [hR]
        clear h hf hl hz hk
        go_enter Tryz.func57, Tryz.ntmps57
        go_upto_region 5 with fail
        have x0 := HX.out.cell 0 rfl
        have x1 := HX.out.cell 1 rfl
        have x2 := HX.out.cell 2 rfl
        have x3 := HX.out.cell 3 rfl
        have x4 := HX.out.cell 4 rfl
        have HP : Hid (∀ W : World, W.heap = (w.alloc (.cells #[.int .i64 6, .string T, .slice none 0 0, .slice none 0 0, .slice none 0 0] 37)).heap → Ml.Has base W g s (It.dt (.mk 6 x.text [] [] [])) [.int .i64 6, .string T, .slice none 0 0, .slice none 0 0, .slice none 0 0]) := fun W e => HH.out _ _ HB1.out e
        have hos : (w.alloc (.cells #[.int .i64 6, .string T, .slice none 0 0, .slice none 0 0, .slice none 0 0] 37)).os = w.os ∧ (w.alloc (.cells #[.int .i64 6, .string T, .slice none 0 0, .slice none 0 0, .slice none 0 0] 37)).tape = w.tape ∧ (w.alloc (.cells #[.int .i64 6, .string T, .slice none 0 0, .slice none 0 0, .slice none 0 0] 37)).output = w.output := ⟨rfl, rfl, rfl⟩
        have HOS := Lib.hid hos
        clear hos HH HX HB1 hwl
        generalize w.alloc (.cells #[.int .i64 6, .string T, .slice none 0 0, .slice none 0 0, .slice none 0 0] 37) = w1 at *
        generalize w.heap.size = ub at *
        have HQ : Hid (Below base w w1.drew ∧ base ≤ w1.drew.heap.size) := HBU.out w1.drew rfl HOS.out.1 HOS.out.2.1 HOS.out.2.2
        go_region_with (go_at_call 26; refine (Ml.put (HP.out w1.drew rfl) HQ.out.2 hcur).mono ?_; rintro e w4 ⟨rfl, i4, b4⟩; have HI4 := Lib.hid i4; have HB5 := Lib.hid (HQ.out.1.trans b4); clear i4 b4)
        all_goals go_wp2
        all_goals go_ret
        all_goals exact .fine HB5.out HI4.out
      · have hR : s.call (x :: rest) = s.asked 6 T.data.toList rest := by
          show (if x.kind ≠ 4 then _ else _) = _
          rw [if_neg (fun q => q hk), if_neg hr, hTl]
        rw [hR]
        have hrl : 0 < rest.length := List.length_pos_iff.2 hr
        have hd1 : ¬ d = 1 := by rw [hn] at h1; omega
        have hcut := Ml.drop hl 1 (by rw [hn]; omega)
        rw [show Ml.cut b o (x :: rest).length d 1 = .slice (some ⟨b, o + 4, none⟩) rest.length (d - 1) from if_neg hd1] at hcut
        have g1 : (((rest.length + 1 : Nat) : Int) == 1) = false := beq_eq_false_iff_ne.2 (by omega)
        have HA : Hid (∀ u : World, u.heap = (w.alloc (.cells #[.int .i64 6, .string T, .slice none 0 0, .slice none 0 0, .slice none 0 0] 37)).heap → u.os = w.os → u.tape = w.tape → u.output = w.output → Calls Tryz.prog 59 #[.pointer (some ⟨g, 0, none⟩), .agg #[.int .i64 6, .string T, .slice none 0 0, .slice none 0 0, .slice none 0 0], .slice (some ⟨b, o + 4, none⟩) rest.length (d - 1)] u (Ml.Out base u g (s.asked 6 T.data.toList rest))) := fun u e e1 e2 e3 => by
          have hbu : Below w.heap.size w u := ⟨e1, e2, e3, by rw [e]; exact HB1.out.size, fun q hq => by rw [e]; exact HB1.out.block q hq⟩
          exact Ml.asked (R := fun _ => True) (h.on hbu) (Nat.le_trans hlo hbu.size) hf (hcut.later hbu) (by have := hz.drop 1; exact this)
        generalize s.asked 6 T.data.toList rest = Z at *
        clear h hf hl hz hk hcut hR HH
        go_enter Tryz.func57, Tryz.ntmps57
        go_upto_region 7 with fail
        have x0 := HX.out.cell 0 rfl
        have x1 := HX.out.cell 1 rfl
        have x2 := HX.out.cell 2 rfl
        have x3 := HX.out.cell 3 rfl
        have x4 := HX.out.cell 4 rfl
        have hos : (w.alloc (.cells #[.int .i64 6, .string T, .slice none 0 0, .slice none 0 0, .slice none 0 0] 37)).os = w.os ∧ (w.alloc (.cells #[.int .i64 6, .string T, .slice none 0 0, .slice none 0 0, .slice none 0 0] 37)).tape = w.tape ∧ (w.alloc (.cells #[.int .i64 6, .string T, .slice none 0 0, .slice none 0 0, .slice none 0 0] 37)).output = w.output := ⟨rfl, rfl, rfl⟩
        have HOS := Lib.hid hos
        clear hos HX HB1 hwl
        generalize w.alloc (.cells #[.int .i64 6, .string T, .slice none 0 0, .slice none 0 0, .slice none 0 0] 37) = w1 at *
        generalize w.heap.size = ub at *
        have HQ : Hid (Below base w w1.drew ∧ base ≤ w1.drew.heap.size) := HBU.out w1.drew rfl HOS.out.1 HOS.out.2.1 HOS.out.2.2
        have hc := HA.out w1.drew rfl HOS.out.1 HOS.out.2.1 HOS.out.2.2
        have g5 : (1 : Int) ≤ (rest.length : Int) + 1 := by omega
        have g6 : rest.length + 1 ≤ d := h1
        go_region_with (go_at_call 59; refine hc.mono ?_; rintro e w4 ⟨b4, rfl, n4, i4⟩; have HI4 := Lib.hid i4; have HN4 := Lib.hid n4; have HB5 := Lib.hid (HQ.out.1.trans b4); clear i4 b4 n4)
        all_goals go_wp2
        all_goals go_ret
        all_goals exact .same HB5.out HN4.out HI4.out
    · have k0 : ((x.kind : Int) != 4) = true := bne_iff_ne.2 (by omega)
      have hR : s.call (x :: rest) = .error 1604 := by
        show (if x.kind ≠ 4 then _ else _) = _
        rw [if_pos hk]
      rw [hR]
      clear h hf hz hl hk
      go_enter Tryz.func57, Tryz.ntmps57
      go_wp2_with fail
      go_ret
      exact .err (Below.refl _ _) (by decide)
end Go.Proofs.YtjppobeomocgbaaGreatDoor

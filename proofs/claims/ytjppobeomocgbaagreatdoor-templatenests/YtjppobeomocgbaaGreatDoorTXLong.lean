/-
  THE WALK of the landed reader: longWord (by gen14/genlong.py).
-/
import Derived.Test.YtjppobeomocgbaaGreatDoorTXPathtoXField
namespace Go.Proofs.YtjppobeomocgbaaGreatDoor
open Go.RowKit
theorem Xr.two {s : ByteArray} {i : Nat} (a b : UInt8) : Lib.hasPrefix (s.data.toList.drop i) [a, b] = (decide (s.data.toList[i]? = some a) && decide (s.data.toList[i + 1]? = some b)) := by
  by_cases q : i < s.size
  · have e : Lib.hasPrefix (s.data.toList.drop i) [a, b] = ((a == s[i]) && Lib.hasPrefix (s.data.toList.drop (i + 1)) [b]) := by rw [Rl.drop s i q]; rfl
    rw [e, Xr.pre_one, Wx.get q]
    congr 1
    by_cases h : s[i] = a
    · rw [h]; simp
    · rw [decide_eq_false (fun q => h (Option.some.inj q)), beq_eq_false_iff_ne]
      exact fun q => h q.symm
  · rw [Wx.drop_none (by omega), List.getElem?_eq_none (by rw [Wk.len_data]; omega)]
    rfl
section
variable {s : ByteArray} {i : Nat}
theorem Xr.word_num (hi : i < s.size) (h : s[i] = 45 ∨ Pl.digit s[i] = true) : Wx.word s.data.toList i = (Wx.or (Wx.int s.data.toList i) 1402).map fun r => (⟨3, [], [], r.1⟩, r.2) := by
  have h0 : s[i] ≠ 124 ∧ s[i] ≠ 58 ∧ s[i] ≠ 34 := by
    have := Xr.all (p := fun c => !(c == 45 || Pl.digit c) || (c != 124 && c != 58 && c != 34)) (by decide +kernel) s[i]
    have h1 : (s[i] == 45 || Pl.digit s[i]) = true := by rcases h with h | h <;> rw [h] <;> simp
    rw [h1] at this
    simpa [and_assoc] using this
  unfold Wx.word
  simp only [Xr.getD hi]
  rw [if_neg h0.1, if_neg (fun q => h0.2.1 q.1), if_neg h0.2.2, if_pos h]
theorem Xr.word_text (hi : i < s.size) (h : s[i] = 34) : Wx.word s.data.toList i = (Wx.or (Wx.text false (i + 1) (s.data.toList.drop (i + 1)) []) 1401).map fun r => (⟨4, r.1, [], 0⟩, r.2) := by
  unfold Wx.word
  simp only [Xr.getD hi, h]
  rw [if_neg (by decide), if_neg (fun q => absurd q.1 (by decide)), if_pos (by decide)]
theorem Xr.word_set (hi : i < s.size) (h : s[i] = 58) (h2 : s.data.toList[i + 1]? = some 61) : Wx.word s.data.toList i = .ok (⟨6, [], [], 0⟩, i + 2) := by
  unfold Wx.word
  simp only [Xr.getD hi, h]
  rw [if_neg (by decide), if_pos ⟨by decide, h2⟩]
theorem Xr.word_var (hi : i < s.size) (h : s[i] = 36) : Wx.word s.data.toList i = Xr.var s.data.toList (i + 1) := by
  unfold Wx.word Xr.var
  simp only [Xr.getD hi, h]
  rw [if_neg (by decide), if_neg (fun q => absurd q.1 (by decide)), if_neg (by decide), if_neg (by decide), if_neg (by decide), if_pos (by decide)]
  cases Wx.name s.data.toList (i + 1) <;> rfl
theorem Xr.word_fld (hi : i < s.size) (h : s[i] = 46) : Wx.word s.data.toList i = Xr.fld s.data.toList i := by
  unfold Wx.word Xr.fld
  simp only [Xr.getD hi, h]
  rw [if_neg (by decide), if_neg (fun q => absurd q.1 (by decide)), if_neg (by decide), if_neg (by decide), if_pos (by decide)]
theorem Xr.word_name (hi : i < s.size) (h0 : s[i] ≠ 124) (h1 : ¬ (s[i] = 58 ∧ s.data.toList[i + 1]? = some 61)) (h2 : s[i] ≠ 34) (h3 : ¬ (s[i] = 45 ∨ Pl.digit s[i] = true)) (h4 : s[i] ≠ 46) (h5 : s[i] ≠ 36) : Wx.word s.data.toList i = (Wx.or (Wx.name s.data.toList i) 1400).map fun r => (⟨0, r.1, [], 0⟩, r.2) := by
  unfold Wx.word
  simp only [Xr.getD hi]
  rw [if_neg h0, if_neg h1, if_neg h2, if_neg h3, if_neg h4, if_neg h5]
end
/-- the reader, and the result's block -/
structure Xr.Rs (w0 w u : World) (g : Nat) (s : ByteArray) (j r : Nat) : Prop where
  at_ : Xr.At w0 u g s j
  box : Bs.Box u r #[.int .i64 0, .string ⟨#[]⟩, .slice none 0 0, .int .i64 0] 91
  gr : g < r
  wr : w.heap.size ≤ r
  lo : w0.heap.size ≤ w.heap.size
theorem Xr.Rs.then {w0 w u u' : World} {g : Nat} {s : ByteArray} {i j r : Nat} (h : Xr.Rs w0 w u g s i r) (h2 : Xr.At u u' g s j) : Xr.Rs w0 w u' g s j r := ⟨h.at_.comp h2, Xr.box_kept h.box h2.kept (Nat.ne_of_gt h.gr), h.gr, h.wr, h.lo⟩
theorem Xr.Rs.drewN {w0 w u : World} {g : Nat} {s : ByteArray} {i r : Nat} (h : Xr.Rs w0 w u g s i r) (n : Nat) : Xr.Rs w0 w (u.drewN n) g s i r := ⟨h.at_.drewN n, h.box, h.gr, h.wr, h.lo⟩
theorem Xr.Rs.us {w0 w u : World} {g : Nat} {s : ByteArray} {i r : Nat} (h : Xr.Rs w0 w u g s i r) : w.heap.size ≤ u.heap.size := Nat.le_trans h.wr (Nat.le_of_lt h.box.lt)
theorem Xr.skR {w0 w u : World} {g : Nat} {s : ByteArray} {i r : Nat} (mk : ByteArray) (b : Bool) (h : Xr.Rs w0 w u g s i r) (hs : s.size ≤ 1099511627776) (hb : Lib.hasPrefix (s.data.toList.drop i) mk.data.toList = b) :
    Calls Tryz.prog 110 #[.pointer (some ⟨g, 0, none⟩), .string mk] u fun e w' => e = .returned (.bool b) ∧ Xr.Rs w0 w w' g s (if b = true then i + mk.size else i) r :=
  (Xr.skip mk b h.at_.start hs hb).mono fun _ _ ⟨he, ha⟩ => ⟨he, h.then ha⟩

set_option maxRecDepth 100000 in
set_option maxHeartbeats 4000000 in
theorem Xr.long_minus {w0 w : World} {g : Nat} {s : ByteArray} {i : Nat} (h : Xr.At w0 w g s i) (hi : i < s.size) (hs : s.size ≤ 1099511627776) (hc : s[i] = 45) :
    Calls Tryz.prog 111 #[.pointer (some ⟨g, 0, none⟩)] w (Xr.WOut (Wx.word s.data.toList i) w0 w g s) := by
  have hgw := h.lt
  have hlo := h.kept.size
  obtain ⟨w00, hw00⟩ : ∃ W0, w.alloc (.cells #[.int .i64 0, .string ⟨#[]⟩, .slice none 0 0, .int .i64 0] 91) = W0 := ⟨_, rfl⟩
  have HR0 : Hid (Xr.Rs w0 w w00 g s i w.heap.size) := by rw [← hw00]; exact ⟨h.then ((Below.refl _ _).alloc (Nat.le_refl _) _), Bs.Box.new _ _ _ _ rfl, hgw, Nat.le_refl _, hlo⟩
  have pk := Xr.peek HR0.out.at_
  rw [Xr.getD hi] at pk
  have di := fun u => Xr.isDigit s[i] u
  have hget := Wx.get hi

  rw [Xr.word_num hi (.inl hc)]
  have t45 : ((s[i].toNat : Int) == 45) = true := Tp.eq_true (d := 45) hc
  clear hc
  have nu := fun u (q : Xr.At u u g s i) => Xr.number q hs
  clear h hget
  have HW := Lib.hid hw00
  clear hw00
  generalize (s[i].toNat : Int) = c at *
  cases hx : Wx.int s.data.toList i with
  | none =>
    rw [hx] at nu
    clear hx
    have hw00 := HW.out
    go_enter Tryz.func111, Tryz.ntmps111
    go_wp2_with (first | (go_at_call 109; refine pk.mono ?_; rintro e w1 ⟨rfl, n1, rfl⟩; have HR := Lib.hid (HR0.out.drewN n1); clear pk HR0; generalize w00.drewN n1 = w1 at *) | (go_at_call 131; refine (di _).mono ?_; rintro e w' ⟨rfl, hw⟩; have hw := hw.symm; subst hw) | (go_at_call 132; refine (nu _ HR.out.at_.start).mono ?_; rintro e w7 ⟨rfl, k7⟩; have HK := Lib.hid (HR.out.at_.kept.trans k7); clear nu))
    exact ⟨rfl, rfl, HK.out⟩
  | some p =>
    obtain ⟨m, j⟩ := p
    replace nu : ∀ u, Xr.At u u g s i → Calls Tryz.prog 132 #[.pointer (some ⟨g, 0, none⟩)] u fun e w' => e = .returned (.int .i64 m) ∧ Xr.At u w' g s j := fun u z => by
      have := nu u z
      rw [hx] at this
      exact this
    clear hx
    have hw00 := HW.out
    go_enter Tryz.func111, Tryz.ntmps111
    go_wp2_with (first | (go_at_call 109; refine pk.mono ?_; rintro e w1 ⟨rfl, n1, rfl⟩; have HR := Lib.hid (HR0.out.drewN n1); clear pk HR0; generalize w00.drewN n1 = w1 at *) | (go_at_call 131; refine (di _).mono ?_; rintro e w' ⟨rfl, hw⟩; have hw := hw.symm; subst hw) | (go_at_call 132; refine (nu _ HR.out.at_.start).mono ?_; rintro e w7 ⟨rfl, a7⟩; replace HR := Lib.hid (HR.out.then a7); clear a7; obtain ⟨x0, x1, x2, x3, xf⟩ := Xr.cells4 HR.out.box; clear nu))
    obtain ⟨W, hW, hX, hq, hz, ho, ht, hu⟩ := Xr.four HR.out.box (.int .i64 3) (.string ⟨#[]⟩) (.slice none 0 0) (.int .i64 m)
    rw [hW]
    obtain ⟨y0, y1, y2, y3, -⟩ := Xr.cells4 hX
    refine bodyPost_ret (v := .agg #[.int .i64 3, .string ⟨#[]⟩, .slice none 0 0, .int .i64 m]) (by simp [results, Tryz.results111, go_sem, y0, y1, y2, y3]) rfl ?_
    exact Xr.wend (r := w.heap.size) (V := w.heap.size) ⟨3, [], [], m⟩ HR.out.at_ (St.Lies.nil _ _) (fun k h1 _ => hq k h1) hz ho ht hu HR.out.gr (Nat.le_refl _) HR.out.wr HR.out.lo HR.out.us
set_option maxRecDepth 100000 in
set_option maxHeartbeats 4000000 in
theorem Xr.long_digit {w0 w : World} {g : Nat} {s : ByteArray} {i : Nat} (h : Xr.At w0 w g s i) (hi : i < s.size) (hs : s.size ≤ 1099511627776) (hn : ¬ s[i] = 45) (hd : Pl.digit s[i] = true) :
    Calls Tryz.prog 111 #[.pointer (some ⟨g, 0, none⟩)] w (Xr.WOut (Wx.word s.data.toList i) w0 w g s) := by
  have hgw := h.lt
  have hlo := h.kept.size
  obtain ⟨w00, hw00⟩ : ∃ W0, w.alloc (.cells #[.int .i64 0, .string ⟨#[]⟩, .slice none 0 0, .int .i64 0] 91) = W0 := ⟨_, rfl⟩
  have HR0 : Hid (Xr.Rs w0 w w00 g s i w.heap.size) := by rw [← hw00]; exact ⟨h.then ((Below.refl _ _).alloc (Nat.le_refl _) _), Bs.Box.new _ _ _ _ rfl, hgw, Nat.le_refl _, hlo⟩
  have pk := Xr.peek HR0.out.at_
  rw [Xr.getD hi] at pk
  have di := fun u => Xr.isDigit s[i] u
  have hget := Wx.get hi

  rw [Xr.word_num hi (.inr hd)]
  have t45 : ((s[i].toNat : Int) == 45) = false := Tp.eq_false (d := 45) hn
  rw [hd] at di
  clear hn hd
  have nu := fun u (q : Xr.At u u g s i) => Xr.number q hs
  clear h hget
  have HW := Lib.hid hw00
  clear hw00
  generalize (s[i].toNat : Int) = c at *
  cases hx : Wx.int s.data.toList i with
  | none =>
    rw [hx] at nu
    clear hx
    have hw00 := HW.out
    go_enter Tryz.func111, Tryz.ntmps111
    go_wp2_with (first | (go_at_call 109; refine pk.mono ?_; rintro e w1 ⟨rfl, n1, rfl⟩; have HR := Lib.hid (HR0.out.drewN n1); clear pk HR0; generalize w00.drewN n1 = w1 at *) | (go_at_call 131; refine (di _).mono ?_; rintro e w' ⟨rfl, hw⟩; have hw := hw.symm; subst hw) | (go_at_call 132; refine (nu _ HR.out.at_.start).mono ?_; rintro e w7 ⟨rfl, k7⟩; have HK := Lib.hid (HR.out.at_.kept.trans k7); clear nu))
    exact ⟨rfl, rfl, HK.out⟩
  | some p =>
    obtain ⟨m, j⟩ := p
    replace nu : ∀ u, Xr.At u u g s i → Calls Tryz.prog 132 #[.pointer (some ⟨g, 0, none⟩)] u fun e w' => e = .returned (.int .i64 m) ∧ Xr.At u w' g s j := fun u z => by
      have := nu u z
      rw [hx] at this
      exact this
    clear hx
    have hw00 := HW.out
    go_enter Tryz.func111, Tryz.ntmps111
    go_wp2_with (first | (go_at_call 109; refine pk.mono ?_; rintro e w1 ⟨rfl, n1, rfl⟩; have HR := Lib.hid (HR0.out.drewN n1); clear pk HR0; generalize w00.drewN n1 = w1 at *) | (go_at_call 131; refine (di _).mono ?_; rintro e w' ⟨rfl, hw⟩; have hw := hw.symm; subst hw) | (go_at_call 132; refine (nu _ HR.out.at_.start).mono ?_; rintro e w7 ⟨rfl, a7⟩; replace HR := Lib.hid (HR.out.then a7); clear a7; obtain ⟨x0, x1, x2, x3, xf⟩ := Xr.cells4 HR.out.box; clear nu))
    obtain ⟨W, hW, hX, hq, hz, ho, ht, hu⟩ := Xr.four HR.out.box (.int .i64 3) (.string ⟨#[]⟩) (.slice none 0 0) (.int .i64 m)
    rw [hW]
    obtain ⟨y0, y1, y2, y3, -⟩ := Xr.cells4 hX
    refine bodyPost_ret (v := .agg #[.int .i64 3, .string ⟨#[]⟩, .slice none 0 0, .int .i64 m]) (by simp [results, Tryz.results111, go_sem, y0, y1, y2, y3]) rfl ?_
    exact Xr.wend (r := w.heap.size) (V := w.heap.size) ⟨3, [], [], m⟩ HR.out.at_ (St.Lies.nil _ _) (fun k h1 _ => hq k h1) hz ho ht hu HR.out.gr (Nat.le_refl _) HR.out.wr HR.out.lo HR.out.us
set_option maxRecDepth 100000 in
set_option maxHeartbeats 4000000 in
theorem Xr.long_text {w0 w : World} {g : Nat} {s : ByteArray} {i : Nat} (h : Xr.At w0 w g s i) (hi : i < s.size) (hs : s.size ≤ 1099511627776) (hc : s[i] = 34) :
    Calls Tryz.prog 111 #[.pointer (some ⟨g, 0, none⟩)] w (Xr.WOut (Wx.word s.data.toList i) w0 w g s) := by
  have hgw := h.lt
  have hlo := h.kept.size
  obtain ⟨w00, hw00⟩ : ∃ W0, w.alloc (.cells #[.int .i64 0, .string ⟨#[]⟩, .slice none 0 0, .int .i64 0] 91) = W0 := ⟨_, rfl⟩
  have HR0 : Hid (Xr.Rs w0 w w00 g s i w.heap.size) := by rw [← hw00]; exact ⟨h.then ((Below.refl _ _).alloc (Nat.le_refl _) _), Bs.Box.new _ _ _ _ rfl, hgw, Nat.le_refl _, hlo⟩
  have pk := Xr.peek HR0.out.at_
  rw [Xr.getD hi] at pk
  have di := fun u => Xr.isDigit s[i] u
  have hget := Wx.get hi

  have h45 : ¬ s[i] = 45 := by rw [hc]; decide
  have hd : Pl.digit s[i] = false := by rw [hc]; decide
  have t45 : ((s[i].toNat : Int) == 45) = false := Tp.eq_false (d := 45) h45
  rw [hd] at di
  have p34 : decide (s.data.toList[i]? = some 34) = true := by rw [hget, hc]; rfl
  have s34 := fun u (q : Xr.Rs w0 w u g s i w.heap.size) => Xr.skR ⟨#[34]⟩ true q hs (by rw [show (⟨#[34]⟩ : ByteArray).data.toList = [34] from rfl, Xr.pre_one]; exact p34)
  rw [if_pos rfl, show (⟨#[34]⟩ : ByteArray).size = 1 from rfl] at s34
  rw [Xr.word_text hi hc]
  have qu := fun u (q : Xr.At u u g s (i + 1)) => Xr.quoted q hs
  clear hc h45 hd p34
  clear h hget
  have HW := Lib.hid hw00
  clear hw00
  generalize (s[i].toNat : Int) = c at *
  cases hx : Wx.text false (i + 1) (s.data.toList.drop (i + 1)) [] with
  | none =>
    rw [hx] at qu
    clear hx
    have hw00 := HW.out
    go_enter Tryz.func111, Tryz.ntmps111
    go_wp2_with (first | (go_at_call 109; refine pk.mono ?_; rintro e w1 ⟨rfl, n1, rfl⟩; have HR := Lib.hid (HR0.out.drewN n1); clear pk HR0; generalize w00.drewN n1 = w1 at *) | (go_at_call 131; refine (di _).mono ?_; rintro e w' ⟨rfl, hw⟩; have hw := hw.symm; subst hw) | (go_at_call_of 110 (Value.string ⟨#[34]⟩); refine (s34 _ HR.out).mono ?_; rintro e w3 ⟨rfl, a3⟩; replace HR := Lib.hid a3; clear a3 s34) | (go_at_call 133; refine (qu _ HR.out.at_.start).mono ?_; rintro e w7 ⟨rfl, k7⟩; have HK := Lib.hid (HR.out.at_.kept.trans k7); clear qu))
    exact ⟨rfl, rfl, HK.out⟩
  | some p =>
    obtain ⟨t, j⟩ := p
    replace qu : ∀ u, Xr.At u u g s (i + 1) → Calls Tryz.prog 133 #[.pointer (some ⟨g, 0, none⟩)] u fun e w' => e = .returned (.string ⟨t.toArray⟩) ∧ Xr.At u w' g s j := fun u z => by
      have := qu u z
      rw [hx] at this
      exact this
    clear hx
    have hw00 := HW.out
    go_enter Tryz.func111, Tryz.ntmps111
    go_wp2_with (first | (go_at_call 109; refine pk.mono ?_; rintro e w1 ⟨rfl, n1, rfl⟩; have HR := Lib.hid (HR0.out.drewN n1); clear pk HR0; generalize w00.drewN n1 = w1 at *) | (go_at_call 131; refine (di _).mono ?_; rintro e w' ⟨rfl, hw⟩; have hw := hw.symm; subst hw) | (go_at_call_of 110 (Value.string ⟨#[34]⟩); refine (s34 _ HR.out).mono ?_; rintro e w3 ⟨rfl, a3⟩; replace HR := Lib.hid a3; clear a3 s34) | (go_at_call 133; refine (qu _ HR.out.at_.start).mono ?_; rintro e w7 ⟨rfl, a7⟩; replace HR := Lib.hid (HR.out.then a7); clear a7; obtain ⟨x0, x1, x2, x3, xf⟩ := Xr.cells4 HR.out.box; clear qu))
    obtain ⟨W, hW, hX, hq, hz, ho, ht, hu⟩ := Xr.four HR.out.box (.int .i64 4) (.string ⟨t.toArray⟩) (.slice none 0 0) (.int .i64 0)
    rw [hW]
    obtain ⟨y0, y1, y2, y3, -⟩ := Xr.cells4 hX
    refine bodyPost_ret (v := .agg #[.int .i64 4, .string ⟨t.toArray⟩, .slice none 0 0, .int .i64 0]) (by simp [results, Tryz.results111, go_sem, y0, y1, y2, y3]) rfl ?_
    exact Xr.wend (r := w.heap.size) (V := w.heap.size) ⟨4, t, [], 0⟩ HR.out.at_ (St.Lies.nil _ _) (fun k h1 _ => hq k h1) hz ho ht hu HR.out.gr (Nat.le_refl _) HR.out.wr HR.out.lo HR.out.us
set_option maxRecDepth 100000 in
set_option maxHeartbeats 4000000 in
theorem Xr.long_set {w0 w : World} {g : Nat} {s : ByteArray} {i : Nat} (h : Xr.At w0 w g s i) (hi : i < s.size) (hs : s.size ≤ 1099511627776) (hc : s[i] = 58) (h61 : s.data.toList[i + 1]? = some 61) :
    Calls Tryz.prog 111 #[.pointer (some ⟨g, 0, none⟩)] w (Xr.WOut (Wx.word s.data.toList i) w0 w g s) := by
  have hgw := h.lt
  have hlo := h.kept.size
  obtain ⟨w00, hw00⟩ : ∃ W0, w.alloc (.cells #[.int .i64 0, .string ⟨#[]⟩, .slice none 0 0, .int .i64 0] 91) = W0 := ⟨_, rfl⟩
  have HR0 : Hid (Xr.Rs w0 w w00 g s i w.heap.size) := by rw [← hw00]; exact ⟨h.then ((Below.refl _ _).alloc (Nat.le_refl _) _), Bs.Box.new _ _ _ _ rfl, hgw, Nat.le_refl _, hlo⟩
  have pk := Xr.peek HR0.out.at_
  rw [Xr.getD hi] at pk
  have di := fun u => Xr.isDigit s[i] u
  have hget := Wx.get hi

  have h45 : ¬ s[i] = 45 := by rw [hc]; decide
  have hd : Pl.digit s[i] = false := by rw [hc]; decide
  have t45 : ((s[i].toNat : Int) == 45) = false := Tp.eq_false (d := 45) h45
  rw [hd] at di
  have p34 : decide (s.data.toList[i]? = some 34) = false := by rw [hget, hc]; rfl
  have p2 : (decide (s.data.toList[i]? = some 58) && decide (s.data.toList[i + 1]? = some 61)) = true := by rw [hget, hc, h61]; rfl
  have s34 := fun u (q : Xr.Rs w0 w u g s i w.heap.size) => Xr.skR ⟨#[34]⟩ false q hs (by rw [show (⟨#[34]⟩ : ByteArray).data.toList = [34] from rfl, Xr.pre_one]; exact p34)
  rw [if_neg (by decide)] at s34
  have s2 := fun u (q : Xr.Rs w0 w u g s i w.heap.size) => Xr.skR ⟨#[58, 61]⟩ true q hs (by rw [show (⟨#[58, 61]⟩ : ByteArray).data.toList = [58, 61] from rfl, Xr.two]; exact p2)
  rw [if_pos rfl, show (⟨#[58, 61]⟩ : ByteArray).size = 2 from rfl] at s2
  rw [Xr.word_set hi hc h61]
  clear hc h61 h45 hd p34 p2
  clear h hget
  have HW := Lib.hid hw00
  clear hw00
  generalize (s[i].toNat : Int) = c at *
  have hw00 := HW.out
  go_enter Tryz.func111, Tryz.ntmps111
  go_wp2_with (first | (go_at_call 109; refine pk.mono ?_; rintro e w1 ⟨rfl, n1, rfl⟩; have HR := Lib.hid (HR0.out.drewN n1); clear pk HR0; generalize w00.drewN n1 = w1 at *) | (go_at_call 131; refine (di _).mono ?_; rintro e w' ⟨rfl, hw⟩; have hw := hw.symm; subst hw) | (go_at_call_of 110 (Value.string ⟨#[34]⟩); refine (s34 _ HR.out).mono ?_; rintro e w3 ⟨rfl, a3⟩; replace HR := Lib.hid a3; clear a3 s34) | (go_at_call_of 110 (Value.string ⟨#[58, 61]⟩); refine (s2 _ HR.out).mono ?_; rintro e w4 ⟨rfl, a4⟩; replace HR := Lib.hid a4; clear a4 s2; obtain ⟨x0, x1, x2, x3, xf⟩ := Xr.cells4 HR.out.box))
  obtain ⟨W, hW, hX, hq, hz, ho, ht, hu⟩ := Xr.four HR.out.box (.int .i64 6) (.string ⟨#[]⟩) (.slice none 0 0) (.int .i64 0)
  rw [hW]
  obtain ⟨y0, y1, y2, y3, -⟩ := Xr.cells4 hX
  refine bodyPost_ret (v := .agg #[.int .i64 6, .string ⟨#[]⟩, .slice none 0 0, .int .i64 0]) (by simp [results, Tryz.results111, go_sem, y0, y1, y2, y3]) rfl ?_
  exact Xr.wend (r := w.heap.size) (V := w.heap.size) ⟨6, [], [], 0⟩ HR.out.at_ (St.Lies.nil _ _) (fun k h1 _ => hq k h1) hz ho ht hu HR.out.gr (Nat.le_refl _) HR.out.wr HR.out.lo HR.out.us
set_option maxRecDepth 100000 in
set_option maxHeartbeats 4000000 in
theorem Xr.long_var {w0 w : World} {g : Nat} {s : ByteArray} {i : Nat} (h : Xr.At w0 w g s i) (hi : i < s.size) (hs : s.size ≤ 1099511627776) (hc : s[i] = 36) :
    Calls Tryz.prog 111 #[.pointer (some ⟨g, 0, none⟩)] w (Xr.WOut (Wx.word s.data.toList i) w0 w g s) := by
  have hgw := h.lt
  have hlo := h.kept.size
  obtain ⟨w00, hw00⟩ : ∃ W0, w.alloc (.cells #[.int .i64 0, .string ⟨#[]⟩, .slice none 0 0, .int .i64 0] 91) = W0 := ⟨_, rfl⟩
  have HR0 : Hid (Xr.Rs w0 w w00 g s i w.heap.size) := by rw [← hw00]; exact ⟨h.then ((Below.refl _ _).alloc (Nat.le_refl _) _), Bs.Box.new _ _ _ _ rfl, hgw, Nat.le_refl _, hlo⟩
  have pk := Xr.peek HR0.out.at_
  rw [Xr.getD hi] at pk
  have di := fun u => Xr.isDigit s[i] u
  have hget := Wx.get hi

  have h45 : ¬ s[i] = 45 := by rw [hc]; decide
  have hd : Pl.digit s[i] = false := by rw [hc]; decide
  have t45 : ((s[i].toNat : Int) == 45) = false := Tp.eq_false (d := 45) h45
  rw [hd] at di
  have p34 : decide (s.data.toList[i]? = some 34) = false := by rw [hget, hc]; rfl
  have p2 : (decide (s.data.toList[i]? = some 58) && decide (s.data.toList[i + 1]? = some 61)) = false := by rw [hget, hc]; rfl
  have p36 : decide (s.data.toList[i]? = some 36) = true := by rw [hget, hc]; rfl
  have s34 := fun u (q : Xr.Rs w0 w u g s i w.heap.size) => Xr.skR ⟨#[34]⟩ false q hs (by rw [show (⟨#[34]⟩ : ByteArray).data.toList = [34] from rfl, Xr.pre_one]; exact p34)
  rw [if_neg (by decide)] at s34
  have s2 := fun u (q : Xr.Rs w0 w u g s i w.heap.size) => Xr.skR ⟨#[58, 61]⟩ false q hs (by rw [show (⟨#[58, 61]⟩ : ByteArray).data.toList = [58, 61] from rfl, Xr.two]; exact p2)
  rw [if_neg (by decide)] at s2
  have s36 := fun u (q : Xr.Rs w0 w u g s i w.heap.size) => Xr.skR ⟨#[36]⟩ true q hs (by rw [show (⟨#[36]⟩ : ByteArray).data.toList = [36] from rfl, Xr.pre_one]; exact p36)
  rw [if_pos rfl, show (⟨#[36]⟩ : ByteArray).size = 1 from rfl] at s36
  rw [Xr.word_var hi hc]
  have va := fun u (q : Xr.At u u g s (i + 1)) => Xr.variable q hs
  clear hc h45 hd p34 p2 p36
  clear h hget
  have HW := Lib.hid hw00
  clear hw00
  generalize (s[i].toNat : Int) = c at *
  cases hx : Xr.var s.data.toList (i + 1) with
  | error x =>
    rw [hx] at va
    clear hx
    have hw00 := HW.out
    go_enter Tryz.func111, Tryz.ntmps111
    go_wp2_with (first | (go_at_call 109; refine pk.mono ?_; rintro e w1 ⟨rfl, n1, rfl⟩; have HR := Lib.hid (HR0.out.drewN n1); clear pk HR0; generalize w00.drewN n1 = w1 at *) | (go_at_call 131; refine (di _).mono ?_; rintro e w' ⟨rfl, hw⟩; have hw := hw.symm; subst hw) | (go_at_call_of 110 (Value.string ⟨#[34]⟩); refine (s34 _ HR.out).mono ?_; rintro e w3 ⟨rfl, a3⟩; replace HR := Lib.hid a3; clear a3 s34) | (go_at_call_of 110 (Value.string ⟨#[58, 61]⟩); refine (s2 _ HR.out).mono ?_; rintro e w4 ⟨rfl, a4⟩; replace HR := Lib.hid a4; clear a4 s2) | (go_at_call_of 110 (Value.string ⟨#[36]⟩); refine (s36 _ HR.out).mono ?_; rintro e w5 ⟨rfl, a5⟩; replace HR := Lib.hid a5; clear a5 s36) | (go_at_call 134; refine (va _ HR.out.at_.start).mono ?_; rintro e w7 ⟨rfl, k7⟩; have HK := Lib.hid (HR.out.at_.kept.trans k7); clear va))
    exact ⟨rfl, rfl, HK.out⟩
  | ok p =>
    obtain ⟨⟨k, t, ts, m⟩, j⟩ := p
    replace va : ∀ u, Xr.At u u g s (i + 1) → Calls Tryz.prog 134 #[.pointer (some ⟨g, 0, none⟩)] u fun e w' => ∃ a n d, e = .returned (.agg #[.int .i64 (k : Int), .string ⟨t.toArray⟩, .slice a n d, .int .i64 m]) ∧ Xr.At u w' g s j ∧ u.heap.size ≤ w'.heap.size ∧ St.Lies w' (fun b => u.heap.size ≤ b ∧ b < w'.heap.size ∧ Rm.Ub w' b) ts (.slice a n d) := fun u z => by
      have := va u z
      rw [hx] at this
      exact this
    clear hx
    have hw00 := HW.out
    go_enter Tryz.func111, Tryz.ntmps111
    go_wp2_with (first | (go_at_call 109; refine pk.mono ?_; rintro e w1 ⟨rfl, n1, rfl⟩; have HR := Lib.hid (HR0.out.drewN n1); clear pk HR0; generalize w00.drewN n1 = w1 at *) | (go_at_call 131; refine (di _).mono ?_; rintro e w' ⟨rfl, hw⟩; have hw := hw.symm; subst hw) | (go_at_call_of 110 (Value.string ⟨#[34]⟩); refine (s34 _ HR.out).mono ?_; rintro e w3 ⟨rfl, a3⟩; replace HR := Lib.hid a3; clear a3 s34) | (go_at_call_of 110 (Value.string ⟨#[58, 61]⟩); refine (s2 _ HR.out).mono ?_; rintro e w4 ⟨rfl, a4⟩; replace HR := Lib.hid a4; clear a4 s2) | (go_at_call_of 110 (Value.string ⟨#[36]⟩); refine (s36 _ HR.out).mono ?_; rintro e w5 ⟨rfl, a5⟩; replace HR := Lib.hid a5; clear a5 s36) | (go_at_call 134; refine (va _ HR.out.at_.start).mono ?_; rintro e w7 ⟨a, n, d, rfl, a7, hs7, l7⟩; have hrl := HR.out.box.lt; have HL := Lib.hid l7; replace HR := Lib.hid (HR.out.then a7); clear a7 l7; obtain ⟨x0, x1, x2, x3, xf⟩ := Xr.cells4 HR.out.box; clear va))
    obtain ⟨W, hW, hX, hq, hz, ho, ht, hu⟩ := Xr.four HR.out.box (.int .i64 (k : Int)) (.string ⟨t.toArray⟩) (.slice a n d) (.int .i64 m)
    rw [hW]
    obtain ⟨y0, y1, y2, y3, -⟩ := Xr.cells4 hX
    refine bodyPost_ret (v := .agg #[.int .i64 (k : Int), .string ⟨t.toArray⟩, .slice a n d, .int .i64 m]) (by simp [results, Tryz.results111, go_sem, y0, y1, y2, y3]) rfl ?_
    exact Xr.wend (r := w.heap.size) (V := w.heap.size) ⟨k, t, ts, m⟩ HR.out.at_ (HL.out.on fun b hb => ⟨⟨by omega, hb.2⟩, rfl⟩) (fun k h1 _ => hq k h1) hz ho ht hu HR.out.gr (Nat.le_refl _) HR.out.wr HR.out.lo HR.out.us
set_option maxRecDepth 100000 in
set_option maxHeartbeats 4000000 in
theorem Xr.long_fld {w0 w : World} {g : Nat} {s : ByteArray} {i : Nat} (h : Xr.At w0 w g s i) (hi : i < s.size) (hs : s.size ≤ 1099511627776) (hc : s[i] = 46) :
    Calls Tryz.prog 111 #[.pointer (some ⟨g, 0, none⟩)] w (Xr.WOut (Wx.word s.data.toList i) w0 w g s) := by
  have hgw := h.lt
  have hlo := h.kept.size
  obtain ⟨w00, hw00⟩ : ∃ W0, w.alloc (.cells #[.int .i64 0, .string ⟨#[]⟩, .slice none 0 0, .int .i64 0] 91) = W0 := ⟨_, rfl⟩
  have HR0 : Hid (Xr.Rs w0 w w00 g s i w.heap.size) := by rw [← hw00]; exact ⟨h.then ((Below.refl _ _).alloc (Nat.le_refl _) _), Bs.Box.new _ _ _ _ rfl, hgw, Nat.le_refl _, hlo⟩
  have pk := Xr.peek HR0.out.at_
  rw [Xr.getD hi] at pk
  have di := fun u => Xr.isDigit s[i] u
  have hget := Wx.get hi

  have h45 : ¬ s[i] = 45 := by rw [hc]; decide
  have hd : Pl.digit s[i] = false := by rw [hc]; decide
  have t45 : ((s[i].toNat : Int) == 45) = false := Tp.eq_false (d := 45) h45
  rw [hd] at di
  have p34 : decide (s.data.toList[i]? = some 34) = false := by rw [hget, hc]; rfl
  have p2 : (decide (s.data.toList[i]? = some 58) && decide (s.data.toList[i + 1]? = some 61)) = false := by rw [hget, hc]; rfl
  have p36 : decide (s.data.toList[i]? = some 36) = false := by rw [hget, hc]; rfl
  have p46 : decide (s.data.toList[i]? = some 46) = true := by rw [hget, hc]; rfl
  have s34 := fun u (q : Xr.Rs w0 w u g s i w.heap.size) => Xr.skR ⟨#[34]⟩ false q hs (by rw [show (⟨#[34]⟩ : ByteArray).data.toList = [34] from rfl, Xr.pre_one]; exact p34)
  rw [if_neg (by decide)] at s34
  have s2 := fun u (q : Xr.Rs w0 w u g s i w.heap.size) => Xr.skR ⟨#[58, 61]⟩ false q hs (by rw [show (⟨#[58, 61]⟩ : ByteArray).data.toList = [58, 61] from rfl, Xr.two]; exact p2)
  rw [if_neg (by decide)] at s2
  have s36 := fun u (q : Xr.Rs w0 w u g s i w.heap.size) => Xr.skR ⟨#[36]⟩ false q hs (by rw [show (⟨#[36]⟩ : ByteArray).data.toList = [36] from rfl, Xr.pre_one]; exact p36)
  rw [if_neg (by decide)] at s36
  have s46 := fun u (q : Xr.Rs w0 w u g s i w.heap.size) => Xr.skR ⟨#[46]⟩ true q hs (by rw [show (⟨#[46]⟩ : ByteArray).data.toList = [46] from rfl, Xr.pre_one]; exact p46)
  rw [if_pos rfl, show (⟨#[46]⟩ : ByteArray).size = 1 from rfl] at s46
  rw [Xr.word_fld hi hc]
  have va := fun u (q : Xr.At u u g s (i + 1)) => Xr.field q (hget.trans (by rw [hc])) hs
  clear hc h45 hd p34 p2 p36 p46
  clear h hget
  have HW := Lib.hid hw00
  clear hw00
  generalize (s[i].toNat : Int) = c at *
  cases hx : Xr.fld s.data.toList i with
  | error x =>
    rw [hx] at va
    clear hx
    have hw00 := HW.out
    go_enter Tryz.func111, Tryz.ntmps111
    go_wp2_with (first | (go_at_call 109; refine pk.mono ?_; rintro e w1 ⟨rfl, n1, rfl⟩; have HR := Lib.hid (HR0.out.drewN n1); clear pk HR0; generalize w00.drewN n1 = w1 at *) | (go_at_call 131; refine (di _).mono ?_; rintro e w' ⟨rfl, hw⟩; have hw := hw.symm; subst hw) | (go_at_call_of 110 (Value.string ⟨#[34]⟩); refine (s34 _ HR.out).mono ?_; rintro e w3 ⟨rfl, a3⟩; replace HR := Lib.hid a3; clear a3 s34) | (go_at_call_of 110 (Value.string ⟨#[58, 61]⟩); refine (s2 _ HR.out).mono ?_; rintro e w4 ⟨rfl, a4⟩; replace HR := Lib.hid a4; clear a4 s2) | (go_at_call_of 110 (Value.string ⟨#[36]⟩); refine (s36 _ HR.out).mono ?_; rintro e w5 ⟨rfl, a5⟩; replace HR := Lib.hid a5; clear a5 s36) | (go_at_call_of 110 (Value.string ⟨#[46]⟩); refine (s46 _ HR.out).mono ?_; rintro e w6 ⟨rfl, a6⟩; replace HR := Lib.hid a6; clear a6 s46) | (go_at_call 135; refine (va _ HR.out.at_.start).mono ?_; rintro e w7 ⟨rfl, k7⟩; have HK := Lib.hid (HR.out.at_.kept.trans k7); clear va))
    exact ⟨rfl, rfl, HK.out⟩
  | ok p =>
    obtain ⟨⟨k, t, ts, m⟩, j⟩ := p
    replace va : ∀ u, Xr.At u u g s (i + 1) → Calls Tryz.prog 135 #[.pointer (some ⟨g, 0, none⟩)] u fun e w' => ∃ a n d, e = .returned (.agg #[.int .i64 (k : Int), .string ⟨t.toArray⟩, .slice a n d, .int .i64 m]) ∧ Xr.At u w' g s j ∧ u.heap.size ≤ w'.heap.size ∧ St.Lies w' (fun b => u.heap.size ≤ b ∧ b < w'.heap.size ∧ Rm.Ub w' b) ts (.slice a n d) := fun u z => by
      have := va u z
      rw [hx] at this
      exact this
    clear hx
    have hw00 := HW.out
    go_enter Tryz.func111, Tryz.ntmps111
    go_wp2_with (first | (go_at_call 109; refine pk.mono ?_; rintro e w1 ⟨rfl, n1, rfl⟩; have HR := Lib.hid (HR0.out.drewN n1); clear pk HR0; generalize w00.drewN n1 = w1 at *) | (go_at_call 131; refine (di _).mono ?_; rintro e w' ⟨rfl, hw⟩; have hw := hw.symm; subst hw) | (go_at_call_of 110 (Value.string ⟨#[34]⟩); refine (s34 _ HR.out).mono ?_; rintro e w3 ⟨rfl, a3⟩; replace HR := Lib.hid a3; clear a3 s34) | (go_at_call_of 110 (Value.string ⟨#[58, 61]⟩); refine (s2 _ HR.out).mono ?_; rintro e w4 ⟨rfl, a4⟩; replace HR := Lib.hid a4; clear a4 s2) | (go_at_call_of 110 (Value.string ⟨#[36]⟩); refine (s36 _ HR.out).mono ?_; rintro e w5 ⟨rfl, a5⟩; replace HR := Lib.hid a5; clear a5 s36) | (go_at_call_of 110 (Value.string ⟨#[46]⟩); refine (s46 _ HR.out).mono ?_; rintro e w6 ⟨rfl, a6⟩; replace HR := Lib.hid a6; clear a6 s46) | (go_at_call 135; refine (va _ HR.out.at_.start).mono ?_; rintro e w7 ⟨a, n, d, rfl, a7, hs7, l7⟩; have hrl := HR.out.box.lt; have HL := Lib.hid l7; replace HR := Lib.hid (HR.out.then a7); clear a7 l7; obtain ⟨x0, x1, x2, x3, xf⟩ := Xr.cells4 HR.out.box; clear va))
    obtain ⟨W, hW, hX, hq, hz, ho, ht, hu⟩ := Xr.four HR.out.box (.int .i64 (k : Int)) (.string ⟨t.toArray⟩) (.slice a n d) (.int .i64 m)
    rw [hW]
    obtain ⟨y0, y1, y2, y3, -⟩ := Xr.cells4 hX
    refine bodyPost_ret (v := .agg #[.int .i64 (k : Int), .string ⟨t.toArray⟩, .slice a n d, .int .i64 m]) (by simp [results, Tryz.results111, go_sem, y0, y1, y2, y3]) rfl ?_
    exact Xr.wend (r := w.heap.size) (V := w.heap.size) ⟨k, t, ts, m⟩ HR.out.at_ (HL.out.on fun b hb => ⟨⟨by omega, hb.2⟩, rfl⟩) (fun k h1 _ => hq k h1) hz ho ht hu HR.out.gr (Nat.le_refl _) HR.out.wr HR.out.lo HR.out.us
set_option maxRecDepth 100000 in
set_option maxHeartbeats 4000000 in
theorem Xr.long_name {w0 w : World} {g : Nat} {s : ByteArray} {i : Nat} (h : Xr.At w0 w g s i) (hi : i < s.size) (hs : s.size ≤ 1099511627776) (h124 : s[i] ≠ 124) (hset : ¬ (s[i] = 58 ∧ s.data.toList[i + 1]? = some 61)) (h34 : s[i] ≠ 34) (hnum : ¬ (s[i] = 45 ∨ Pl.digit s[i] = true)) (h46 : s[i] ≠ 46) (h36 : s[i] ≠ 36) :
    Calls Tryz.prog 111 #[.pointer (some ⟨g, 0, none⟩)] w (Xr.WOut (Wx.word s.data.toList i) w0 w g s) := by
  have hgw := h.lt
  have hlo := h.kept.size
  obtain ⟨w00, hw00⟩ : ∃ W0, w.alloc (.cells #[.int .i64 0, .string ⟨#[]⟩, .slice none 0 0, .int .i64 0] 91) = W0 := ⟨_, rfl⟩
  have HR0 : Hid (Xr.Rs w0 w w00 g s i w.heap.size) := by rw [← hw00]; exact ⟨h.then ((Below.refl _ _).alloc (Nat.le_refl _) _), Bs.Box.new _ _ _ _ rfl, hgw, Nat.le_refl _, hlo⟩
  have pk := Xr.peek HR0.out.at_
  rw [Xr.getD hi] at pk
  have di := fun u => Xr.isDigit s[i] u
  have hget := Wx.get hi

  have h45 : ¬ s[i] = 45 := fun q => hnum (.inl q)
  have hd : Pl.digit s[i] = false := Bool.eq_false_iff.2 fun q => hnum (.inr q)
  have t45 : ((s[i].toNat : Int) == 45) = false := Tp.eq_false (d := 45) h45
  rw [hd] at di
  have p34 : decide (s.data.toList[i]? = some 34) = false := by rw [hget]; exact decide_eq_false fun q => h34 (Option.some.inj q)
  have p36 : decide (s.data.toList[i]? = some 36) = false := by rw [hget]; exact decide_eq_false fun q => h36 (Option.some.inj q)
  have p46 : decide (s.data.toList[i]? = some 46) = false := by rw [hget]; exact decide_eq_false fun q => h46 (Option.some.inj q)
  have p2 : (decide (s.data.toList[i]? = some 58) && decide (s.data.toList[i + 1]? = some 61)) = false := by
    rw [hget]
    by_cases q : s[i] = 58
    · rw [decide_eq_false (p := s.data.toList[i + 1]? = some 61) (fun z => hset ⟨q, z⟩), Bool.and_false]
    · rw [decide_eq_false (p := some s[i] = some 58) (fun z => q (Option.some.inj z)), Bool.false_and]
  have s34 := fun u (q : Xr.Rs w0 w u g s i w.heap.size) => Xr.skR ⟨#[34]⟩ false q hs (by rw [show (⟨#[34]⟩ : ByteArray).data.toList = [34] from rfl, Xr.pre_one]; exact p34)
  rw [if_neg (by decide)] at s34
  have s2 := fun u (q : Xr.Rs w0 w u g s i w.heap.size) => Xr.skR ⟨#[58, 61]⟩ false q hs (by rw [show (⟨#[58, 61]⟩ : ByteArray).data.toList = [58, 61] from rfl, Xr.two]; exact p2)
  rw [if_neg (by decide)] at s2
  have s36 := fun u (q : Xr.Rs w0 w u g s i w.heap.size) => Xr.skR ⟨#[36]⟩ false q hs (by rw [show (⟨#[36]⟩ : ByteArray).data.toList = [36] from rfl, Xr.pre_one]; exact p36)
  rw [if_neg (by decide)] at s36
  have s46 := fun u (q : Xr.Rs w0 w u g s i w.heap.size) => Xr.skR ⟨#[46]⟩ false q hs (by rw [show (⟨#[46]⟩ : ByteArray).data.toList = [46] from rfl, Xr.pre_one]; exact p46)
  rw [if_neg (by decide)] at s46
  rw [Xr.word_name hi h124 hset h34 hnum h46 h36]
  have na := fun u (q : Xr.At u u g s i) => Xr.name q hs
  clear h124 hset h34 hnum h46 h36 h45 hd p34 p36 p46 p2
  clear h hget
  have HW := Lib.hid hw00
  clear hw00
  generalize (s[i].toNat : Int) = c at *
  cases hx : Wx.name s.data.toList i with
  | none =>
    rw [hx] at na
    clear hx
    have hw00 := HW.out
    go_enter Tryz.func111, Tryz.ntmps111
    go_wp2_with (first | (go_at_call 109; refine pk.mono ?_; rintro e w1 ⟨rfl, n1, rfl⟩; have HR := Lib.hid (HR0.out.drewN n1); clear pk HR0; generalize w00.drewN n1 = w1 at *) | (go_at_call 131; refine (di _).mono ?_; rintro e w' ⟨rfl, hw⟩; have hw := hw.symm; subst hw) | (go_at_call_of 110 (Value.string ⟨#[34]⟩); refine (s34 _ HR.out).mono ?_; rintro e w3 ⟨rfl, a3⟩; replace HR := Lib.hid a3; clear a3 s34) | (go_at_call_of 110 (Value.string ⟨#[58, 61]⟩); refine (s2 _ HR.out).mono ?_; rintro e w4 ⟨rfl, a4⟩; replace HR := Lib.hid a4; clear a4 s2) | (go_at_call_of 110 (Value.string ⟨#[36]⟩); refine (s36 _ HR.out).mono ?_; rintro e w5 ⟨rfl, a5⟩; replace HR := Lib.hid a5; clear a5 s36) | (go_at_call_of 110 (Value.string ⟨#[46]⟩); refine (s46 _ HR.out).mono ?_; rintro e w6 ⟨rfl, a6⟩; replace HR := Lib.hid a6; clear a6 s46) | (go_at_call 136; refine (na _ HR.out.at_.start).mono ?_; rintro e w7 ⟨rfl, k7⟩; have HK := Lib.hid (HR.out.at_.kept.trans k7); clear na))
    exact ⟨rfl, rfl, HK.out⟩
  | some p =>
    obtain ⟨t, j⟩ := p
    replace na : ∀ u, Xr.At u u g s i → Calls Tryz.prog 136 #[.pointer (some ⟨g, 0, none⟩)] u fun e w' => e = .returned (.string ⟨t.toArray⟩) ∧ Xr.At u w' g s j := fun u z => by
      have := na u z
      rw [hx] at this
      exact this
    clear hx
    have hw00 := HW.out
    go_enter Tryz.func111, Tryz.ntmps111
    go_wp2_with (first | (go_at_call 109; refine pk.mono ?_; rintro e w1 ⟨rfl, n1, rfl⟩; have HR := Lib.hid (HR0.out.drewN n1); clear pk HR0; generalize w00.drewN n1 = w1 at *) | (go_at_call 131; refine (di _).mono ?_; rintro e w' ⟨rfl, hw⟩; have hw := hw.symm; subst hw) | (go_at_call_of 110 (Value.string ⟨#[34]⟩); refine (s34 _ HR.out).mono ?_; rintro e w3 ⟨rfl, a3⟩; replace HR := Lib.hid a3; clear a3 s34) | (go_at_call_of 110 (Value.string ⟨#[58, 61]⟩); refine (s2 _ HR.out).mono ?_; rintro e w4 ⟨rfl, a4⟩; replace HR := Lib.hid a4; clear a4 s2) | (go_at_call_of 110 (Value.string ⟨#[36]⟩); refine (s36 _ HR.out).mono ?_; rintro e w5 ⟨rfl, a5⟩; replace HR := Lib.hid a5; clear a5 s36) | (go_at_call_of 110 (Value.string ⟨#[46]⟩); refine (s46 _ HR.out).mono ?_; rintro e w6 ⟨rfl, a6⟩; replace HR := Lib.hid a6; clear a6 s46) | (go_at_call 136; refine (na _ HR.out.at_.start).mono ?_; rintro e w7 ⟨rfl, a7⟩; replace HR := Lib.hid (HR.out.then a7); clear a7; obtain ⟨x0, x1, x2, x3, xf⟩ := Xr.cells4 HR.out.box; clear na))
    obtain ⟨W, hW, hX, hq, hz, ho, ht, hu⟩ := Xr.four HR.out.box (.int .i64 0) (.string ⟨t.toArray⟩) (.slice none 0 0) (.int .i64 0)
    rw [hW]
    obtain ⟨y0, y1, y2, y3, -⟩ := Xr.cells4 hX
    refine bodyPost_ret (v := .agg #[.int .i64 0, .string ⟨t.toArray⟩, .slice none 0 0, .int .i64 0]) (by simp [results, Tryz.results111, go_sem, y0, y1, y2, y3]) rfl ?_
    exact Xr.wend (r := w.heap.size) (V := w.heap.size) ⟨0, t, [], 0⟩ HR.out.at_ (St.Lies.nil _ _) (fun k h1 _ => hq k h1) hz ho ht hu HR.out.gr (Nat.le_refl _) HR.out.wr HR.out.lo HR.out.us
theorem Xr.longWord {w0 w : World} {g : Nat} {s : ByteArray} {i : Nat} (h : Xr.At w0 w g s i) (hi : i < s.size) (hs : s.size ≤ 1099511627776) (h124 : s[i] ≠ 124) :
    Calls Tryz.prog 111 #[.pointer (some ⟨g, 0, none⟩)] w (Xr.WOut (Wx.word s.data.toList i) w0 w g s) := by
  by_cases h45 : s[i] = 45
  · exact Xr.long_minus h hi hs h45
  · cases hd : Pl.digit s[i] with
    | true => exact Xr.long_digit h hi hs h45 hd
    | false =>
      by_cases h34 : s[i] = 34
      · exact Xr.long_text h hi hs h34
      · by_cases h2 : s[i] = 58 ∧ s.data.toList[i + 1]? = some 61
        · exact Xr.long_set h hi hs h2.1 h2.2
        · by_cases h36 : s[i] = 36
          · exact Xr.long_var h hi hs h36
          · by_cases h46 : s[i] = 46
            · exact Xr.long_fld h hi hs h46
            · exact Xr.long_name h hi hs h124 h2 h34 (fun q => q.elim h45 (fun q => by rw [hd] at q; cases q)) h46 h36
end Go.Proofs.YtjppobeomocgbaaGreatDoor

/-
  PLAIN: what the words of an action are like, and how they are written again.
-/
import Derived.Test.YtjppobeomocgbaaGreatDoorTOMemtoOWords
import Derived.Test.YtjppobeomocgbaaGreatDoorTMSametoMRow1
import Derived.Test.YtjppobeomocgbaaGreatDoorTMPlaintoISame
namespace Go.Proofs.YtjppobeomocgbaaGreatDoor
def Wx.good (x : Wo) : Prop :=
  (x.kind = 0 ∧ Wx.nm x.text ∧ x.path = [] ∧ x.num = 0) ∨ (x.kind = 1 ∧ x.text = [] ∧ Wx.nms x.path ∧ x.num = 0) ∨ (x.kind = 2 ∧ Wx.nm x.text ∧ Wx.nms x.path ∧ x.num = 0) ∨
  (x.kind = 3 ∧ x.text = [] ∧ x.path = [] ∧ -9007199254740991 ≤ x.num ∧ x.num ≤ 9007199254740991) ∨ (x.kind = 4 ∧ x.path = [] ∧ x.num = 0) ∨ (x.kind = 5 ∧ x.text = [] ∧ x.path = [] ∧ x.num = 0) ∨ (x.kind = 6 ∧ x.text = [] ∧ x.path = [] ∧ x.num = 0)
theorem Wx.good_path {x : Wo} (h : Wx.good x) : x.path.length ≤ 8 ∧ ∀ t ∈ x.path, t.length ≤ 32 := by
  have hn : ∀ p, Wx.nms p → p.length ≤ 8 ∧ ∀ t ∈ p, t.length ≤ 32 := fun p q => ⟨q.1, fun t ht => (q.2 t ht).2.2⟩
  have h0 : x.path = [] → x.path.length ≤ 8 ∧ ∀ t ∈ x.path, t.length ≤ 32 := fun e => by rw [e]; simp
  rcases h with h | h | h | h | h | h | h
  · exact h0 h.2.2.1
  · exact hn _ h.2.2.1
  · exact hn _ h.2.2.1
  · exact h0 h.2.2.1
  · exact h0 h.2.1
  · exact h0 h.2.2.1
  · exact h0 h.2.2.1
def Wx.esc (c : UInt8) : List UInt8 := if c = 34 ∨ c = 92 then [92, c] else if c = 10 then [92, 110] else if c = 9 then [92, 116] else [c]
def Wx.dots (p : List (List UInt8)) : List UInt8 := p.flatMap fun t => 46 :: t
/-- a word as it is written -/
def Wx.wr (x : Wo) : List UInt8 :=
  if x.kind = 5 then [124] else if x.kind = 6 then [58, 61]
  else if x.kind = 3 then (if x.num < 0 then 45 :: Lib.decDigits (-x.num).toNat else Lib.decDigits x.num.toNat)
  else if x.kind = 4 then 34 :: (x.text.flatMap Wx.esc ++ [34])
  else if x.kind = 0 then x.text
  else if x.kind = 2 then 36 :: (x.text ++ Wx.dots x.path)
  else if x.path = [] then [46] else Wx.dots x.path
theorem Wx.signs_take : ∀ (l : List UInt8) (f : Bool) (i : Nat), Wx.signs f (l.take (Wx.nend f i l - i)) = true := by
  intro l
  induction l with
  | nil => intro f i; simp [Wx.signs]
  | cons c l ih =>
    intro f i
    unfold Wx.nend
    split
    · rename_i hc
      have hg := (Wx.nend_ge l false (i + 1)).1
      rw [show Wx.nend false (i + 1) l - i = (Wx.nend false (i + 1) l - (i + 1)) + 1 by omega, List.take_succ_cons, Wx.signs, hc, ih]
      rfl
    · rw [Nat.sub_self, List.take_zero]; rfl
theorem Wx.name_is {S t : List UInt8} {i j : Nat} (h : Wx.name S i = some (t, j)) : Wx.nm t ∧ j = i + t.length ∧ (i ≤ S.length → j ≤ S.length) := by
  unfold Wx.name at h
  simp only at h
  have hg := Wx.nend_ge (S.drop i) true i
  have hs := Wx.signs_take (S.drop i) true i
  generalize Wx.nend true i (S.drop i) = q at *
  split at h
  · cases h
  · rename_i hq
    injection h with h
    injection h with h1 h2
    subst h2
    have hl : t.length = q - i := by
      rw [← h1, List.length_take]
      omega
    rw [h1] at hs
    have hd : (S.drop i).length = S.length - i := List.length_drop
    refine ⟨⟨hs, fun e => ?_, by omega⟩, by omega, fun hi => by omega⟩
    rw [e] at hl
    simp at hl
    omega
theorem Wx.names_is : ∀ (n : Nat) (S : List UInt8) (i : Nat) (out r : List (List UInt8)) (j : Nat), Wx.names n S i out = some (r, j) → (∀ t ∈ out, Wx.nm t) → (∀ t ∈ r, Wx.nm t) ∧ (Wx.dots r).length + i = (Wx.dots out).length + j ∧ (i ≤ S.length → j ≤ S.length) := by
  intro n
  induction n with
  | zero =>
    intro S i out r j h ho
    unfold Wx.names at h
    injection h with h
    injection h with h1 h2
    subst h1 h2
    exact ⟨ho, rfl, id⟩
  | succ n ih =>
    intro S i out r j h ho
    unfold Wx.names at h
    split at h
    · rename_i h46
      have hi : i < S.length := (List.getElem?_eq_some_iff.1 h46).1
      split at h
      · cases h
      · rename_i t q hq
        obtain ⟨a1, a2, a3⟩ := Wx.name_is hq
        obtain ⟨b1, b2, b3⟩ := ih S q (out ++ [t]) r j h (fun u hu => by
          rcases List.mem_append.1 hu with hu | hu
          · exact ho u hu
          · rw [List.mem_singleton.1 hu]; exact a1)
        refine ⟨b1, ?_, fun _ => b3 (a3 (by omega))⟩
        have : (Wx.dots (out ++ [t])).length = (Wx.dots out).length + (t.length + 1) := by simp [Wx.dots]
        omega
    · injection h with h
      injection h with h1 h2
      subst h1 h2
      exact ⟨ho, rfl, id⟩
theorem Wx.path_is {S : List UInt8} {i j : Nat} {r : List (List UInt8)} (h : Wx.path S i = some (r, j)) : Wx.nms r ∧ j = i + (Wx.dots r).length ∧ (i ≤ S.length → j ≤ S.length) := by
  unfold Wx.path at h
  split at h
  · cases h
  · rename_i p q hq
    split at h
    · cases h
    · injection h with h
      injection h with h1 h2
      subst h1 h2
      obtain ⟨b1, b2, b3⟩ := Wx.names_is _ _ _ _ _ _ hq (fun t ht => by simp at ht)
      refine ⟨⟨by omega, b1⟩, ?_, b3⟩
      simp [Wx.dots] at b2 ⊢
      omega
theorem Wx.esc_len (c : UInt8) : (Wx.esc c).length ≤ 2 := by
  unfold Wx.esc
  repeat' split
  all_goals simp
theorem Wx.escs_len : ∀ l : List UInt8, (l.flatMap Wx.esc).length ≤ 2 * l.length := by
  intro l
  induction l with
  | nil => simp
  | cons c l ih =>
    have := Wx.esc_len c
    simp only [List.flatMap_cons, List.length_append, List.length_cons]
    omega
theorem Wx.text_is : ∀ (l : List UInt8) (b : Bool) (i : Nat) (acc r : List UInt8) (j : Nat), Wx.text b i l acc = some (r, j) → r.length + i + 1 ≤ acc.length + j ∧ j ≤ i + l.length := by
  intro l
  induction l with
  | nil => intro b i acc r j h; cases b <;> simp [Wx.text] at h
  | cons c l ih =>
    intro b i acc r j h
    cases b with
    | true =>
      unfold Wx.text at h
      split at h
      · have := ih _ _ _ _ _ h
        simp at this ⊢
        omega
      split at h
      · have := ih _ _ _ _ _ h
        simp at this ⊢
        omega
      split at h
      · have := ih _ _ _ _ _ h
        simp at this ⊢
        omega
      · cases h
    | false =>
      unfold Wx.text at h
      split at h
      · injection h with h
        injection h with h1 h2
        subst h1 h2
        simp
        omega
      split at h
      · have := ih _ _ _ _ _ h
        simp at this ⊢
        omega
      · have := ih _ _ _ _ _ h
        simp at this ⊢
        omega
theorem Wx.digs_fin : ∀ (l : List UInt8) (i x : Nat), (Wx.digs i l x).2 ≤ i + l.length := by
  intro l
  induction l with
  | nil => intro i x; simp [Wx.digs]
  | cons c l ih =>
    intro i x
    unfold Wx.digs
    split
    · have := ih (i + 1) (if x ≤ 9007199254740991 then 10 * x + (c.toNat - 48) else x)
      simp
      omega
    · simp
theorem Wx.int_is {S : List UInt8} {i j : Nat} {x : Int} (h : Wx.int S i = some (x, j)) : -9007199254740991 ≤ x ∧ x ≤ 9007199254740991 ∧ (i ≤ S.length → j ≤ S.length) := by
  unfold Wx.int at h
  simp only at h
  generalize hn : decide (S[i]? = some 45) = neg at h
  generalize hp : (if neg = true then i + 1 else i) = p at h
  have hpi : i ≤ S.length → p ≤ S.length := by
    intro hi
    rw [← hp]
    split
    · rename_i q
      rw [q] at hn
      have := (List.getElem?_eq_some_iff.1 (of_decide_eq_true hn)).1
      omega
    · exact hi
  have hd := Wx.digs_fin (S.drop p) p 0
  rw [List.length_drop] at hd
  split at h
  · cases h
  · rename_i q
    injection h with h
    injection h with h1 h2
    subst h2
    refine ⟨?_, ?_, fun hi => by have := hpi hi; omega⟩ <;> (rw [← h1]; split <;> omega)
/-- a word's text and path are not longer than what was read; it is as a word is -/
theorem Wx.word_is {S : List UInt8} {i j : Nat} {x : Wo} (h : Wx.word S i = .ok (x, j)) (hi : i < S.length) : Wx.good x ∧ j ≤ S.length ∧ (Wx.wr x).length ≤ 2 * (j - i) + 17 := by
  unfold Wx.word at h
  simp only at h
  split at h
  · injection h with h
    injection h with h1 h2
    subst h1 h2
    exact ⟨.inr (.inr (.inr (.inr (.inr (.inl ⟨rfl, rfl, rfl, rfl⟩))))), by omega, by simp [Wx.wr]⟩
  split at h
  · rename_i hc
    injection h with h
    injection h with h1 h2
    subst h1 h2
    have := (List.getElem?_eq_some_iff.1 hc.2).1
    exact ⟨.inr (.inr (.inr (.inr (.inr (.inr ⟨rfl, rfl, rfl, rfl⟩))))), by omega, by simp [Wx.wr]⟩
  split at h
  · obtain ⟨⟨r, q⟩, h1, h2⟩ := Wx.or_ok h
    injection h2 with h2 h3
    subst h2 h3
    have h4 := Wx.text_is _ _ _ _ _ _ h1
    rw [List.length_drop] at h4
    have h5 := Wx.escs_len r
    simp only [List.length_nil] at h4
    refine ⟨.inr (.inr (.inr (.inr (.inl ⟨rfl, rfl, rfl⟩)))), by omega, ?_⟩
    show (34 :: (r.flatMap Wx.esc ++ [34])).length ≤ _
    rw [List.length_cons, List.length_append, List.length_singleton]
    omega
  split at h
  · obtain ⟨⟨r, q⟩, h1, h2⟩ := Wx.or_ok h
    injection h2 with h2 h3
    subst h2 h3
    obtain ⟨h4, h5, h6⟩ := Wx.int_is h1
    refine ⟨.inr (.inr (.inr (.inl ⟨rfl, rfl, rfl, h4, h5⟩))), h6 (by omega), ?_⟩
    have e1 := Dm.digits_len 15 (-r).toNat (by omega)
    have e2 := Dm.digits_len 15 r.toNat (by omega)
    show (if r < 0 then 45 :: Lib.decDigits (-r).toNat else Lib.decDigits r.toNat).length ≤ _
    split
    · rw [List.length_cons]; omega
    · omega
  split at h
  · split at h
    · obtain ⟨⟨r, q⟩, h1, h2⟩ := Wx.or_ok h
      injection h2 with h2 h3
      subst h2 h3
      obtain ⟨h4, h5, h6⟩ := Wx.path_is h1
      refine ⟨.inr (.inl ⟨rfl, rfl, h4, rfl⟩), h6 (by omega), ?_⟩
      show (if r = [] then [46] else Wx.dots r).length ≤ _
      split
      · simp
      · omega
    · injection h with h
      injection h with h1 h2
      subst h1 h2
      exact ⟨.inr (.inl ⟨rfl, rfl, ⟨by simp, fun t ht => by simp at ht⟩, rfl⟩), by omega, by simp [Wx.wr]⟩
  split at h
  · split at h
    · cases h
    · rename_i t q hq
      obtain ⟨⟨r, q2⟩, h1, h2⟩ := Wx.or_ok h
      injection h2 with h2 h3
      subst h2 h3
      obtain ⟨g4, g5, g6⟩ := Wx.name_is hq
      obtain ⟨h4, h5, h6⟩ := Wx.path_is h1
      refine ⟨.inr (.inr (.inl ⟨rfl, g4, h4, rfl⟩)), h6 (g6 (by omega)), ?_⟩
      simp [Wx.wr]
      omega
  · obtain ⟨⟨r, q⟩, h1, h2⟩ := Wx.or_ok h
    injection h2 with h2 h3
    subst h2 h3
    obtain ⟨g4, g5, g6⟩ := Wx.name_is h1
    refine ⟨.inl ⟨rfl, g4, rfl, rfl⟩, g6 (by omega), ?_⟩
    simp [Wx.wr]
    omega
def Wx.bulk (ws : List Wo) : Nat := (ws.map fun x => (Wx.wr x).length + 2).sum
theorem Wx.skip_ge : ∀ (l : List UInt8) (i : Nat), i ≤ Lx.skip i l := by
  intro l
  induction l with
  | nil => intro i; exact Nat.le_refl _
  | cons c l ih =>
    intro i
    unfold Lx.skip
    split
    · have := ih (i + 1); omega
    · exact Nat.le_refl _
theorem Wx.go_is : ∀ (n : Nat) (S : List UInt8) (i : Nat) (out ws : List Wo), Wx.go n S i out = .ok ws → (∀ x ∈ out, Wx.good x) → i ≤ S.length → (∀ x ∈ ws, Wx.good x) ∧ Wx.bulk ws ≤ Wx.bulk out + 21 * (S.length - i) ∧ ws.length ≤ out.length + (S.length - i) := by
  intro n
  induction n with
  | zero =>
    intro S i out ws h ho hi
    unfold Wx.go at h
    injection h with h
    subst h
    exact ⟨ho, by omega, by omega⟩
  | succ n ih =>
    intro S i out ws h ho hi
    unfold Wx.go at h
    simp only at h
    have hge := Wx.skip_ge (S.drop i) i
    generalize Lx.skip i (S.drop i) = p at *
    split at h
    · injection h with h
      subst h
      exact ⟨ho, by omega, by omega⟩
    · rename_i hp
      split at h
      · cases h
      · rename_i x j hx
        split at h
        · obtain ⟨a1, a2, a3⟩ := Wx.word_is hx (by omega)
          have a4 := Wx.word_lt hx
          obtain ⟨b1, b2, b3⟩ := ih S j (out ++ [x]) ws h (fun u hu => by
            rcases List.mem_append.1 hu with hu | hu
            · exact ho u hu
            · rw [List.mem_singleton.1 hu]; exact a1) a2
          have e : Wx.bulk (out ++ [x]) = Wx.bulk out + ((Wx.wr x).length + 2) := by simp [Wx.bulk]
          have e2 : (out ++ [x]).length = out.length + 1 := by simp
          exact ⟨b1, by omega, by omega⟩
        · cases h
theorem Wx.words_is (s : ByteArray) : (∀ x ∈ (Wx.words s).1, Wx.good x) ∧ Wx.bulk (Wx.words s).1 ≤ 21 * s.size ∧ (Wx.words s).1.length ≤ s.size := by
  unfold Wx.words
  split
  · exact ⟨fun x hx => by simp at hx, by simp [Wx.bulk], by simp⟩
  · rename_i ws h
    have hl : s.data.toList.length = s.size := Wk.len_data s
    obtain ⟨b1, b2, b3⟩ := Wx.go_is _ _ _ _ _ h (fun x hx => by simp at hx) (Nat.zero_le _)
    rw [hl] at b2 b3
    refine ⟨b1, ?_, ?_⟩
    · have : Wx.bulk [] = 0 := rfl
      simp only at b2 ⊢
      omega
    · simpa using b3
end Go.Proofs.YtjppobeomocgbaaGreatDoor
/-
  THE WALK of the reference's reader.pipe.
-/
namespace Go.Proofs.YtjppobeomocgbaaGreatDoor
open Go.RowKit
set_option maxRecDepth 100000 in
set_option maxHeartbeats 4000000 in
theorem Tr.pipe (k : Int) (t : ByteArray) (ws : List Wo) (v : Value) (R : Nat → Prop) (g i : Nat) (pv : Value) (w : World) (hA : Tr.At w g pv i 0) (h : Dt.Lies w R (Wi.rows (ws.map Wo.wi)) v) (hz : Tm.Fit ws) :
    Calls Tryz.prog 62 #[.pointer (some ⟨g, 0, none⟩), .agg #[.int .i64 k, .string t, .slice none 0 0, .slice none 0 0, .slice none 0 0], v] w fun e w' => ∃ a n d, e = .returned (.agg #[.int .i64 k, .string t, .slice a n d, .slice none 0 0, .slice none 0 0]) ∧ Tr.At w' g pv i (Pi.parse (ws.map Wo.wi)).2 ∧ Cu.Kept w w' g ∧ Dt.Lies w' (fun b => w.heap.size ≤ b ∧ b < w'.heap.size ∧ Rm.Ub w' b) (Cm.rows (Pi.parse (ws.map Wo.wi)).1) (.slice a n d) := by
  have hgw := hA.lt
  obtain ⟨W0, hW0⟩ : ∃ W0, (w.alloc (.cells #[.int .i64 k, .string t, .slice none 0 0, .slice none 0 0, .slice none 0 0] 37)).alloc (.cells #[.int .i64 0, .string ⟨#[]⟩, .slice none 0 0, .slice none 0 0, .slice none 0 0] 37) = W0 := ⟨_, rfl⟩
  have hb0 : Below w.heap.size w W0 := by rw [← hW0]; exact ((Below.refl _ w).alloc (Nat.le_refl _) _).alloc (by simp) _
  have hsz : W0.heap.size = w.heap.size + 1 + 1 := by rw [← hW0]; simp
  have HA0 := Lib.hid (hA.then hb0)
  have HX0 : Hid (Bs.Box W0 w.heap.size #[.int .i64 k, .string t, .slice none 0 0, .slice none 0 0, .slice none 0 0] 37) := by rw [← hW0]; exact (Bs.Box.new _ _ _ _ rfl).alloc _
  have HV0 : Hid (Bs.Box W0 (w.heap.size + 1) #[.int .i64 0, .string ⟨#[]⟩, .slice none 0 0, .slice none 0 0, .slice none 0 0] 37) := by rw [← hW0]; exact Bs.Box.new _ _ _ _ (by simp)
  have HB0 := Lib.hid hb0
  have pc := Pr.parse (ws.map Wo.wi) v _ W0 (h.later hb0) hz.wi.1 hz.wi.2
  obtain ⟨P, hP⟩ : ∃ P, Pi.parse (ws.map Wo.wi) = P := ⟨_, rfl⟩
  rw [hP] at pc ⊢
  obtain ⟨cs, E⟩ := P
  have HW := Lib.hid hW0
  clear hP hA h hz hb0 hW0
  dsimp only at pc ⊢
  obtain ⟨X, hX⟩ : ∃ X, w.heap.size = X := ⟨_, rfl⟩
  have hne : ¬ X + 1 = X := by omega
  have hne2 : ¬ X = X + 1 := by omega
  have hgX : ¬ g = X := by omega
  have hgX2 : ¬ X = g := by omega
  have hgV : ¬ g = X + 1 := by omega
  have hgV2 : ¬ X + 1 = g := by omega
  go_enter Tryz.func62, Tryz.ntmps62
  go_upto_region 1 with fail
  rw [HW.out]
  rw [hX] at HX0 HV0 HB0 hsz hgw
  try rw [hX]
  go_upto_if 15 with (go_at_call 94; refine pc.mono ?_; rintro e w1 ⟨v', rfl, hl, hb⟩; obtain ⟨a, d, rfl⟩ := Tr.form hl; have HL1 := Lib.hid hl; have HA1 := Lib.hid (HA0.out.then hb); have HX1 : Hid (Bs.Box w1 X _ _) := HX0.out.on hb HX0.out.lt; have HV1 : Hid (Bs.Box w1 (X + 1) _ _) := HV0.out.on hb HV0.out.lt; have HB1 := Lib.hid (HB0.out.trans (hb.mono (by omega))); have hs1 := hb.size; clear hb hl pc)
  have HK1 : Hid (Cu.Kept w w1 g) := ⟨HB1.out.os, HB1.out.tape, HB1.out.output, HB1.out.size, fun q hq _ => HB1.out.block q (by omega)⟩
  clear HB1 HA0 HX0 HV0 HB0 HW
  by_cases hE : E = 0
  · subst hE
    have HA2 := HA1
    have HX2 := HX1
    have HV2 := HV1
    have HL2 := HL1
    have HK2 := HK1
    clear HA1 HX1 HV1 HL1 HK1
    generalize w1 = w2 at *
    go_upto_region 4 with fail
    have hlo : X + 2 ≤ W0.heap.size := by omega
    obtain ⟨x0, x1, x2, x3, x4, xf⟩ := Tr.cells5 HX2.out
    go_upto_region 5 with fail
    have HX3 : Hid (Bs.Box (w2.setCell ⟨X, 2, none⟩ (.slice a cs.length d)) X #[.int .i64 k, .string t, .slice a cs.length d, .slice none 0 0, .slice none 0 0] 37) := HX2.out.set 2 _
    have HV3 : Hid (Bs.Box (w2.setCell ⟨X, 2, none⟩ (.slice a cs.length d)) (X + 1) _ _) := (Below.heap_setCell _ _ _ _ hne).trans HV2.out
    have HA3 : Hid (Tr.At (w2.setCell ⟨X, 2, none⟩ (.slice a cs.length d)) g pv i 0) := HA2.out.same (Below.heap_setCell _ _ _ _ hgX)
    have HL3 : Hid (Dt.Lies (w2.setCell ⟨X, 2, none⟩ (.slice a cs.length d)) (fun b => X + 2 ≤ b ∧ b < (w2.setCell ⟨X, 2, none⟩ (.slice a cs.length d)).heap.size ∧ Rm.Ub (w2.setCell ⟨X, 2, none⟩ (.slice a cs.length d)) b) (Cm.rows cs) (.slice a cs.length d)) := HL2.out.on fun b hb => by
      have e : (w2.setCell ⟨X, 2, none⟩ (.slice a cs.length d)).heap[b]? = w2.heap[b]? := Below.heap_setCell _ _ _ _ (by show b ≠ X; have := hb.1; omega)
      exact ⟨⟨by have := hb.1; omega, by simp; exact hb.2.1, hb.2.2.on e⟩, e⟩
    have HK3 : Hid (Cu.Kept w (w2.setCell ⟨X, 2, none⟩ (.slice a cs.length d)) g) := ⟨HK2.out.os, HK2.out.tape, HK2.out.output, by simp; exact HK2.out.size, fun q hq hg => (Below.heap_setCell _ _ _ _ (by show q ≠ X; omega)).trans (HK2.out.block q hq hg)⟩
    clear HX2 HV2 HA2 HL2 HK2 x0 x1 x2 x3 x4 xf
    generalize w2.setCell ⟨X, 2, none⟩ (.slice a cs.length d) = w3 at *
    obtain ⟨x0, x1, x2, x3, x4, xf⟩ := Tr.cells5 HX3.out
    obtain ⟨y0, y1, y2, y3, y4, yf⟩ := Tr.cells5 HV3.out
    go_wp2_with fail
    obtain ⟨W, hW, hX9, hq, hz, ho, ht, hu⟩ := Tr.five HV3.out (.int .i64 k) (.string t) (.slice a cs.length d) (.slice none 0 0) (.slice none 0 0)
    rw [hW]
    obtain ⟨z0, z1, z2, z3, z4, -⟩ := Tr.cells5 hX9
    refine bodyPost_ret (v := .agg #[.int .i64 k, .string t, .slice a cs.length d, .slice none 0 0, .slice none 0 0]) (by simp [results, Tryz.results62, go_sem, z0, z1, z2, z3, z4]) rfl ?_
    exact ⟨a, _, d, rfl, HA3.out.same (hq g hgV), Tr.kept_more HK3.out (fun q hq1 _ => hq q (by omega)) (by omega) ho ht hu, HL3.out.on fun b hb => by
      have e := hq b (by have := hb.1; omega)
      exact ⟨⟨by have := hb.1; omega, by rw [hz]; exact hb.2.1, hb.2.2.on e⟩, e⟩⟩
  · have hE2 : (E != 0) = true := bne_iff_ne.2 hE
    have c2 := HA1.out.c2
    have f := HA1.out.fz
    go_upto_region 4 with fail
    have HA2 := Lib.hid (HA1.out.set2 E)
    have HX2 : Hid (Bs.Box (w1.setCell ⟨g, 2, none⟩ (.int .i64 E)) X _ _) := (Below.heap_setCell _ _ _ _ hgX2).trans HX1.out
    have HV2 : Hid (Bs.Box (w1.setCell ⟨g, 2, none⟩ (.int .i64 E)) (X + 1) _ _) := (Below.heap_setCell _ _ _ _ hgV2).trans HV1.out
    have HK2 := Lib.hid (HK1.out.set 2 (.int .i64 E))
    have HL2 : Hid (Dt.Lies (w1.setCell ⟨g, 2, none⟩ (.int .i64 E)) (fun b => W0.heap.size ≤ b ∧ b < (w1.setCell ⟨g, 2, none⟩ (.int .i64 E)).heap.size ∧ Rm.Ub (w1.setCell ⟨g, 2, none⟩ (.int .i64 E)) b) (Cm.rows cs) (.slice a cs.length d)) := HL1.out.on fun b hb => by
      have e : (w1.setCell ⟨g, 2, none⟩ (.int .i64 E)).heap[b]? = w1.heap[b]? := Below.heap_setCell _ _ _ _ (by show b ≠ g; have := hb.1; omega)
      exact ⟨⟨hb.1, by simp; exact hb.2.1, hb.2.2.on e⟩, e⟩
    clear HA1 HX1 HV1 HL1 HK1 c2 f hs1
    generalize w1.setCell ⟨g, 2, none⟩ (.int .i64 E) = w2 at *
    have hlo : X + 2 ≤ W0.heap.size := by omega
    obtain ⟨x0, x1, x2, x3, x4, xf⟩ := Tr.cells5 HX2.out
    go_upto_region 5 with fail
    have HX3 : Hid (Bs.Box (w2.setCell ⟨X, 2, none⟩ (.slice a cs.length d)) X #[.int .i64 k, .string t, .slice a cs.length d, .slice none 0 0, .slice none 0 0] 37) := HX2.out.set 2 _
    have HV3 : Hid (Bs.Box (w2.setCell ⟨X, 2, none⟩ (.slice a cs.length d)) (X + 1) _ _) := (Below.heap_setCell _ _ _ _ hne).trans HV2.out
    have HA3 : Hid (Tr.At (w2.setCell ⟨X, 2, none⟩ (.slice a cs.length d)) g pv i E) := HA2.out.same (Below.heap_setCell _ _ _ _ hgX)
    have HL3 : Hid (Dt.Lies (w2.setCell ⟨X, 2, none⟩ (.slice a cs.length d)) (fun b => X + 2 ≤ b ∧ b < (w2.setCell ⟨X, 2, none⟩ (.slice a cs.length d)).heap.size ∧ Rm.Ub (w2.setCell ⟨X, 2, none⟩ (.slice a cs.length d)) b) (Cm.rows cs) (.slice a cs.length d)) := HL2.out.on fun b hb => by
      have e : (w2.setCell ⟨X, 2, none⟩ (.slice a cs.length d)).heap[b]? = w2.heap[b]? := Below.heap_setCell _ _ _ _ (by show b ≠ X; have := hb.1; omega)
      exact ⟨⟨by have := hb.1; omega, by simp; exact hb.2.1, hb.2.2.on e⟩, e⟩
    have HK3 : Hid (Cu.Kept w (w2.setCell ⟨X, 2, none⟩ (.slice a cs.length d)) g) := ⟨HK2.out.os, HK2.out.tape, HK2.out.output, by simp; exact HK2.out.size, fun q hq hg => (Below.heap_setCell _ _ _ _ (by show q ≠ X; omega)).trans (HK2.out.block q hq hg)⟩
    clear HX2 HV2 HA2 HL2 HK2 x0 x1 x2 x3 x4 xf
    generalize w2.setCell ⟨X, 2, none⟩ (.slice a cs.length d) = w3 at *
    obtain ⟨x0, x1, x2, x3, x4, xf⟩ := Tr.cells5 HX3.out
    obtain ⟨y0, y1, y2, y3, y4, yf⟩ := Tr.cells5 HV3.out
    go_wp2_with fail
    obtain ⟨W, hW, hX9, hq, hz, ho, ht, hu⟩ := Tr.five HV3.out (.int .i64 k) (.string t) (.slice a cs.length d) (.slice none 0 0) (.slice none 0 0)
    rw [hW]
    obtain ⟨z0, z1, z2, z3, z4, -⟩ := Tr.cells5 hX9
    refine bodyPost_ret (v := .agg #[.int .i64 k, .string t, .slice a cs.length d, .slice none 0 0, .slice none 0 0]) (by simp [results, Tryz.results62, go_sem, z0, z1, z2, z3, z4]) rfl ?_
    exact ⟨a, _, d, rfl, HA3.out.same (hq g hgV), Tr.kept_more HK3.out (fun q hq1 _ => hq q (by omega)) (by omega) ho ht hu, HL3.out.on fun b hb => by
      have e := hq b (by have := hb.1; omega)
      exact ⟨⟨by have := hb.1; omega, by rw [hz]; exact hb.2.1, hb.2.2.on e⟩, e⟩⟩
end Go.Proofs.YtjppobeomocgbaaGreatDoor

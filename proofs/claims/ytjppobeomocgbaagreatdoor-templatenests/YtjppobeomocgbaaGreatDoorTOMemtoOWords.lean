/-
  WORDS IN MEMORY: a row that lies somewhere; a row of one's own that grows.
-/
import Derived.Test.YtjppobeomocgbaaGreatDoorTOTexttoOPath
import Derived.Test.YtjppobeomocgbaaGreatDoorTONametoOInt
import Derived.Test.YtjppobeomocgbaaGreatDoorTOWord
namespace Go.Proofs.YtjppobeomocgbaaGreatDoor
open Go.RowKit
theorem Wm.info : (Tryz.prog.info? 91).map (fun i => (i.zero, i.size, i.bytes)) = some (some (.agg #[.int .i64 0, .string ⟨#[]⟩, .slice none 0 0, .int .i64 0]), 4, 56) := by kernel_rfl
def Wo.four (x : Wo) (pv : Value) : List Value := [.int .i64 (x.kind : Int), .string ⟨x.text.toArray⟩, pv, .int .i64 x.num]
/-- words lie in blocks of R -/
def Wo.Lies (w : World) (R : Nat → Prop) (ws : List Wo) (v : Value) : Prop :=
  ∃ a d, v = .slice a ws.length d ∧ ws.length ≤ d ∧ d ≤ maxLen ∧ ∀ i x, ws[i]? = some x → ∃ b o pv, a = some ⟨b, o, none⟩ ∧ R b ∧ w.cell? ⟨b, o + i * 4, none⟩ = some (.int .i64 (x.kind : Int)) ∧ w.cell? ⟨b, o + i * 4 + 1, none⟩ = some (.string ⟨x.text.toArray⟩) ∧ w.cell? ⟨b, o + i * 4 + 2, none⟩ = some pv ∧ w.cell? ⟨b, o + i * 4 + 3, none⟩ = some (.int .i64 x.num) ∧ St.Lies w R x.path pv
theorem Wo.Lies.on {w w' : World} {R R' : Nat → Prop} {ws : List Wo} {v : Value} (h : Wo.Lies w R ws v) (hR : ∀ k, R k → R' k ∧ w'.heap[k]? = w.heap[k]?) : Wo.Lies w' R' ws v := by
  obtain ⟨a, d, e, h1, h2, hx⟩ := h
  refine ⟨a, d, e, h1, h2, fun i t hi => ?_⟩
  obtain ⟨b, o, pv, ea, hb, c0, c1, c2, c3, hl⟩ := hx i t hi
  obtain ⟨hb', hw⟩ := hR b hb
  exact ⟨b, o, pv, ea, hb', (World.cell?_of_block (a := ⟨b, o + i * 4, none⟩) hw).trans c0, (World.cell?_of_block (a := ⟨b, o + i * 4 + 1, none⟩) hw).trans c1, (World.cell?_of_block (a := ⟨b, o + i * 4 + 2, none⟩) hw).trans c2, (World.cell?_of_block (a := ⟨b, o + i * 4 + 3, none⟩) hw).trans c3, hl.on hR⟩
theorem Wo.Lies.nil (w : World) (R : Nat → Prop) : Wo.Lies w R [] (.slice none 0 0) := ⟨none, 0, rfl, Nat.le_refl _, Nat.zero_le _, fun j x h => by simp at h⟩
/-- the i-th four cells are this word's -/
def Wo.Has (xs : List Value) (i : Nat) (x : Wo) (pv : Value) : Prop := ∀ r u, (Wo.four x pv)[r]? = some u → xs[i * 4 + r]? = some u
theorem Wo.four_lt {x : Wo} {pv u : Value} {r : Nat} (h : (Wo.four x pv)[r]? = some u) : r < 4 := (List.getElem?_eq_some_iff.1 h).1
/-- words in a row that grows; what their paths lie in is none of the row's block, nor block g -/
def Wo.Row (base g : Nat) (ws : List Wo) (w : World) (v : Value) : Prop :=
  ∃ xs, w.ownsRow base 91 4 v ws.length xs ∧ ∀ i x, ws[i]? = some x → ∃ pv, Wo.Has xs i x pv ∧ St.Lies w (fun k => base ≤ k ∧ k < w.heap.size ∧ v.ownBlock ≠ some k ∧ k ≠ g ∧ Rm.Ub w k) x.path pv
theorem Wo.Row.nil (base g : Nat) (w : World) : Wo.Row base g [] w (.slice none 0 0) := ⟨[], World.ownsRow_nil _ _ _ _, fun i x h => by simp at h⟩
theorem Wo.Row.form {base g : Nat} {ws : List Wo} {w : World} {v : Value} (h : Wo.Row base g ws w v) : ∃ a d, v = .slice a ws.length d := by
  obtain ⟨xs, ho, _⟩ := h
  rcases ho.2 with ⟨rfl, h0⟩ | ⟨gg, cap, cur, rfl, _⟩
  · exact ⟨none, 0, by rw [h0]⟩
  · exact ⟨_, _, rfl⟩
/-- what has turned at most is block g, none of the row's -/
theorem Wo.Row.on {base g : Nat} {ws : List Wo} {w w' : World} {v : Value} (h : Wo.Row base g ws w v) (hv : v.ownBlock ≠ some g) (hk : Cu.Kept w w' g) : Wo.Row base g ws w' v := by
  obtain ⟨xs, ho, hx⟩ := h
  refine ⟨xs, Rm.own_on ho (fun k hk' => hk.block k (ho.lt k hk').2 (fun e => hv (by rw [hk', e]))), fun i t hi => ?_⟩
  obtain ⟨pv, h0, hl⟩ := hx i t hi
  refine ⟨pv, h0, hl.on fun k hb => ?_⟩
  have e := hk.block k hb.2.1 hb.2.2.2.1
  exact ⟨⟨hb.1, Nat.lt_of_lt_of_le hb.2.1 hk.size, hb.2.2.1, hb.2.2.2.1, hb.2.2.2.2.on e⟩, e⟩
/-- a word more -/
theorem Wo.Row.push {base g : Nat} {ws : List Wo} {w w2 : World} {v v' pv : Value} {x : Wo} {ob : Obj} (h : Wo.Row base g ws w v) (hv : v.ownBlock ≠ some g) (hgw : g < w.heap.size) (hat : St.Lies w (fun k => base ≤ k ∧ k < w.heap.size ∧ v.ownBlock ≠ some k ∧ k ≠ g ∧ Rm.Ub w k) x.path pv)
    (hown : ∀ xs, w.ownsRow base 91 4 v ws.length xs → w2.ownsRow base 91 4 v' (ws.length + 1) (xs ++ Wo.four x pv))
    (hg : (w.alloc ob).grownBy w2 v.ownBlock) (hf : v'.ownBlock = v.ownBlock ∨ v'.ownBlock = some (w.heap.size + 1)) : Wo.Row base g (ws ++ [x]) w2 v' ∧ v'.ownBlock ≠ some g := by
  obtain ⟨xs, ho, hx⟩ := h
  have hl : xs.length = ws.length * 4 := ho.1
  have hsz : w.heap.size ≤ w2.heap.size := by have := hg.size; simp at this; omega
  have hold : ∀ k, k < w.heap.size → v.ownBlock ≠ some k → v'.ownBlock ≠ some k ∧ w2.heap[k]? = w.heap[k]? := fun k hk hne => ⟨(fun e => by
    rcases hf with q | q
    · rw [q] at e; exact hne e
    · rw [q] at e; have := Option.some.inj e; omega), (hg.block k (by simp; omega) (fun e => hne e.symm)).trans (Below.heap_alloc _ _ _ hk)⟩
  refine ⟨⟨xs ++ Wo.four x pv, by rw [List.length_append]; exact hown xs ho, fun i u hi => ?_⟩, (hold g hgw hv).1⟩
  by_cases hlt : i < ws.length
  · rw [List.getElem?_append_left hlt] at hi
    obtain ⟨pv1, x0, hl1⟩ := hx i u hi
    refine ⟨pv1, fun r q hr => ?_, hl1.on fun k hk => ?_⟩
    · have := Wo.four_lt hr
      rw [List.getElem?_append_left (by omega)]
      exact x0 r q hr
    · obtain ⟨q1, q2⟩ := hold k hk.2.1 hk.2.2.1
      exact ⟨⟨hk.1, by omega, q1, hk.2.2.2.1, hk.2.2.2.2.on q2⟩, q2⟩
  · have hi' : i = ws.length := by
      have := (List.getElem?_eq_some_iff.1 hi).1
      simp at this
      omega
    subst hi'
    have hu : u = x := by simpa using hi.symm
    subst hu
    refine ⟨pv, fun r q hr => ?_, hat.on fun k hk => ?_⟩
    · rw [List.getElem?_append_right (by omega), hl, Nat.add_sub_cancel_left]
      exact hr
    · obtain ⟨q1, q2⟩ := hold k hk.2.1 hk.2.2.1
      exact ⟨⟨hk.1, by omega, q1, hk.2.2.2.1, hk.2.2.2.2.on q2⟩, q2⟩
theorem Wo.Row.lies {base g : Nat} {ws : List Wo} {w : World} {v : Value} (h : Wo.Row base g ws w v) : Wo.Lies w (fun k => base ≤ k ∧ k < w.heap.size ∧ Rm.Ub w k) ws v := by
  obtain ⟨xs, ho, hx⟩ := h
  have hc := fun g hg => ho.cells (g := g) hg
  have hlt := ho.lt
  have hub : ∀ k, v.ownBlock = some k → Rm.Ub w k := fun k hk => Rm.Ub.own ho hk
  rcases ho.2 with ⟨rfl, hn⟩ | ⟨b, cap, cur, rfl, hbg, hg, hnc, hcm, hcs, htake⟩
  · have : ws = [] := List.eq_nil_of_length_eq_zero hn
    subst this
    exact Wo.Lies.nil _ _
  · refine ⟨some ⟨b, 0, none⟩, cap, rfl, hnc, hcm, fun i t hi => ?_⟩
    obtain ⟨pv, h0, hl⟩ := hx i t hi
    have c0 := hc b rfl _ _ (h0 0 _ rfl)
    have c1 := hc b rfl _ _ (h0 1 _ rfl)
    have c2 := hc b rfl _ _ (h0 2 _ rfl)
    have c3 := hc b rfl _ _ (h0 3 _ rfl)
    rw [Ro.add] at c0 c1 c2 c3
    exact ⟨b, 0, pv, rfl, ⟨(hlt b rfl).1, (hlt b rfl).2, hub b rfl⟩, c0, by rw [Nat.add_assoc]; exact c1, by rw [Nat.add_assoc]; exact c2, by rw [Nat.add_assoc]; exact c3, hl.on fun k hk => ⟨⟨hk.1, hk.2.1, hk.2.2.2.2⟩, rfl⟩⟩
theorem Wm.own_unique {w : World} {base : Nat} {e : TypeId} {size n : Nat} {v : Value} {xs ys : List Value} (h1 : w.ownsRow base e size v n xs) (h2 : w.ownsRow base e size v n ys) : xs = ys := by
  rcases h1.2 with ⟨rfl, rfl⟩ | ⟨g, cap, cur, rfl, _, hg, _, _, _, ht⟩
  · have e1 : xs = [] := List.eq_nil_of_length_eq_zero (by rw [h1.1, Nat.zero_mul])
    have e2 : ys = [] := List.eq_nil_of_length_eq_zero (by rw [h2.1, Nat.zero_mul])
    rw [e1, e2]
  · rcases h2.2 with ⟨q, _⟩ | ⟨g2, cap2, cur2, q, _, hg2, _, _, _, ht2⟩
    · cases q
    · injection q with q1 q2 q3
      injection q1 with q1
      injection q1 with q1
      subst q1
      rw [hg] at hg2
      injection hg2 with hg2
      injection hg2 with hg2
      subst hg2
      rw [← ht, ← ht2]
theorem Wo.cell4 (W : World) (x : Wo) (pv : Value) : ∀ (j : Nat) (u : Value), (Wo.four x pv)[j]? = some u → (W.alloc (.cells #[.int .i64 (x.kind : Int), .string ⟨x.text.toArray⟩, pv, .int .i64 x.num] 91)).cell? ⟨W.heap.size, j, none⟩ = some u := by
  intro j u hj
  unfold World.cell?
  rw [show (W.alloc (.cells #[.int .i64 (x.kind : Int), .string ⟨x.text.toArray⟩, pv, .int .i64 x.num] 91)).heap[W.heap.size]? = some _ from heap_alloc_new W _]
  simpa [Wo.four] using hj
theorem Wo.ones (x : Wo) (a : Option Addr) (n d : Nat) : ∀ u ∈ Wo.four x (.slice a n d), u.oneCell' = true := by
  intro u hu
  simp only [Wo.four, List.mem_cons, List.not_mem_nil, or_false] at hu
  rcases hu with rfl | rfl | rfl | rfl <;> rfl
end Go.Proofs.YtjppobeomocgbaaGreatDoor
/-
  PLAIN: a word has a byte at least.
-/
namespace Go.Proofs.YtjppobeomocgbaaGreatDoor
theorem Wx.name_lt {S t : List UInt8} {i j : Nat} (h : Wx.name S i = some (t, j)) : i < j := by
  unfold Wx.name at h
  simp only at h
  split at h
  · cases h
  · rename_i q
    injection h with h
    have h2 := congrArg Prod.snd h
    simp only at h2
    have := Wx.nend_ge (S.drop i) true i
    omega
theorem Wx.names_le : ∀ (n : Nat) (S : List UInt8) (i : Nat) (out r : List (List UInt8)) (j : Nat), Wx.names n S i out = some (r, j) → i ≤ j := by
  intro n
  induction n with
  | zero =>
    intro S i out r j h
    unfold Wx.names at h
    injection h with h
    have h2 := congrArg Prod.snd h
    simp only at h2
    omega
  | succ n ih =>
    intro S i out r j h
    unfold Wx.names at h
    split at h
    · split at h
      · cases h
      · rename_i t q hq
        have h1 := Wx.name_lt hq
        have h2 := ih _ _ _ _ _ h
        omega
    · injection h with h
      have h2 := congrArg Prod.snd h
      simp only at h2
      omega
theorem Wx.path_le {S : List UInt8} {i j : Nat} {r : List (List UInt8)} (h : Wx.path S i = some (r, j)) : i ≤ j := by
  unfold Wx.path at h
  split at h
  · cases h
  · rename_i p q hq
    split at h
    · cases h
    · injection h with h
      have h2 := congrArg Prod.snd h
      simp only at h2
      have := Wx.names_le _ _ _ _ _ _ hq
      omega
theorem Wx.path_lt {S : List UInt8} {i j : Nat} {r : List (List UInt8)} (hd : S[i]? = some 46) (h : Wx.path S i = some (r, j)) : i < j := by
  unfold Wx.path at h
  split at h
  · cases h
  · rename_i p q hq
    split at h
    · cases h
    · injection h with h
      have h2 := congrArg Prod.snd h
      simp only at h2
      unfold Wx.names at hq
      rw [if_pos hd] at hq
      split at hq
      · cases hq
      · rename_i t z hz
        have h3 := Wx.name_lt hz
        have h4 := Wx.names_le _ _ _ _ _ _ hq
        omega
theorem Wx.text_lt : ∀ (l : List UInt8) (b : Bool) (i : Nat) (acc r : List UInt8) (j : Nat), Wx.text b i l acc = some (r, j) → i < j := by
  intro l
  induction l with
  | nil => intro b i acc r j h; cases b <;> cases h
  | cons c l ih =>
    intro b i acc r j h
    cases b with
    | true =>
      unfold Wx.text at h
      repeat' split at h
      · have := ih _ _ _ _ _ h; omega
      · have := ih _ _ _ _ _ h; omega
      · have := ih _ _ _ _ _ h; omega
      · cases h
    | false =>
      unfold Wx.text at h
      repeat' split at h
      · injection h with h
        have h2 := congrArg Prod.snd h
        simp only at h2
        omega
      · have := ih _ _ _ _ _ h; omega
      · have := ih _ _ _ _ _ h; omega
theorem Wx.digs_le : ∀ (l : List UInt8) (i x : Nat), i ≤ (Wx.digs i l x).2 := by
  intro l
  induction l with
  | nil => intro i x; exact Nat.le_refl _
  | cons c l ih =>
    intro i x
    unfold Wx.digs
    split
    · have := ih (i + 1) (if x ≤ 9007199254740991 then 10 * x + (c.toNat - 48) else x)
      omega
    · exact Nat.le_refl _
theorem Wx.int_lt {S : List UInt8} {i j : Nat} {x : Int} (h : Wx.int S i = some (x, j)) : i < j := by
  unfold Wx.int at h
  simp only at h
  generalize hp : (if decide (S[i]? = some 45) = true then i + 1 else i) = p at h
  have hpi : i ≤ p := by rw [← hp]; split <;> omega
  have hd := Wx.digs_le (S.drop p) p 0
  split at h
  · cases h
  · rename_i q
    injection h with h
    have h2 := congrArg Prod.snd h
    simp only at h2
    omega
theorem Wx.or_ok {α : Type} {o : Option α} {e : Int} {β : Type} {f : α → β} {b : β} (h : (Wx.or o e).map f = .ok b) : ∃ a, o = some a ∧ f a = b := by
  cases o with
  | none => cases h
  | some a =>
    refine ⟨a, rfl, ?_⟩
    injection h
theorem Wx.word_lt {S : List UInt8} {i j : Nat} {x : Wo} (h : Wx.word S i = .ok (x, j)) : i < j := by
  unfold Wx.word at h
  simp only at h
  split at h
  · injection h with h
    have h2 := congrArg Prod.snd h
    simp only at h2
    omega
  split at h
  · injection h with h
    have h2 := congrArg Prod.snd h
    simp only at h2
    omega
  split at h
  · obtain ⟨⟨r, q⟩, h1, h2⟩ := Wx.or_ok h
    have h3 := congrArg Prod.snd h2
    have h4 := Wx.text_lt _ _ _ _ _ _ h1
    simp only at h3
    omega
  split at h
  · obtain ⟨⟨r, q⟩, h1, h2⟩ := Wx.or_ok h
    have h3 := congrArg Prod.snd h2
    have h4 := Wx.int_lt h1
    simp only at h3
    omega
  split at h
  · rename_i h46
    split at h
    · rename_i hc
      obtain ⟨⟨r, q⟩, h1, h2⟩ := Wx.or_ok h
      have h3 := congrArg Prod.snd h2
      have hd : S[i]? = some 46 := by
        have hl : i < S.length := by omega
        rw [List.getElem?_eq_getElem hl]
        rw [List.getD_eq_getElem?_getD, List.getElem?_eq_getElem hl] at h46
        exact congrArg some h46
      have h4 := Wx.path_lt hd h1
      simp only at h3
      omega
    · injection h with h
      have h2 := congrArg Prod.snd h
      simp only at h2
      omega
  split at h
  · split at h
    · cases h
    · rename_i t q hq
      obtain ⟨⟨r, z⟩, h1, h2⟩ := Wx.or_ok h
      have h3 := congrArg Prod.snd h2
      have h4 := Wx.path_le h1
      have h5 := Wx.name_lt hq
      simp only at h3
      omega
  · obtain ⟨⟨r, q⟩, h1, h2⟩ := Wx.or_ok h
    have h3 := congrArg Prod.snd h2
    have h4 := Wx.name_lt h1
    simp only at h3
    omega
end Go.Proofs.YtjppobeomocgbaaGreatDoor
/-
  THE WALK of stoleref13.Words.
-/
namespace Go.Proofs.YtjppobeomocgbaaGreatDoor
open Go.RowKit
def Wr.ans (G : Except Int (List Wo)) : List Wo × Int :=
  match G with
  | .error e => ([], e)
  | .ok ws => (ws, 0)
theorem Wx.skip_step {s : ByteArray} {i : Nat} (h : i < s.size) : Lx.skip i (s.data.toList.drop i) = if Lx.blank s[i] = true then Lx.skip (i + 1) (s.data.toList.drop (i + 1)) else i := by
  rw [Rl.drop s i h]
  rfl
theorem Wx.skip_end {s : ByteArray} {i : Nat} (h : s.size ≤ i) : Lx.skip i (s.data.toList.drop i) = i := by
  rw [Wx.drop_none h]
  rfl
theorem Wx.go_end {S : List UInt8} {i n p : Nat} {out : List Wo} (hn : 0 < n) (hp : Lx.skip i (S.drop i) = p) (h : S.length ≤ p) : Wx.go n S i out = .ok out := by
  obtain ⟨n, rfl⟩ : ∃ m, n = m + 1 := ⟨n - 1, by omega⟩
  unfold Wx.go
  simp only [hp, if_pos h]
theorem Wx.go_word {S : List UInt8} {i n p : Nat} {out : List Wo} (hn : 0 < n) (hp : Lx.skip i (S.drop i) = p) (h : p < S.length) : Wx.go n S i out = match Wx.word S p with | .error e => .error e | .ok (w, j) => if Wx.ends S w.kind j = true then Wx.go (n - 1) S j (out ++ [w]) else .error 1400 := by
  obtain ⟨n, rfl⟩ : ∃ m, n = m + 1 := ⟨n - 1, by omega⟩
  conv => lhs; unfold Wx.go
  simp only [hp, if_neg (Nat.not_le.2 h)]
  rfl
theorem Cu.Kept.below {B : Nat} {w wr w' : World} {g : Nat} (h : Cu.Kept wr w' g) (hb : Below B w wr) (hB : B ≤ g) (hw : B ≤ w.heap.size) : Below B w w' :=
  ⟨h.os.trans hb.os, h.tape.trans hb.tape, h.output.trans hb.output, Nat.le_trans hb.size h.size, fun k hk => (h.block k (by have := hb.size; omega) (by omega)).trans (hb.block k hk)⟩
set_option maxRecDepth 100000 in
set_option maxHeartbeats 4000000 in
theorem Lr.words (s : ByteArray) (w : World) (hs : s.size ≤ 1099511627776) : Calls Tryz.prog 36 #[.string s] w fun e w' => ∃ v, e = .returned (.tuple #[v, .int .i64 (Wx.words s).2]) ∧ Wo.Lies w' (fun k => w.heap.size ≤ k ∧ k < w'.heap.size ∧ Rm.Ub w' k) (Wx.words s).1 v ∧ Below w.heap.size w w' := by
  obtain ⟨G, hG⟩ : ∃ G, Wx.go (s.size + 1) s.data.toList 0 [] = G := ⟨_, rfl⟩
  have e : Wx.words s = Wr.ans G := by unfold Wx.words; rw [hG]; rfl
  rw [e]
  have HG := Lib.hid hG
  clear hG e
  go_enter Tryz.func36, Tryz.ntmps36
  go_wp2_with fail
  have HA0 : Hid (Cu.At (w.alloc (.cells #[.string s, .int .i64 0, .int .i64 0] 117)) w.heap.size s 0 0) := Bs.Box.new _ _ _ _ rfl
  have HB0 : Hid (Below w.heap.size w (w.alloc (.cells #[.string s, .int .i64 0, .int .i64 0] 117))) := (Below.refl _ _).alloc (Nat.le_refl _) _
  generalize w.alloc (.cells #[.string s, .int .i64 0, .int .i64 0] 117) = w1 at *
  obtain ⟨g, hg⟩ : ∃ g, w.heap.size = g := ⟨_, rfl⟩
  have HGG := Lib.hid hg
  rw [hg] at HA0 ⊢
  clear hg
  go_loopw [5] (fun v wr => ∃ (p n : Nat) (ws : List Wo), p ≤ s.size ∧ s.size < p + n ∧ ws.length ≤ p ∧ Hid (Cu.At wr g s p 0) ∧ Hid (Below w.heap.size w wr) ∧ Hid (Wo.Row w.heap.size g ws wr v) ∧ Hid (v.ownBlock ≠ some g) ∧ Hid (Wx.go n s.data.toList p ws = G)) (fun _ wr => s.size - (intOf ((wr.cell? ⟨g, 1, none⟩).getD undef)).toNat)
  case atStart => exact ⟨0, s.size + 1, [], Nat.zero_le _, by omega, Nat.zero_le _, HA0, HB0, Wo.Row.nil _ _ _, (by unfold Hid; intro q; cases q), HG⟩
  case round =>
    clear HA0 HB0 HG
    obtain ⟨p, n, ws, hp, hn, hws, HA, HB, HR, HV, HG⟩ := hrel
    have c1 := HA.out.c1
    have HM : Hid ((intOf ((wr.cell? ⟨g, 1, none⟩).getD undef)).toNat = p) := by unfold Hid; rw [c1]; rfl
    have hgw : w.heap.size ≤ g := by have := HGG.out; omega
    obtain ⟨q, hq⟩ : ∃ q, Lx.skip p (s.data.toList.drop p) = q := ⟨_, rfl⟩
    have hpq : p ≤ q ∧ q ≤ s.size := by
      have := Lx.skip_ge (s.data.toList.drop p) p
      rw [hq, List.length_drop, Wk.len_data] at this
      omega
    obtain ⟨hpq, hqs⟩ := hpq
    have HQ := Lib.hid hq
    clear hq
    generalize wr = wz at *
    go_upto_block 2 with fail
    go_cut [] from 10 to 95 (fun wx => Hid (Cu.At wx g s q 0) ∧ Hid (Cu.Kept wz wx g))
    case first =>
      clear HR HG HV HB HM
      go_wp2_with fail
      go_loopw [] (fun wx => ∃ j : Nat, p ≤ j ∧ j ≤ s.size ∧ Hid (Cu.At wx g s j 0) ∧ Hid (Cu.Kept wz wx g) ∧ Hid (Lx.skip p (s.data.toList.drop p) = Lx.skip j (s.data.toList.drop j))) (fun wx => s.size - (intOf ((wx.cell? ⟨g, 1, none⟩).getD undef)).toNat)
      case atStart => exact ⟨p, Nat.le_refl _, hp, HA, Cu.Kept.refl _ _, rfl⟩
      case round =>
        clear c1 HA
        obtain ⟨j, hpj, hj, HA, HK, HN⟩ := hrel
        have c0 := HA.out.c0
        have c1 := HA.out.c1
        have f := HA.out.fz
        have HM2 : Hid ((intOf ((wr.cell? ⟨g, 1, none⟩).getD undef)).toNat = j) := by unfold Hid; rw [c1]; rfl
        by_cases hlt : j < s.size
        · have d1 : decide ((j : Int) < (s.size : Int)) = true := decide_eq_true (by omega)
          have bl := fun u => Lr.blank s[j] u
          have HS := Lib.hid (HN.out.trans (Wx.skip_step hlt))
          cases hb : Lx.blank s[j] with
          | true =>
            rw [hb] at bl
            rw [if_pos hb] at HS
            have HA3 := Lib.hid (HA.out.set1 (j + 1))
            have HK3 := Lib.hid (HK.out.set 1 (.int .i64 ((j + 1 : Nat) : Int)))
            rw [show ((j + 1 : Nat) : Int) = (j : Int) + 1 by omega] at HA3 HK3
            clear hb HN HQ
            go_wp2_with (go_at_call 31; refine (bl _).mono ?_; rintro e w9 ⟨rfl, hw⟩; have hw := hw.symm; subst hw)
            go_roundw
            case rel => exact ⟨j + 1, by omega, by omega, HA3, HK3, HS⟩
            case measure => rw [HM2.out, HA3.out.c1]; simp [intOf]; omega
          | false =>
            rw [hb] at bl
            rw [if_neg (by rw [hb]; decide), HQ.out] at HS
            clear hb HN HQ
            go_wp2_with (go_at_call 31; refine (bl _).mono ?_; rintro e w9 ⟨rfl, hw⟩; have hw := hw.symm; subst hw)
            go_meet
            case rel => exact ⟨by rw [HS.out]; exact HA, HK⟩
        · have d1 : decide ((j : Int) < (s.size : Int)) = false := decide_eq_false (by omega)
          have HS := Lib.hid (HN.out.trans (Wx.skip_end (by omega)))
          rw [HQ.out] at HS
          clear HN HQ
          go_wp2_with fail
          go_meet
          case rel => exact ⟨by rw [HS.out]; exact HA, HK⟩
    case rest =>
      obtain ⟨HA2, HK2⟩ := hcut
      have HB2 := Lib.hid (HK2.out.below HB.out hgw (Nat.le_refl _))
      have HR2 := Lib.hid (HR.out.on HV.out HK2.out)
      clear HA HB HR HK2 c1
      generalize wc = wb at *
      have c0 := HA2.out.c0
      have c1 := HA2.out.c1
      by_cases hlt : q < s.size
      · have d1 : decide ((s.size : Int) ≤ (q : Int)) = false := decide_eq_false (by omega)
        have HGO := Lib.hid (Wx.go_word (n := n) (out := ws) (by omega) HQ.out (by rw [Wk.len_data]; exact hlt))
        rw [HG.out] at HGO
        have wd := Cu.word s q g wb HA2.out hlt (by omega)
        clear HG HQ
        go_upto_region 8 with (go_at_call 60; refine wd.mono ?_; rintro e w5 ⟨⟨k, t, v5, m, j, x, rfl, ⟨va, vn, vd, rfl⟩, hqj, hjs, a5, k5, hc5⟩⟩; have HA5 := Lib.hid a5; have HK5 := Lib.hid k5; have HC5 := Lib.hid hc5; clear a5 k5 hc5 wd)
        have HX6 : Hid (Bs.Box (w5.alloc (.cells #[.int .i64 (k : Int), .string t, .slice va vn vd, .int .i64 m] 91)) w5.heap.size #[.int .i64 (k : Int), .string t, .slice va vn vd, .int .i64 m] 91) := Bs.Box.new _ _ _ _ rfl
        have HK6 := Lib.hid (HK5.out.alloc (.cells #[.int .i64 (k : Int), .string t, .slice va vn vd, .int .i64 m] 91))
        have HA6 := Lib.hid (HA5.out.then ((Below.refl w5.heap.size w5).alloc (Nat.le_refl _) (.cells #[.int .i64 (k : Int), .string t, .slice va vn vd, .int .i64 m] 91)))
        have HL6 : Hid (∀ ts, St.Lies w5 (fun b => wb.heap.size ≤ b ∧ b < w5.heap.size ∧ Rm.Ub w5 b) ts (.slice va vn vd) → St.Lies (w5.alloc (.cells #[.int .i64 (k : Int), .string t, .slice va vn vd, .int .i64 m] 91)) (fun b => w.heap.size ≤ b ∧ b < (w5.alloc (.cells #[.int .i64 (k : Int), .string t, .slice va vn vd, .int .i64 m] 91)).heap.size ∧ Value.ownBlock u5 ≠ some b ∧ b ≠ g ∧ Rm.Ub (w5.alloc (.cells #[.int .i64 (k : Int), .string t, .slice va vn vd, .int .i64 m] 91)) b) ts (.slice va vn vd)) := fun ts hl => hl.on fun b hb => by
          have e := Below.heap_alloc w5 (.cells #[.int .i64 (k : Int), .string t, .slice va vn vd, .int .i64 m] 91) b hb.2.1
          have hgb := Bs.Box.lt HA2.out
          have hbs := HB2.out.size
          obtain ⟨xs, ho, _⟩ := HR2.out
          exact ⟨⟨by omega, by simp; omega, fun z => by have := (ho.lt b z).2; omega, by omega, hb.2.2.on e⟩, e⟩
        have hr6 : g < w5.heap.size := by have := Bs.Box.lt HA2.out; have := HK5.out.size; omega
        clear HA5 HK5 c0 c1
        generalize w5.alloc (.cells #[.int .i64 (k : Int), .string t, .slice va vn vd, .int .i64 m] 91) = w6 at *
        generalize w5.heap.size = r at *
        have HB6 := Lib.hid (HK6.out.below HB2.out hgw (Nat.le_refl _))
        have HR6 := Lib.hid (HR2.out.on HV.out HK6.out)
        clear HR2 HB2 HK6
        have c0 := HA6.out.c0
        have c1 := HA6.out.c1
        have c2 := HA6.out.c2
        have f := HA6.out.fz
        have x0 : w6.cell? ⟨r, 0, none⟩ = some (.int .i64 (k : Int)) := HX6.out.cell 0 rfl
        have x1 : w6.cell? ⟨r, 1, none⟩ = some (.string t) := HX6.out.cell 1 rfl
        have x2 : w6.cell? ⟨r, 2, none⟩ = some (.slice va vn vd) := HX6.out.cell 2 rfl
        have x3 : w6.cell? ⟨r, 3, none⟩ = some (.int .i64 m) := HX6.out.cell 3 rfl
        rcases HC5.out with ⟨rfl, ts, h5, l5⟩ | ⟨hx, h5⟩
        · have HLL := Lib.hid (HL6.out ts l5)
          have HGE : Hid (G = if Wx.ends s.data.toList k j = true then Wx.go (n - 1) s.data.toList j (ws ++ [⟨k, t.data.toList, ts, m⟩]) else .error 1400) := by unfold Hid; rw [HGO.out, h5]
          have hj1 : q < j := Wx.word_lt h5
          clear HL6 HC5 HGO h5 l5
          obtain ⟨E, hE⟩ : ∃ E, Wx.ends s.data.toList k j = E := ⟨_, rfl⟩
          rw [hE] at HGE
          have HE := Lib.hid hE
          clear hE
          go_cut [80] from 10 to 95 (fun cv wx => cv = .bool (!E) ∧ wx = w6)
          case first =>
            have hE := HE.out
            clear HE HGE HLL HR6 HB6 HX6 HM
            unfold Wx.ends at hE
            by_cases hk5 : k = 5
            · have tk : ((k : Int) == 5) = true := beq_iff_eq.2 (by omega)
              have tkb : ((k : Int) != 5) = false := by rw [bne, tk]; rfl
              have hE2 : true = E := by rw [← hE, decide_eq_true hk5]; rfl
              subst hE2
              clear hE hk5
              go_wp2_with fail
              go_meet
              case rel => exact ⟨rfl, by first | rfl | trivial⟩
            · have tk : ((k : Int) == 5) = false := beq_eq_false_iff_ne.2 (by omega)
              have tkb : ((k : Int) != 5) = true := by rw [bne, tk]; rfl
              rw [decide_eq_false hk5, Bool.false_or, Wk.len_data] at hE
              clear hk5
              by_cases hlj : j < s.size
              · have d2 : decide ((j : Int) < (s.size : Int)) = true := decide_eq_true (by omega)
                rw [decide_eq_false (by omega), Bool.false_or, show s.data.toList.getD j 0 = s[j] by rw [List.getD_eq_getElem?_getD, Wx.get hlj]; rfl] at hE
                have bl := fun u => Lr.blank s[j] u
                cases hb : Lx.blank s[j] with
                | true =>
                  rw [hb] at bl hE
                  have hE2 : true = E := by rw [← hE]; rfl
                  subst hE2
                  clear hE hb
                  go_wp2_with (go_at_call 31; refine (bl _).mono ?_; rintro e w9 ⟨rfl, hw⟩; have hw := hw.symm; subst hw)
                  go_meet
                  case rel => exact ⟨rfl, by first | rfl | trivial⟩
                | false =>
                  rw [hb] at bl hE
                  by_cases h124 : s[j] = 124
                  · have t124 : ((s[j].toNat : Int) == 124) = true := Tp.eq_true (d := 124) h124
                    have t124b : ((s[j].toNat : Int) != 124) = false := by rw [bne, t124]; rfl
                    have hE2 : true = E := by rw [← hE, decide_eq_true h124]; rfl
                    subst hE2
                    clear hE hb h124
                    go_wp2_with (go_at_call 31; refine (bl _).mono ?_; rintro e w9 ⟨rfl, hw⟩; have hw := hw.symm; subst hw)
                    go_meet
                    case rel => exact ⟨rfl, by first | rfl | trivial⟩
                  · have t124 : ((s[j].toNat : Int) == 124) = false := Tp.eq_false (d := 124) h124
                    have t124b : ((s[j].toNat : Int) != 124) = true := by rw [bne, t124]; rfl
                    have hE2 : false = E := by rw [← hE, decide_eq_false h124]; rfl
                    subst hE2
                    clear hE hb h124
                    go_wp2_with (go_at_call 31; refine (bl _).mono ?_; rintro e w9 ⟨rfl, hw⟩; have hw := hw.symm; subst hw)
                    go_meet
                    case rel => exact ⟨rfl, by first | rfl | trivial⟩
              · have d2 : decide ((j : Int) < (s.size : Int)) = false := decide_eq_false (by omega)
                have hE2 : true = E := by rw [← hE, decide_eq_true (by omega)]; rfl
                subst hE2
                clear hE
                go_wp2_with fail
                go_meet
                case rel => exact ⟨rfl, by first | rfl | trivial⟩
          case rest =>
            obtain ⟨rfl, hw⟩ := hcut
            have hw := hw.symm
            subst hw
            cases E with
            | true =>
              have HG2 : Hid (Wx.go (n - 1) s.data.toList j (ws ++ [⟨k, t.data.toList, ts, m⟩]) = G) := by unfold Hid; rw [HGE.out, if_pos rfl]
              clear HGE HE
              obtain ⟨xs, ho, hxs⟩ := id HR6.out
              have hgw6 := Bs.Box.lt HA6.out
              clear hxs
              go_wp2_with (at_builtin; refine Ro.push rfl _ _ 79 91 4 56 _ rfl Tryz.underlying79 Wm.info rfl (by decide) _ rfl (ho.alloc _) w6.heap.size (Wo.four ⟨k, t.data.toList, ts, m⟩ (.slice va vn vd)) rfl (Wo.cell4 w6 ⟨k, t.data.toList, ts, m⟩ (.slice va vn vd)) rfl (Wo.ones _ _ _ _) (by unfold maxLen; omega) (by omega) (by have := HB6.out.size; simp; omega) ?_)
              intro v8 w8 R8 hg8 hf8
              have hup := Wo.Row.push (x := ⟨k, t.data.toList, ts, m⟩) HR6.out HV.out hgw6 HLL.out (fun ys hy => by
                have e := Wm.own_unique hy ho
                rw [e]
                exact R8) hg8 hf8
              have HR8 := Lib.hid hup.1
              have HV8 := Lib.hid hup.2
              have HB8 : Hid (Below w.heap.size w w8) := Lib.hid ((HB6.out.alloc HB6.out.size _).grown hg8 (by have := HB6.out.size; simp; omega) (fun k hk => (ho.lt k hk).1))
              have HA8 : Hid (Cu.At w8 g s j 0) := (hg8.block g (by simp; omega) (fun e => HV.out e.symm)).trans ((Below.heap_alloc _ _ _ hgw6).trans HA6.out)
              clear hup R8 hg8 hf8 HR6 HB6 HA6
              go_wp2_with fail
              go_roundw
              case rel => exact ⟨j, n - 1, ws ++ [⟨k, t.data.toList, ts, m⟩], hjs, by omega, by simp; omega, HA8, HB8, HR8, HV8, HG2⟩
              case measure => rw [HM.out, HA8.out.c1]; simp [intOf]; omega
            | false =>
              have hG : .error 1400 = G := by rw [HGE.out, if_neg (by decide)]
              subst hG
              have fl := fun u z => Cu.fail 1400 g s j u z
              clear HGE HE HLL HR6 HM
              go_upto_region 11 with (go_at_call 61; refine (fl _ HA6.out).mono ?_; rintro e w7 ⟨rfl, a7, k7⟩; have HA7 := Lib.hid a7; have HB7 := Lib.hid (k7.below HB6.out hgw (Nat.le_refl _)); clear a7 k7 fl c0 c1 c2 f x0 x1 x2 x3; have c2 := HA7.out.c2)
              go_quiet (fail)
              go_wp2
              go_ret2
              exact ⟨_, rfl, Wo.Lies.nil _ _, ⟨HB7.out.os, HB7.out.tape, HB7.out.output, HB7.out.size, HB7.out.block⟩⟩
        · have hG : .error x = G := by rw [HGO.out, h5]
          subst hG
          clear HL6 HC5 HGO h5 HR6 HM
          go_upto_region 11 with fail
          go_quiet (fail)
          go_wp2
          go_ret2
          exact ⟨_, rfl, Wo.Lies.nil _ _, ⟨HB6.out.os, HB6.out.tape, HB6.out.output, HB6.out.size, HB6.out.block⟩⟩
      · have d1 : decide ((s.size : Int) ≤ (q : Int)) = true := decide_eq_true (by omega)
        have hG : .ok ws = G := by rw [← HG.out, Wx.go_end (by omega) HQ.out (by rw [Wk.len_data]; omega)]
        subst hG
        have HL := Lib.hid HR2.out.lies
        clear HG HQ
        go_wp2_with fail
        go_ret2
        exact ⟨_, rfl, HL.out, HB2.out⟩
end Go.Proofs.YtjppobeomocgbaaGreatDoor

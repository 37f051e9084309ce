/-
  THE WALK of readPiece; how long the rows are.
-/
import Derived.Test.YtjppobeomocgbaaGreatDoorTNAct
import Derived.Test.YtjppobeomocgbaaGreatDoorTOProg
import Derived.Test.YtjppobeomocgbaaGreatDoorTMNesttoNPlain
namespace Go.Proofs.YtjppobeomocgbaaGreatDoor
open Go.RowKit
theorem Mz.put_few {m : Nat} {s : Mz.St} (h : s.Few m) (x : It) : (s.put x).Few (m + 1) := by
  have hc := h.cur
  obtain ⟨is, op⟩ := s
  unfold Mz.St.put
  rcases Mz.op_case ⟨is, op⟩ with e | ⟨l, b, e⟩
  · simp only at e
    subst e
    exact ⟨by simp [Mz.St.set]; exact hc, fun b hb => by simp [Mz.St.set] at hb⟩
  · simp only at e
    subst e
    have hcl : ∀ l' : List It, Mz.St.set ⟨is, l ++ [b]⟩ l' = ⟨is, l ++ [b.set l']⟩ := fun l' => by simp [Mz.St.set]
    rw [hcl]
    refine ⟨Nat.le_succ_of_le h.1, fun c hb => ?_⟩
    rcases List.mem_append.1 hb with hb | hb
    · have := h.2 c (List.mem_append_left _ hb)
      omega
    · simp only [List.mem_singleton] at hb
      subst hb
      have h2 := h.2 b (by simp)
      unfold Mz.Bk.set
      split
      · exact ⟨by show b.thn.length ≤ _; omega, by simp; exact hc⟩
      · exact ⟨by simp; exact hc, by show b.els.length ≤ _; omega⟩
theorem Mz.asked_few {m : Nat} {s t : Mz.St} (h : s.Few m) {k : Int} {tx : List UInt8} {ws : List Wo} (e : s.asked k tx ws = .ok t) : t.Few (m + 1) := by
  unfold Mz.St.asked at e
  dsimp only at e
  split at e
  · injection e with e
    subst e
    exact Mz.put_few h _
  · cases e
theorem Mz.block_few {m : Nat} {s t : Mz.St} (h : s.Few m) {k : Int} {ws : List Wo} (e : s.block k ws = .ok t) : t.Few (m + 1) := by
  unfold Mz.St.block at e
  dsimp only at e
  split at e
  · cases e
  · split at e
    · cases e
    · injection e with e
      subst e
      refine ⟨Nat.le_succ_of_le h.1, fun c hb => ?_⟩
      rcases List.mem_append.1 hb with hb | hb
      · have := h.2 c hb
        omega
      · simp only [List.mem_singleton] at hb
        subst hb
        exact ⟨Nat.zero_le _, Nat.zero_le _⟩
theorem Mz.leave_few {m : Nat} {s t : Mz.St} (h : s.Few m) {k : Int} (e : s.leave k = .ok t) : t.Few (m + 1) := by
  unfold Mz.St.leave at e
  split at e
  · injection e with e
    subst e
    exact Mz.put_few h _
  · cases e
theorem Mz.turn_few {m : Nat} {s t : Mz.St} (h : s.Few m) (e : s.turn = .ok t) : t.Few (m + 1) := by
  obtain ⟨is, op⟩ := s
  rcases Mz.op_case ⟨is, op⟩ with q | ⟨l, b, q⟩
  · simp only at q
    subst q
    cases e
  · simp only at q
    subst q
    simp only [Mz.St.turn, List.getLast?_concat, List.dropLast_concat] at e
    split at e
    · cases e
    · injection e with e
      subst e
      refine ⟨Nat.le_succ_of_le h.1, fun c hb => ?_⟩
      rcases List.mem_append.1 hb with hb | hb
      · have := h.2 c (List.mem_append_left _ hb)
        omega
      · simp only [List.mem_singleton] at hb
        subst hb
        have := h.2 b (by simp)
        exact ⟨Nat.le_succ_of_le this.1, Nat.le_succ_of_le this.2⟩
theorem Mz.end_few {m : Nat} {s t : Mz.St} (h : s.Few m) (e : s.end = .ok t) : t.Few (m + 1) := by
  obtain ⟨is, op⟩ := s
  rcases Mz.op_case ⟨is, op⟩ with q | ⟨l, b, q⟩
  · simp only at q
    subst q
    cases e
  · simp only at q
    subst q
    simp only [Mz.St.end, List.getLast?_concat, List.dropLast_concat] at e
    injection e with e
    subst e
    exact Mz.put_few (s := ⟨is, l⟩) ⟨h.1, fun c hb => h.2 c (List.mem_append_left _ hb)⟩ _
theorem Mz.mark_few {m : Nat} {s t : Mz.St} (h : s.Few m) {w : List UInt8} (e : s.mark w = .ok t) : t.Few (m + 1) := by
  unfold Mz.St.mark at e
  split at e
  · exact Mz.turn_few h e
  · split at e
    · exact Mz.end_few h e
    · split at e
      · exact Mz.leave_few h e
      · exact Mz.leave_few h e
theorem Mz.call_few {m : Nat} {s t : Mz.St} (h : s.Few m) {ws : List Wo} (e : s.call ws = .ok t) : t.Few (m + 1) := by
  unfold Mz.St.call at e
  split at e
  · cases e
  · split at e
    · cases e
    · split at e
      · injection e with e
        subst e
        exact Mz.put_few h _
      · exact Mz.asked_few h e
theorem Mz.action_few {m : Nat} {s t : Mz.St} (h : s.Few m) {ws : List Wo} (e : s.action ws = .ok t) : t.Few (m + 1) := by
  unfold Mz.St.action at e
  dsimp only at e
  split at e
  · exact Mz.block_few h e
  · split at e
    · exact Mz.block_few h e
    · split at e
      · exact Mz.block_few h e
      · split at e
        · split at e
          · cases e
          · exact Mz.mark_few h e
        · split at e
          · exact Mz.call_few h e
          · split at e
            · split at e
              · exact Mz.asked_few h e
              · exact Mz.asked_few h e
            · exact Mz.asked_few h e
theorem Mz.piece_few {m : Nat} {s t : Mz.St} (h : s.Few m) {p : Pc} (e : s.piece p = .ok t) : t.Few (m + 1) := by
  unfold Mz.St.piece at e
  split at e
  · injection e with e
    subst e
    exact Mz.put_few h _
  · dsimp only at e
    split at e
    · cases e
    · split at e
      · cases e
      · exact Mz.action_few h e
set_option maxRecDepth 100000 in
set_option maxHeartbeats 8000000 in
theorem Ml.piece {base g : Nat} {w : World} {s : Mz.St} (p : Pc) (h : Ml.Is base w g s) (hlo : base ≤ w.heap.size) (hf : s.Few 1048576) (hp : p.act = true → p.text.length ≤ 256) :
    Calls Tryz.prog 17 #[.pointer (some ⟨g, 0, none⟩), .agg #[.bool p.act, .string ⟨p.text.toArray⟩, .int .i64 (p.loc : Int)]] w (Ml.Out base w g (s.piece p)) := by
  obtain ⟨T, hT⟩ : ∃ T : ByteArray, (⟨p.text.toArray⟩ : ByteArray) = T := ⟨_, rfl⟩
  have hTl : T.data.toList = p.text := by rw [← hT]
  rw [hT]
  have HX : Hid (Bs.Box (w.alloc (.cells #[.bool p.act, .string T, .int .i64 (p.loc : Int)] 58)) w.heap.size #[.bool p.act, .string T, .int .i64 (p.loc : Int)] 58) := Bs.Box.new w _ _ _ rfl
  have HB1 : Hid (Below w.heap.size w (w.alloc (.cells #[.bool p.act, .string T, .int .i64 (p.loc : Int)] 58))) := (Below.refl _ _).alloc (Nat.le_refl _) _
  unfold Mz.St.piece
  cases ha : p.act with
  | false =>
    rw [ha] at HX HB1
    rw [if_pos rfl]
    have HH : Hid (∀ u : World, Below w.heap.size w u → Ml.Has base u g s (It.dt (.mk 0 p.text [] [] [])) [.int .i64 0, .string T, .slice none 0 0, .slice none 0 0, .slice none 0 0]) := fun u hb => h.has hb hlo (It.fits hTl (Cm.nil _ _) (It.nil _ _) (It.nil _ _))
    have hcur := hf.cur
    clear h hf hp
    go_enter Tryz.func17, Tryz.ntmps17
    go_upto_region 2 with fail
    have x1 := HX.out.cell 1 rfl
    have HOS : Hid ((w.alloc (.cells #[.bool false, .string T, .int .i64 (p.loc : Int)] 58)).heap.size = w.heap.size + 1) := by show _ = _; simp
    clear HX
    generalize w.alloc (.cells #[.bool false, .string T, .int .i64 (p.loc : Int)] 58) = w1 at *
    have HB2 : Hid (Below w.heap.size w w1.drew) := HB1.out.drew
    have hh := HH.out _ HB2.out
    have hz2 : base ≤ w1.drew.heap.size := Nat.le_trans hlo HB2.out.size
    have pt := Ml.put hh hz2 hcur
    clear hh hz2 HH HB1 HOS
    generalize w.heap.size = ub at *
    go_region_with (go_at_call 26; refine pt.mono ?_; rintro e w4 ⟨rfl, i4, b4⟩; have HI4 := Lib.hid i4; have HB5 := Lib.hid ((HB2.out.mono hlo).trans b4); clear i4 b4)
    all_goals go_wp2
    all_goals go_ret
    all_goals exact .fine HB5.out HI4.out
  | true =>
    rw [ha] at HX HB1
    have hpl := hp ha
    have hsz : T.size ≤ 256 := by rw [← Wk.len_data, hTl]; exact hpl
    rw [if_neg (by decide)]
    dsimp only
    have wc := fun u => Op.words T u ⟨trivial⟩ (by omega)
    have hft := Mz.fits T hsz
    rw [hT]
    generalize Wx.words T = r at *
    obtain ⟨ws, E⟩ := r
    dsimp only at wc hft ⊢
    by_cases hE : E = 0
    · subst hE
      rw [if_neg (fun q => q rfl)]
      by_cases hw : ws = []
      · rw [if_pos hw]
        subst hw
        go_enter Tryz.func17, Tryz.ntmps17
        go_wp2_with (go_at_call 27; refine (wc _).mono ?_; rintro e w2 ⟨v', rfl, hl, hb⟩; obtain ⟨va, vd, rfl, -⟩ := hl; have HB2 := Lib.hid (HB1.out.trans (hb.mono HB1.out.size)); clear hb wc)
        go_ret
        exact .err (HB2.out.mono hlo) (by decide)
      · rw [if_neg hw]
        have HA : Hid (∀ (u : World) (v : Value) (R : Nat → Prop), Below w.heap.size w u → Wo.Lies u R ws v → Calls Tryz.prog 28 #[.pointer (some ⟨g, 0, none⟩), v] u (Ml.Out base u g (s.action ws))) := fun u v R hb hl => Ml.action (h.on hb) (Nat.le_trans hlo hb.size) hf hl hft hw
        have gl : ((ws.length : Int) == 0) = false := beq_eq_false_iff_ne.2 (by have := List.length_pos_iff.2 hw; omega)
        generalize s.action ws = Z at *
        clear h hf hft hw
        go_enter Tryz.func17, Tryz.ntmps17
        go_wp2_with (first | (go_at_call 27; refine (wc _).mono ?_; rintro e w2 ⟨v', rfl, hl, hb⟩; obtain ⟨va, vd, rfl, -⟩ := id hl; have HL2 := Lib.hid hl; have HB2 := Lib.hid (HB1.out.trans (hb.mono HB1.out.size)); clear hb hl wc) | (go_at_call 28; refine (HA.out _ _ _ HB2.out HL2.out).mono ?_; rintro e w4 ⟨b4, rfl, n4, i4⟩; have HI4 := Lib.hid i4; have HN4 := Lib.hid n4; have HB5 := Lib.hid ((HB2.out.mono hlo).trans b4); clear i4 b4 n4))
        go_ret
        exact .same HB5.out HN4.out HI4.out
    · have hE2 : (E != 0) = true := bne_iff_ne.2 hE
      rw [if_pos hE]
      have HE := Lib.hid hE
      clear hE
      go_enter Tryz.func17, Tryz.ntmps17
      go_wp2_with (go_at_call 27; refine (wc _).mono ?_; rintro e w2 ⟨v', rfl, hl, hb⟩; have HB2 := Lib.hid (HB1.out.trans (hb.mono HB1.out.size)); clear hb hl wc)
      go_ret
      exact .err (HB2.out.mono hlo) HE.out
end Go.Proofs.YtjppobeomocgbaaGreatDoor
/-
  PLAIN: the stack of blocks gives what the document's rows give.
-/
namespace Go.Proofs.YtjppobeomocgbaaGreatDoor
def Mz.next (r : Except Int Mz.St) (ps : List Pc) : Except Int Mz.St :=
  match r with
  | .error e => .error e
  | .ok t => Mz.go ps t
theorem Mz.go_cons (p : Pc) (ps : List Pc) (s : Mz.St) : Mz.go (p :: ps) s = Mz.next (s.piece p) ps := rfl
def Mz.Says (ps : List Pc) (G : Except Int (List It × Nat × Nat)) (i : Nat) (R : Except Int Mz.St) (s : Mz.St) : Prop :=
  match G with
  | .error e => Mz.fin R = ([], e)
  | .ok (out, tag, j) => i ≤ j ∧ j ≤ ps.length ∧ (tag = 0 ∧ R = .ok (s.set out) ∨ tag = 1 ∧ R = Mz.next (s.set out).turn (ps.drop j) ∨ tag = 2 ∧ R = Mz.next (s.set out).end (ps.drop j))
theorem Mz.Says.from_ {ps : List Pc} {G : Except Int (List It × Nat × Nat)} {i i2 : Nat} {R : Except Int Mz.St} {s : Mz.St} {m : List It} (h : Mz.Says ps G i2 R (s.set m)) (hi : i ≤ i2) : Mz.Says ps G i R s := by
  unfold Mz.Says at h ⊢
  split
  · exact h
  · obtain ⟨h1, h2, h3⟩ := h
    simp only [Mz.St.set_set] at h3
    exact ⟨Nat.le_trans hi h1, h2, h3⟩
def Mz.Item (ps : List Pc) (G : Except Int (It × Nat)) (i : Nat) (R : Except Int Mz.St) (s : Mz.St) : Prop :=
  match G with
  | .error e => Mz.fin R = ([], e)
  | .ok (x, j) => i ≤ j ∧ j ≤ ps.length ∧ R = Mz.go (ps.drop j) (s.put x)
theorem Mz.fin_open {s : Mz.St} (h : s.op ≠ []) : Mz.fin (.ok s) = ([], 1600) := if_neg h
theorem Mz.asked (ps : List Pc) (s : Mz.St) (k : Int) (t : List UInt8) (ws : List Wo) (i : Nat) (hi : i ≤ ps.length) : Mz.Item ps ((Tm.pipe k t ws).map fun y => (y, i)) i (Mz.next (s.asked k t ws) (ps.drop i)) s := by
  unfold Tm.pipe Mz.St.asked
  dsimp only
  by_cases h : (Pi.parse (ws.map Wo.wi)).2 = 0
  · rw [if_pos h, if_pos h]
    exact ⟨Nat.le_refl _, hi, rfl⟩
  · rw [if_neg h, if_neg h]
    exact rfl
/-- what the rows that are read for a block say -/
def Mz.Rec (ps : List Pc) (rows : Nat → Bool → Nat → Except Int (List It × Nat × Nat)) (i0 : Nat) : Prop :=
  ∀ (deep : Nat) (loop : Bool) (i : Nat) (s : Mz.St), i0 ≤ i → i ≤ ps.length → s.cur = [] → s.op.length = deep → Mz.loop s.op = loop → deep ≤ 16 → Mz.Says ps (rows deep loop i) i (Mz.go (ps.drop i) s) s
theorem Mz.block (ps : List Pc) (rows : Nat → Bool → Nat → Except Int (List It × Nat × Nat)) (k : Int) (ws : List Wo) (deep : Nat) (loop : Bool) (i : Nat) (s : Mz.St) (HR : Mz.Rec ps rows i) (hi : i ≤ ps.length) (hd : s.op.length = deep) (hl : Mz.loop s.op = loop) (hd2 : deep ≤ 16) :
    Mz.Item ps (Tm.block rows k ws deep loop i) i (Mz.next (s.block k ws) (ps.drop i)) s := by
  unfold Tm.block Mz.St.block
  dsimp only
  generalize Pi.parse (ws.map Wo.wi) = r
  by_cases h : r.2 = 0
  · have hn : ¬ r.2 ≠ 0 := fun q => q h
    rw [if_neg hn, if_neg hn]
    by_cases h16 : deep = 16
    · rw [if_pos (by omega), if_pos (by omega)]
      exact rfl
    · rw [if_neg (by omega), if_neg (by omega)]
      obtain ⟨b1, b2, b3⟩ := s.begin_cur k r.1
      have a1 := HR (deep + 1) (loop || decide (k = 5)) i (s.begin k r.1) (Nat.le_refl _) hi b1 (by omega) (by rw [b3, hl]) (by omega)
      show Mz.Item ps _ i (Mz.go (ps.drop i) (s.begin k r.1)) s
      generalize rows (deep + 1) (loop || decide (k = 5)) i = G at a1 ⊢
      have hne : ∀ l, ((s.begin k r.1).set l).op ≠ [] := fun l e => by
        have := ((s.begin k r.1).set_deep l).1
        rw [e, b2] at this
        simp at this
      match G, a1 with
      | .error e, a1 => exact a1
      | .ok (thn, tag, j), a1 =>
        obtain ⟨j1, j2, a1⟩ := a1
        rcases a1 with ⟨rfl, e1⟩ | ⟨rfl, e1⟩ | ⟨rfl, e1⟩
        · rw [e1]
          exact Mz.fin_open (hne _)
        · rw [e1]
          obtain ⟨t, t1, t2, t3, t4, t5⟩ := s.begin_turn k r.1 thn
          rw [t1]
          show Mz.Item ps _ i (Mz.go (ps.drop j) t) s
          have a2 := HR (deep + 1) loop j t j1 j2 t2 (by omega) (by rw [t4, hl]) (by omega)
          dsimp only
          rw [if_pos rfl]
          generalize rows (deep + 1) loop j = G2 at a2 ⊢
          match G2, a2 with
          | .error e, a2 => exact a2
          | .ok (els, tag2, q), a2 =>
            obtain ⟨q1, q2, a2⟩ := a2
            obtain ⟨u1, u2⟩ := t5 els
            rcases a2 with ⟨rfl, e2⟩ | ⟨rfl, e2⟩ | ⟨rfl, e2⟩
            · rw [e2]
              refine Mz.fin_open fun e => ?_
              have := (t.set_deep els).1
              rw [e, t3] at this
              simp at this
            · rw [e2, u1]
              exact rfl
            · rw [e2, u2]
              exact ⟨Nat.le_trans j1 q1, q2, rfl⟩
        · rw [e1, s.begin_end k r.1 thn]
          exact ⟨j1, j2, rfl⟩
  · rw [if_pos h, if_pos h]
    exact rfl
theorem Mz.item (ps : List Pc) (rows : Nat → Bool → Nat → Except Int (List It × Nat × Nat)) (ws : List Wo) (deep : Nat) (loop : Bool) (i : Nat) (s : Mz.St) (HR : Mz.Rec ps rows i) (hi : i ≤ ps.length) (hd : s.op.length = deep) (hl : Mz.loop s.op = loop) (hd2 : deep ≤ 16)
    (h0 : ws ≠ []) (h1 : Tm.first ws ≠ Tm.sElse) (h2 : Tm.first ws ≠ Tm.sEnd) (h3 : (Tm.first ws = Tm.sBreak ∨ Tm.first ws = Tm.sCont) → loop = true ∧ ¬ 1 < ws.length) :
    Mz.Item ps (Tm.item rows (Tm.first ws) ws deep loop i) i (Mz.next (s.action ws) (ps.drop i)) s := by
  unfold Tm.item Mz.St.action
  dsimp only
  by_cases c1 : Tm.first ws = Tm.sBreak
  · obtain ⟨l1, l2⟩ := h3 (.inl c1)
    rw [c1, if_pos rfl, if_neg (by decide), if_neg (by decide), if_neg (by decide), if_pos (by decide), if_neg l2]
    unfold Mz.St.mark Mz.St.leave
    rw [if_neg (by decide), if_neg (by decide), if_pos rfl, hl, l1, if_pos rfl]
    exact ⟨Nat.le_refl _, hi, rfl⟩
  by_cases c2 : Tm.first ws = Tm.sCont
  · obtain ⟨l1, l2⟩ := h3 (.inr c2)
    rw [c2, if_neg (by decide), if_pos rfl, if_neg (by decide), if_neg (by decide), if_neg (by decide), if_pos (by decide), if_neg l2]
    unfold Mz.St.mark Mz.St.leave
    rw [if_neg (by decide), if_neg (by decide), if_neg (by decide), hl, l1, if_pos rfl]
    exact ⟨Nat.le_refl _, hi, rfl⟩
  rw [if_neg c1, if_neg c2]
  have hm : ¬ (Tm.first ws = Tm.sElse ∨ Tm.first ws = Tm.sEnd ∨ Tm.first ws = Tm.sBreak ∨ Tm.first ws = Tm.sCont) := by
    rintro (h | h | h | h)
    · exact h1 h
    · exact h2 h
    · exact c1 h
    · exact c2 h
  by_cases c3 : Tm.first ws = Tm.sTmpl
  · rw [if_pos c3, if_neg (by rw [c3]; decide), if_neg (by rw [c3]; decide), if_neg (by rw [c3]; decide), if_neg hm, if_pos c3]
    match ws, h0 with
    | [x], _ => exact rfl
    | x :: y :: rest, _ =>
      show Mz.Item ps (if y.kind ≠ 4 then _ else _) i (Mz.next (if y.kind ≠ 4 then _ else _) _) s
      by_cases hk : y.kind = 4
      · have hn : ¬ y.kind ≠ 4 := fun q => q hk
        rw [if_neg hn, if_neg hn]
        by_cases hr : rest = []
        · rw [if_pos hr, if_pos hr]
          exact ⟨Nat.le_refl _, hi, rfl⟩
        · rw [if_neg hr, if_neg hr]
          exact Mz.asked ps s 6 y.text rest i hi
      · rw [if_pos hk, if_pos hk]
        exact rfl
  rw [if_neg c3]
  by_cases c4 : Tm.first ws = Tm.sIf
  · rw [if_pos c4, if_pos c4]
    exact Mz.block ps rows 3 _ deep loop i s HR hi hd hl hd2
  rw [if_neg c4, if_neg c4]
  by_cases c5 : Tm.first ws = Tm.sWith
  · rw [if_pos c5, if_pos c5]
    exact Mz.block ps rows 4 _ deep loop i s HR hi hd hl hd2
  rw [if_neg c5, if_neg c5]
  by_cases c6 : Tm.first ws = Tm.sRange
  · rw [if_pos c6, if_pos c6]
    exact Mz.block ps rows 5 _ deep loop i s HR hi hd hl hd2
  rw [if_neg c6, if_neg c6, if_neg hm, if_neg c3]
  match ws, h0 with
  | [x], _ => exact Mz.asked ps s 1 [] [x] i hi
  | x :: y :: rest, _ =>
    dsimp only
    split
    · exact Mz.asked ps s 2 x.text rest i hi
    · exact Mz.asked ps s 1 [] _ i hi
theorem Mz.sim (ps : List Pc) : ∀ (n deep : Nat) (loop : Bool) (i : Nat) (out : List It) (s : Mz.St), ps.length < n + i → i ≤ ps.length → s.cur = out → s.op.length = deep → Mz.loop s.op = loop → deep ≤ 16 → Mz.Says ps (Tm.rows ps n deep loop i out) i (Mz.go (ps.drop i) s) s := by
  intro n
  induction n with
  | zero => intro deep loop i out s h1 h2; omega
  | succ n ih =>
    intro deep loop i out s h1 h2 h3 h4 h5 h6
    subst h3
    unfold Tm.rows
    cases hp : ps[i]? with
    | none =>
      have : ps.drop i = [] := List.drop_eq_nil_of_le (List.getElem?_eq_none_iff.1 hp)
      rw [this]
      exact ⟨Nat.le_refl _, h2, .inl ⟨rfl, by rw [Mz.St.set_cur]; rfl⟩⟩
    | some p =>
      obtain ⟨hlt, hp⟩ := List.getElem?_eq_some_iff.1 hp
      have hdr : ps.drop i = p :: ps.drop (i + 1) := by rw [← hp]; exact List.drop_eq_getElem_cons hlt
      rw [hdr, Mz.go_cons]
      dsimp only
      have step : ∀ (x : It) (j : Nat) (R : Except Int Mz.St), i ≤ j → j ≤ ps.length → i < j → R = Mz.go (ps.drop j) (s.put x) → Mz.Says ps (Tm.rows ps n deep loop j (s.cur ++ [x])) i R s := by
        intro x j R a1 a2 a3 e
        rw [e]
        exact (ih deep loop j _ (s.put x) (by omega) a2 (Mz.St.cur_set s _) (by rw [← h4]; exact (s.set_deep _).1) (by rw [← h5]; exact (s.set_deep _).2) h6).from_ a1
      unfold Mz.St.piece
      by_cases ha : p.act = false
      · rw [if_pos ha, if_pos ha]
        exact step _ (i + 1) _ (by omega) (by omega) (by omega) rfl
      rw [if_neg ha, if_neg ha]
      dsimp only
      generalize Wx.words ⟨p.text.toArray⟩ = r
      by_cases hr : r.2 = 0
      · have hn : ¬ r.2 ≠ 0 := fun q => q hr
        rw [if_neg hn, if_neg hn]
        by_cases he : r.1 = []
        · rw [if_pos he, if_pos he]
          exact rfl
        rw [if_neg he, if_neg he]
        obtain ⟨ws, z⟩ := r
        dsimp only at he hr ⊢
        subst hr
        have hact : ∀ w, Tm.first ws = w → w ≠ Tm.sIf → w ≠ Tm.sWith → w ≠ Tm.sRange → (w = Tm.sElse ∨ w = Tm.sEnd ∨ w = Tm.sBreak ∨ w = Tm.sCont) → s.action ws = if 1 < ws.length then .error 1604 else s.mark w := fun w e n1 n2 n3 hm => by
          unfold Mz.St.action
          dsimp only
          rw [e, if_neg n1, if_neg n2, if_neg n3, if_pos hm]
        by_cases hm : Tm.first ws = Tm.sElse ∨ Tm.first ws = Tm.sEnd ∨ Tm.first ws = Tm.sBreak ∨ Tm.first ws = Tm.sCont
        · have hac := hact _ rfl (by rcases hm with e | e | e | e <;> rw [e] <;> decide) (by rcases hm with e | e | e | e <;> rw [e] <;> decide) (by rcases hm with e | e | e | e <;> rw [e] <;> decide) hm
          by_cases hlen : 1 < ws.length
          · rw [if_pos ⟨hm, hlen⟩, hac, if_pos hlen]
            exact rfl
          rw [if_neg (fun q => hlen q.2)]
          rw [if_neg hlen] at hac
          by_cases c1 : Tm.first ws = Tm.sElse
          · rw [if_pos c1, hac, c1]
            exact ⟨by omega, by omega, .inr (.inl ⟨rfl, by rw [Mz.St.set_cur]; rfl⟩)⟩
          by_cases c2 : Tm.first ws = Tm.sEnd
          · rw [if_neg c1, if_pos c2, hac, c2]
            exact ⟨by omega, by omega, .inr (.inr ⟨rfl, by rw [Mz.St.set_cur]; rfl⟩)⟩
          have c3 : Tm.first ws = Tm.sBreak ∨ Tm.first ws = Tm.sCont := by
            rcases hm with e | e | e | e
            · exact absurd e c1
            · exact absurd e c2
            · exact .inl e
            · exact .inr e
          rw [if_neg c1, if_neg c2]
          by_cases hl : loop = false
          · rw [if_pos ⟨c3, hl⟩, hac]
            have hs : Mz.loop s.op = false := h5.trans hl
            unfold Mz.St.mark Mz.St.leave
            rw [if_neg c1, if_neg c2, hs]
            split <;> exact rfl
          · rw [if_neg (fun q => hl q.2)]
            have it := Mz.item ps (fun d l j => Tm.rows ps n d l j []) ws deep loop (i + 1) s (fun d l j t b1 b2 b3 b4 b5 b6 => ih d l j [] t (by omega) b2 b3 b4 b5 b6) (by omega) h4 h5 h6 he c1 c2 fun _ => ⟨by simpa using hl, hlen⟩
            generalize Tm.item (fun d l j => Tm.rows ps n d l j []) (Tm.first ws) ws deep loop (i + 1) = G at it ⊢
            match G, it with
            | .error e, it => exact it
            | .ok (x, j), it => exact step x j _ (by have := it.1; omega) it.2.1 (by have := it.1; omega) it.2.2
        · have c1 : ¬ Tm.first ws = Tm.sElse := fun e => hm (.inl e)
          have c2 : ¬ Tm.first ws = Tm.sEnd := fun e => hm (.inr (.inl e))
          have c3 : ¬ (Tm.first ws = Tm.sBreak ∨ Tm.first ws = Tm.sCont) := fun e => hm (.inr (.inr e))
          rw [if_neg (fun q => hm q.1), if_neg c1, if_neg c2, if_neg (fun q => c3 q.1)]
          have it := Mz.item ps (fun d l j => Tm.rows ps n d l j []) ws deep loop (i + 1) s (fun d l j t b1 b2 b3 b4 b5 b6 => ih d l j [] t (by omega) b2 b3 b4 b5 b6) (by omega) h4 h5 h6 he c1 c2 fun q => absurd q c3
          generalize Tm.item (fun d l j => Tm.rows ps n d l j []) (Tm.first ws) ws deep loop (i + 1) = G at it ⊢
          match G, it with
          | .error e, it => exact it
          | .ok (x, j), it => exact step x j _ (by have := it.1; omega) it.2.1 (by have := it.1; omega) it.2.2
      · rw [if_pos hr, if_pos hr]
        exact rfl
/-- what the stack gives, piece by piece, is what the document asks -/
theorem Mz.parse (ps : List Pc) : Mz.fin (Mz.go ps ⟨[], []⟩) = Tm.fin (Tm.rows ps (ps.length + 1) 0 false 0 []) := by
  have h := Mz.sim ps (ps.length + 1) 0 false 0 [] ⟨[], []⟩ (by omega) (Nat.zero_le _) rfl rfl rfl (by omega)
  rw [List.drop_zero] at h
  generalize Tm.rows ps (ps.length + 1) 0 false 0 [] = G at h ⊢
  match G, h with
  | .error e, h => exact h
  | .ok (out, tag, j), h =>
    obtain ⟨_, _, h⟩ := h
    rcases h with ⟨rfl, e⟩ | ⟨rfl, e⟩ | ⟨rfl, e⟩
    · rw [e]; exact rfl
    · rw [e]; exact rfl
    · rw [e]; exact rfl
end Go.Proofs.YtjppobeomocgbaaGreatDoor

/-
  THE WALK of the landed reader: word.
-/
import Derived.Test.YtjppobeomocgbaaGreatDoorTXLong
import Derived.Defers
import Derived.Recover
namespace Go.Proofs.YtjppobeomocgbaaGreatDoor
open Go.RowKit
/-- what the document's word with what stands behind it is -/
def Xr.one (S : List UInt8) (i : Nat) : Except Int (Wo × Nat) :=
  match Wx.word S i with
  | .error e => .error e
  | .ok (w, j) => if Wx.ends S w.kind j = true then .ok (w, j) else .error 1400
theorem Xr.or_kind {α : Type} {o : Option (α × Nat)} {e : Int} {f : α × Nat → Wo × Nat} {k : Nat} {p : Wo × Nat} (h : (Wx.or o e).map f = .ok p) (hk : ∀ a, (f a).1.kind ≠ k) : p.1.kind ≠ k := by
  obtain ⟨a, _, rfl⟩ := Wx.or_ok h
  exact hk a
theorem Xr.kind {s : ByteArray} {i : Nat} (hi : i < s.size) (h124 : s[i] ≠ 124) {p : Wo × Nat} (h : Wx.word s.data.toList i = .ok p) : p.1.kind ≠ 5 := by
  by_cases h45 : s[i] = 45 ∨ Pl.digit s[i] = true
  · rw [Xr.word_num hi h45] at h
    exact Xr.or_kind h (fun _ => (by decide : (3 : Nat) ≠ 5))
  · by_cases h34 : s[i] = 34
    · rw [Xr.word_text hi h34] at h
      exact Xr.or_kind h (fun _ => (by decide : (4 : Nat) ≠ 5))
    · by_cases h2 : s[i] = 58 ∧ s.data.toList[i + 1]? = some 61
      · rw [Xr.word_set hi h2.1 h2.2] at h
        injection h with h
        rw [← h]
        exact (by decide : (6 : Nat) ≠ 5)
      · by_cases h36 : s[i] = 36
        · rw [Xr.word_var hi h36] at h
          unfold Xr.var at h
          split at h
          · cases h
          · exact Xr.or_kind h (fun _ => (by decide : (2 : Nat) ≠ 5))
        · by_cases h46 : s[i] = 46
          · rw [Xr.word_fld hi h46] at h
            unfold Xr.fld at h
            split at h
            · exact Xr.or_kind h (fun _ => (by decide : (1 : Nat) ≠ 5))
            · injection h with h
              rw [← h]
              exact (by decide : (1 : Nat) ≠ 5)
          · rw [Xr.word_name hi h124 h2 h34 h45 h46 h36] at h
            exact Xr.or_kind h (fun _ => (by decide : (0 : Nat) ≠ 5))
theorem Xr.ends_fin {s : ByteArray} {k j : Nat} (hk : k ≠ 5) : Wx.ends s.data.toList k j = Xr.fin s j := by
  unfold Wx.ends Xr.fin
  rw [decide_eq_false hk, Wk.len_data, Bool.false_or]
set_option maxRecDepth 100000 in
set_option maxHeartbeats 4000000 in
theorem Xr.word {w0 w : World} {g : Nat} {s : ByteArray} {i : Nat} (h : Xr.At w0 w g s i) (hi : i < s.size) (hs : s.size ≤ 1099511627776) :
    Calls Tryz.prog 83 #[.pointer (some ⟨g, 0, none⟩)] w (Xr.WOut (Xr.one s.data.toList i) w0 w g s) := by
  have hgw := h.lt
  have hlo := h.kept.size
  obtain ⟨w00, hw00⟩ : ∃ W0, w.alloc (.cells #[.int .i64 0, .string ⟨#[]⟩, .slice none 0 0, .int .i64 0] 91) = W0 := ⟨_, rfl⟩
  have HR0 : Hid (Xr.Rs w0 w w00 g s i w.heap.size) := by rw [← hw00]; exact ⟨h.then ((Below.refl _ _).alloc (Nat.le_refl _) _), Bs.Box.new _ _ _ _ rfl, hgw, Nat.le_refl _, hlo⟩
  have hget := Wx.get hi
  obtain ⟨O, hO⟩ : ∃ O, Xr.one s.data.toList i = O := ⟨_, rfl⟩
  rw [hO]
  unfold Xr.one at hO
  have HW := Lib.hid hw00
  clear h hw00
  by_cases hc : s[i] = 124
  · have sk := Xr.skR ⟨#[124]⟩ true HR0.out hs (by rw [show (⟨#[124]⟩ : ByteArray).data.toList = [124] from rfl, Xr.pre_one, hget, hc]; rfl)
    rw [if_pos rfl, show (⟨#[124]⟩ : ByteArray).size = 1 from rfl] at sk
    have hO2 : .ok ((⟨5, [], [], 0⟩ : Wo), i + 1) = O := by
      rw [← hO]
      have e : Wx.word s.data.toList i = .ok (⟨5, [], [], 0⟩, i + 1) := by
        unfold Wx.word
        simp only [Xr.getD hi, hc]
        rw [if_pos (by decide)]
      rw [e]
      simp only
      rw [if_pos (by unfold Wx.ends; rfl)]
    subst hO2
    clear hO hc hget
    have hw00 := HW.out
    go_enter Tryz.func83, Tryz.ntmps83
    go_wp2_with (go_at_call 110; refine sk.mono ?_; rintro e w3 ⟨rfl, a3⟩; have HR := Lib.hid a3; obtain ⟨x0, x1, x2, x3, xf⟩ := Xr.cells4 HR.out.box; clear a3 sk)
    obtain ⟨W, hW, hX, hq, hz, ho, ht, hu⟩ := Xr.four HR.out.box (.int .i64 5) (.string ⟨#[]⟩) (.slice none 0 0) (.int .i64 0)
    rw [hW]
    obtain ⟨y0, y1, y2, y3, -⟩ := Xr.cells4 hX
    refine bodyPost_ret (v := .agg #[.int .i64 5, .string ⟨#[]⟩, .slice none 0 0, .int .i64 0]) (by simp [results, Tryz.results83, go_sem, y0, y1, y2, y3]) rfl ?_
    exact Xr.wend (r := w.heap.size) (V := w.heap.size) ⟨5, [], [], 0⟩ HR.out.at_ (St.Lies.nil _ _) (fun k h1 _ => hq k h1) hz ho ht hu HR.out.gr (Nat.le_refl _) HR.out.wr HR.out.lo HR.out.us
  · have sk := Xr.skR ⟨#[124]⟩ false HR0.out hs (by rw [show (⟨#[124]⟩ : ByteArray).data.toList = [124] from rfl, Xr.pre_one, hget]; exact decide_eq_false fun q => hc (Option.some.inj q))
    rw [if_neg (by decide)] at sk
    have lw := fun u (q : Xr.At u u g s i) => Xr.longWord q hi hs hc
    have hkd := fun p => Xr.kind (p := p) hi hc
    clear hget hc
    cases hx : Wx.word s.data.toList i with
    | error x =>
      rw [hx] at lw hO
      have hO : .error x = O := hO
      subst hO
      clear hx hkd
      have hw00 := HW.out
      go_enter Tryz.func83, Tryz.ntmps83
      go_wp2_with (first | (go_at_call 110; refine sk.mono ?_; rintro e w3 ⟨rfl, a3⟩; have HR := Lib.hid a3; replace lw := lw _ a3.at_.start; clear a3 sk) | (go_at_call 111; refine lw.mono ?_; rintro e w4 ⟨rfl, k4⟩; have HK := Lib.hid (HR.out.at_.kept.trans k4); clear k4))
      exact ⟨rfl, rfl, HK.out⟩
    | ok p =>
      have hk5 := hkd p hx
      obtain ⟨⟨k, t, ts, m⟩, j⟩ := p
      have HO : Hid ((if Xr.fin s j = true then .ok ((⟨k, t, ts, m⟩ : Wo), j) else .error 1400) = O) := by
        rw [hx] at hO
        simp only at hO
        rw [Xr.ends_fin hk5] at hO
        exact hO
      replace lw : ∀ u, Xr.At u u g s i → Calls Tryz.prog 111 #[.pointer (some ⟨g, 0, none⟩)] u fun e w' => ∃ a n d, e = .returned (.agg #[.int .i64 (k : Int), .string ⟨t.toArray⟩, .slice a n d, .int .i64 m]) ∧ Xr.At u w' g s j ∧ u.heap.size ≤ w'.heap.size ∧ St.Lies w' (fun b => u.heap.size ≤ b ∧ b < w'.heap.size ∧ Rm.Ub w' b) ts (.slice a n d) := fun u z => by
        have := lw u z
        rw [hx] at this
        exact this
      clear hx hkd hO hk5
      have hw00 := HW.out
      go_enter Tryz.func83, Tryz.ntmps83
      go_upto_region 4 with (first | (go_at_call 110; refine sk.mono ?_; rintro e w3 ⟨rfl, a3⟩; have HR := Lib.hid a3; replace lw := lw _ a3.at_.start; have hr3 := a3.box.lt; clear a3 sk) | (go_at_call 111; refine lw.mono ?_; rintro e w4 ⟨a, n, d, rfl, a4, hs4, l4⟩; replace HR := Lib.hid (HR.out.then a4); have HL := Lib.hid l4; clear a4 l4 lw))
      have hr4 := HR.out.box.lt
      have HV5 : Hid (Bs.Box (w4.alloc (.cells #[.int .i64 (k : Int), .string ⟨t.toArray⟩, .slice a n d, .int .i64 m] 91)) w4.heap.size #[.int .i64 (k : Int), .string ⟨t.toArray⟩, .slice a n d, .int .i64 m] 91) := Bs.Box.new _ _ _ _ rfl
      have HR5 : Hid (Xr.Rs w0 w (w4.alloc (.cells #[.int .i64 (k : Int), .string ⟨t.toArray⟩, .slice a n d, .int .i64 m] 91)) g s j w.heap.size) := ⟨HR.out.at_.then ((Below.refl _ _).alloc (Nat.le_refl _) _), HR.out.box.alloc _, HR.out.gr, HR.out.wr, HR.out.lo⟩
      have HL5 : Hid (St.Lies (w4.alloc (.cells #[.int .i64 (k : Int), .string ⟨t.toArray⟩, .slice a n d, .int .i64 m] 91)) (fun b => w.heap.size < b ∧ b < w4.heap.size ∧ Rm.Ub (w4.alloc (.cells #[.int .i64 (k : Int), .string ⟨t.toArray⟩, .slice a n d, .int .i64 m] 91)) b) ts (.slice a n d)) := HL.out.on fun b hb => by
        have e := Below.heap_alloc w4 (.cells #[.int .i64 (k : Int), .string ⟨t.toArray⟩, .slice a n d, .int .i64 m] 91) b hb.2.1
        exact ⟨⟨by omega, hb.2.1, hb.2.2.on e⟩, e⟩
      clear HR HL
      generalize w4.alloc (.cells #[.int .i64 (k : Int), .string ⟨t.toArray⟩, .slice a n d, .int .i64 m] 91) = w5 at *
      have hV5 := HV5.out.lt
      generalize w4.heap.size = V at *
      have me := Xr.mayEnd HR5.out.at_
      cases hf : Xr.fin s j with
      | true =>
        rw [hf] at me HO
        have hO : .ok ((⟨k, t, ts, m⟩ : Wo), j) = O := by rw [← HO.out, if_pos rfl]
        subst hO
        clear hf HO
        go_wp2_with (go_at_call 112; refine me.mono ?_; rintro e w6 ⟨rfl, n6, rfl⟩; have HR := Lib.hid (HR5.out.drewN n6); have HV : Hid (Bs.Box (w5.drewN n6) V #[.int .i64 (k : Int), .string ⟨t.toArray⟩, .slice a n d, .int .i64 m] 91) := HV5; have HL : Hid (St.Lies (w5.drewN n6) (fun b => w.heap.size < b ∧ b < V ∧ Rm.Ub (w5.drewN n6) b) ts (.slice a n d)) := HL5; have hV6 := HV.out.lt; clear me HR5 HV5 HL5 hV5; generalize w5.drewN n6 = w6 at *; obtain ⟨v0, v1, v2, v3, -⟩ := Xr.cells4 HV.out; obtain ⟨x0, x1, x2, x3, xf⟩ := Xr.cells4 HR.out.box)
        obtain ⟨W, hW, hX, hq, hz, ho, ht, hu⟩ := Xr.four HR.out.box (.int .i64 (k : Int)) (.string ⟨t.toArray⟩) (.slice a n d) (.int .i64 m)
        rw [hW]
        obtain ⟨y0, y1, y2, y3, -⟩ := Xr.cells4 hX
        refine bodyPost_ret (v := .agg #[.int .i64 (k : Int), .string ⟨t.toArray⟩, .slice a n d, .int .i64 m]) (by simp [results, Tryz.results83, go_sem, y0, y1, y2, y3]) rfl ?_
        exact Xr.wend (r := w.heap.size) (V := w.heap.size) ⟨k, t, ts, m⟩ HR.out.at_ (HL.out.on fun b hb => ⟨⟨hb.1, Nat.lt_trans hb.2.1 hV6, hb.2.2⟩, rfl⟩) (fun k h1 _ => hq k h1) hz ho ht hu HR.out.gr (Nat.le_refl _) HR.out.wr HR.out.lo HR.out.us
      | false =>
        rw [hf] at me HO
        have hO : .error 1400 = O := by rw [← HO.out, if_neg (by decide)]
        subst hO
        clear hf HO
        go_wp2_with (go_at_call 112; refine me.mono ?_; rintro e w6 ⟨rfl, n6, rfl⟩; have HK := Lib.hid (HR5.out.drewN n6).at_.kept; clear me HR5 HV5 HL5 hV5; generalize w5.drewN n6 = w6 at *)
        exact ⟨rfl, rfl, HK.out⟩
end Go.Proofs.YtjppobeomocgbaaGreatDoor
/-
  THE WALKS of what the landed reader's words defers; a row of words under way.
-/
namespace Go.Proofs.YtjppobeomocgbaaGreatDoor
open Go.RowKit
theorem Xr.catch_idle (a b : Addr) (w : World) :
    CallsD Tryz.prog 80 #[.pointer (some a), .pointer (some b)] .returning w fun e u' w' => e = .returned (.tuple #[]) ∧ u' = .returning ∧ w' = w := by
  refine callsD_of_wpS Tryz.func80 rfl fun c₀ cs hu => ?_
  apply wpS_seq
  apply wpS_region
  simp [wpOpsS, go_sem, recoverD, hu, Tryz.ntmps80, Exit.thenS]
  apply wpS_seq
  apply wpS_seq
  apply wpS_region
  simp [wpOpsS, go_sem, Exit.thenS]
  refine wpS_cond (t := true) (by simp [Act.eval, Array.replicate]) ?_
  simp only [if_true]
  refine wpS_of_wp (wp_ret ?_)
  cases c₀
  simp_all [bodyPostS, results, Tryz.results80, Exit.thenS]
set_option maxRecDepth 100000 in
set_option maxHeartbeats 4000000 in
theorem Xr.catch_fault (a b : Nat) (older : List PanicEntry) (w : World) {v : Value} (hX : Bs.Box w a #[v] 79) (x y : Int) (hE : Bs.Box w b #[.int .i64 y] 23) (hab : a ≠ b) :
    CallsD Tryz.prog 80 #[.pointer (some ⟨a, 0, none⟩), .pointer (some ⟨b, 0, none⟩)] (.panicking ({ v := .iface 23 (.int .i64 x), recovered := false } :: older)) w fun e u' w' =>
      e = .returned (.tuple #[]) ∧ u' = .panicking ({ v := .iface 23 (.int .i64 x), recovered := true } :: older) ∧ w' = ((w.setCell ⟨a, 0, none⟩ (.slice none 0 0)).setCell ⟨b, 0, none⟩ (.int .i64 x)) := by
  have c0 : w.cell? ⟨a, 0, none⟩ = some v := hX.cell 0 rfl
  have f0 := hX.frozen 0
  have d0 : w.cell? ⟨b, 0, none⟩ = some (.int .i64 y) := hE.cell 0 rfl
  have g0 := hE.frozen 0
  have hba : ¬ b = a := fun q => hab q.symm
  have hta : ∀ u : World, (Instr.typeAssert (.iface 23 (.int .i64 x)) 20 23 true).run Tryz.prog u = .ok (.tuple #[.int .i64 x, .bool true]) u := fun _ => by kernel_rfl
  clear hX hE
  refine callsD_of_wpS Tryz.func80 rfl fun c₀ cs hu => ?_
  apply wpS_seq
  apply wpS_region
  simp [wpOpsS, go_sem, recoverD, hu, Tryz.ntmps80, Exit.thenS]
  apply wpS_seq
  apply wpS_seq
  apply wpS_region
  simp [wpOpsS, go_sem, Exit.thenS]
  refine wpS_cond (t := false) (by simp [Act.eval, Array.replicate]) ?_
  simp only [Bool.false_eq_true, if_false]
  refine wpS_of_wp (wp_skip ?_)
  simp only [Exit.thenS]
  refine wpS_of_wp ?_
  refine (show Code.wp Tryz.prog _ _ { tmps := #[.pointer (some ⟨a, 0, none⟩), .pointer (some ⟨b, 0, none⟩), .iface 23 (.int .i64 x), undef, undef, .iface 23 (.int .i64 x), .iface 23 (.int .i64 x), .bool false, undef, undef, undef, undef, undef, undef, undef, undef, undef], defers := [] } w from ?_)
  go_wp2
  exact ⟨rfl, _, rfl, .tuple #[], by simp [results, Tryz.results80], rfl, rfl, rfl⟩
theorem Xr.row_swap {base g g' : Nat} {ws : List Wo} {w : World} {v : Value} (h : Wo.Row base g ws w v) (hg : g' < base) : Wo.Row base g' ws w v := by
  obtain ⟨xs, ho, hx⟩ := h
  refine ⟨xs, ho, fun i x hi => ?_⟩
  obtain ⟨pv, h0, hl⟩ := hx i x hi
  exact ⟨pv, h0, hl.on fun k hk => ⟨⟨hk.1, hk.2.1, hk.2.2.1, by have := hk.1; omega, hk.2.2.2.2⟩, rfl⟩⟩
theorem Xr.row_own {base g b : Nat} {ws : List Wo} {w : World} {v : Value} (h : Wo.Row base g ws w v) (hb : b < base) : v.ownBlock ≠ some b := fun e => by
  obtain ⟨xs, ho, _⟩ := h
  have := (ho.lt b e).1
  omega
theorem Xr.row_kept {base g : Nat} {ws : List Wo} {w w' : World} {v : Value} (h : Wo.Row base g ws w v) (hg : g < base) (hk : Cu.Kept w w' g) : Wo.Row base g ws w' v := h.on (Xr.row_own h hg) hk
theorem Xr.row_set {base g b c : Nat} {ws : List Wo} {w : World} {v : Value} (h : Wo.Row base g ws w v) (hg : g < base) (hb : b < base) (u : Value) : Wo.Row base g ws (w.setCell ⟨b, c, none⟩ u) v :=
  Xr.row_swap ((Xr.row_swap h hb).on (Xr.row_own h hb) ((Cu.Kept.refl _ _).set _ _)) hg
/-- words under way: the reader, the two results' blocks, the row -/
structure Xr.Ws (w wr : World) (g : Nat) (s : ByteArray) (p : Nat) (v : Value) (ws : List Wo) : Prop where
  at_ : Xr.At w wr g s p
  cell : Bs.Box wr w.heap.size #[v] 79
  err : Bs.Box wr (w.heap.size + 1) #[.int .i64 0] 23
  row : Wo.Row (w.heap.size + 2) g ws wr v
  lt : g < w.heap.size
theorem Xr.Ws.then {w wr w' : World} {g : Nat} {s : ByteArray} {p q : Nat} {v : Value} {ws : List Wo} (h : Xr.Ws w wr g s p v ws) (h2 : Xr.At wr w' g s q) : Xr.Ws w w' g s q v ws :=
  ⟨h.at_.comp h2, Xr.box_kept h.cell h2.kept (by have := h.lt; omega), Xr.box_kept h.err h2.kept (by have := h.lt; omega), Xr.row_kept h.row (by have := h.lt; omega) h2.kept, h.lt⟩
theorem Xr.Ws.drewN {w wr : World} {g : Nat} {s : ByteArray} {p : Nat} {v : Value} {ws : List Wo} (h : Xr.Ws w wr g s p v ws) (n : Nat) : Xr.Ws w (wr.drewN n) g s p v ws := h.then (h.at_.start.drewN n)
theorem Xr.Ws.hi {w wr : World} {g : Nat} {s : ByteArray} {p : Nat} {v : Value} {ws : List Wo} (h : Xr.Ws w wr g s p v ws) : w.heap.size + 2 ≤ wr.heap.size := h.err.lt
/-- what words gives -/
def Xr.Res (G : Except Int (List Wo)) (w : World) (g : Nat) (e : Ending) (w' : World) : Prop :=
  (match G with
  | .error x => e = .returned (.tuple #[.slice none 0 0, .int .i64 x])
  | .ok ws => ∃ v, e = .returned (.tuple #[v, .int .i64 0]) ∧ Wo.Lies w' (fun k => w.heap.size ≤ k ∧ k < w'.heap.size ∧ Rm.Ub w' k) ws v) ∧ Cu.Kept w w' g
/-- the end of a reading that threw -/
theorem Xr.fault_end {w w1 w9 : World} {g : Nat} {v : Value} {y x : Int} {tmps : Array Value} (hX : Bs.Box w1 w.heap.size #[v] 79) (hE : Bs.Box w1 (w.heap.size + 1) #[.int .i64 y] 23) (hK : Cu.Kept w w1 g)
    (h9 : w9 = ((w1.setCell ⟨w.heap.size, 0, none⟩ (.slice none 0 0)).setCell ⟨w.heap.size + 1, 0, none⟩ (.int .i64 x))) (h2 : tmps[2]? = some (.pointer (some ⟨w.heap.size, 0, none⟩))) (h3 : tmps[3]? = some (.pointer (some ⟨w.heap.size + 1, 0, none⟩))) :
    Leaves Tryz.prog Tryz.f53 tmps (Xr.Res (.error x) w g) [] .returning w9 := by
  have hX9 : Bs.Box w9 w.heap.size #[.slice none 0 0] 79 := by rw [h9]; exact (Below.heap_setCell _ _ _ _ (by show w.heap.size ≠ w.heap.size + 1; omega)).trans (hX.set 0 _)
  have hE9 : Bs.Box w9 (w.heap.size + 1) #[.int .i64 x] 23 := by rw [h9]; exact Bs.Box.set ((Below.heap_setCell _ _ _ _ (by show w.heap.size + 1 ≠ w.heap.size; omega)).trans hE) 0 _
  have hK9 : Cu.Kept w w9 g := by
    rw [h9]
    refine ⟨hK.os, hK.tape, hK.output, by simp; exact hK.size, fun k hk hne => ?_⟩
    rw [Below.heap_setCell _ _ _ _ (by show k ≠ w.heap.size + 1; omega), Below.heap_setCell _ _ _ _ (by show k ≠ w.heap.size; omega)]
    exact hK.block k hk hne
  have x0 : w9.cell? ⟨w.heap.size, 0, none⟩ = some (.slice none 0 0) := hX9.cell 0 rfl
  have ce : w9.cell? ⟨w.heap.size + 1, 0, none⟩ = some (.int .i64 x) := hE9.cell 0 rfl
  refine ⟨.tuple #[.slice none 0 0, .int .i64 x], ?_, rfl, hK9⟩
  simp [results, Tryz.results53, go_sem, x0, ce, h2, h3]
/-- the end of a reading that went well -/
theorem Xr.good_end {w w1 w9 : World} {g p : Nat} {s : ByteArray} {v : Value} {ws : List Wo} {tmps : Array Value} (hW : Xr.Ws w w1 g s p v ws)
    (h9 : w9 = ((w1.setCell ⟨w.heap.size, 0, none⟩ v).setCell ⟨w.heap.size + 1, 0, none⟩ (.int .i64 0))) (h2 : tmps[2]? = some (.pointer (some ⟨w.heap.size, 0, none⟩))) (h3 : tmps[3]? = some (.pointer (some ⟨w.heap.size + 1, 0, none⟩))) :
    Leaves Tryz.prog Tryz.f53 tmps (Xr.Res (.ok ws) w g) [] .returning w9 := by
  have hg := hW.lt
  have hX9 : Bs.Box w9 w.heap.size #[v] 79 := by rw [h9]; exact (Below.heap_setCell _ _ _ _ (by show w.heap.size ≠ w.heap.size + 1; omega)).trans (hW.cell.set 0 _)
  have hE9 : Bs.Box w9 (w.heap.size + 1) #[.int .i64 0] 23 := by rw [h9]; exact Bs.Box.set ((Below.heap_setCell _ _ _ _ (by show w.heap.size + 1 ≠ w.heap.size; omega)).trans hW.err) 0 _
  have hR9 : Wo.Row (w.heap.size + 2) g ws w9 v := by rw [h9]; exact Xr.row_set (Xr.row_set hW.row (by omega) (by omega) _) (by omega) (by omega) _
  have hK9 : Cu.Kept w w9 g := by
    rw [h9]
    refine ⟨hW.at_.kept.os, hW.at_.kept.tape, hW.at_.kept.output, by simp; exact hW.at_.kept.size, fun k hk hne => ?_⟩
    rw [Below.heap_setCell _ _ _ _ (by show k ≠ w.heap.size + 1; omega), Below.heap_setCell _ _ _ _ (by show k ≠ w.heap.size; omega)]
    exact hW.at_.kept.block k hk hne
  have x0 : w9.cell? ⟨w.heap.size, 0, none⟩ = some v := hX9.cell 0 rfl
  have ce : w9.cell? ⟨w.heap.size + 1, 0, none⟩ = some (.int .i64 0) := hE9.cell 0 rfl
  obtain ⟨a, d, hv⟩ := hR9.form
  subst hv
  refine ⟨.tuple #[.slice a ws.length d, .int .i64 0], ?_, ⟨_, rfl, hR9.lies.on fun k hk => ⟨⟨by have := hk.1; omega, hk.2⟩, rfl⟩⟩, hK9⟩
  simp [results, Tryz.results53, go_sem, x0, ce, h2, h3]
end Go.Proofs.YtjppobeomocgbaaGreatDoor

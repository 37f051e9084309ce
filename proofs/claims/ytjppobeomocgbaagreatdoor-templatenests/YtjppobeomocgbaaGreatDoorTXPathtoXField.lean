/-
  THE WALKS of the landed reader: path, variable, field.
-/
import Derived.Test.YtjppobeomocgbaaGreatDoorTXNumtoXText
import Derived.Test.YtjppobeomocgbaaGreatDoorTOMemtoOWords
namespace Go.Proofs.YtjppobeomocgbaaGreatDoor
open Go.RowKit
theorem Wx.names_len : ∀ (n : Nat) (S : List UInt8) (i : Nat) (out p : List (List UInt8)) (j : Nat), Wx.names n S i out = some (p, j) → out.length ≤ p.length := by
  intro n
  induction n with
  | zero =>
    intro S i out p j h
    unfold Wx.names at h
    simp only [Option.some.injEq, Prod.mk.injEq] at h
    rw [h.1]
    exact Nat.le_refl _
  | succ n ih =>
    intro S i out p j h
    unfold Wx.names at h
    split at h
    · split at h
      · cases h
      · have := ih _ _ _ _ _ h
        rw [List.length_append] at this
        omega
    · simp only [Option.some.injEq, Prod.mk.injEq] at h
      rw [h.1]
      exact Nat.le_refl _
/-- what the document's path makes of the names -/
def Xr.pt (r : Option (List (List UInt8) × Nat)) : Option (List (List UInt8) × Nat) :=
  match r with
  | none => none
  | some (p, j) => if 8 < p.length then none else some (p, j)
theorem Xr.path_is (S : List UInt8) (i : Nat) : Wx.path S i = Xr.pt (Wx.names (S.length + 1) S i []) := rfl
/-- a ninth name -/
theorem Xr.pt_nine {S : List UInt8} {n j : Nat} {out : List (List UInt8)} (hn : 0 < n) (h : S[j]? = some 46) (hl : out.length = 8) : Xr.pt (Wx.names n S j out) = none := by
  rw [Wx.names_dot hn h]
  cases hx : Wx.name S (j + 1) with
  | none => rfl
  | some p =>
    obtain ⟨t, q⟩ := p
    simp only
    cases hy : Wx.names (n - 1) S q (out ++ [t]) with
    | none => rfl
    | some r =>
      obtain ⟨p, k⟩ := r
      have := Wx.names_len _ _ _ _ _ _ hy
      rw [List.length_append, List.length_singleton] at this
      unfold Xr.pt
      simp only
      rw [if_pos (by omega)]
/-- what path gives -/
def Xr.POut (O : Option (List (List UInt8) × Nat)) (w0 w : World) (g : Nat) (s : ByteArray) (e : Ending) (w' : World) : Prop :=
  match O with
  | none => e = .panicked (Xr.fault 1400) ∧ Cu.Kept w0 w' g
  | some (ts, j) => ∃ a n d, e = .returned (.slice a n d) ∧ Xr.At w0 w' g s j ∧ w.heap.size ≤ w'.heap.size ∧ St.Lies w' (fun k => w.heap.size ≤ k ∧ k < w'.heap.size ∧ Rm.Ub w' k) ts (.slice a n d)
/-- names under way: the reader and the row -/
structure Xr.Ps (w0 w wr : World) (g : Nat) (s : ByteArray) (j : Nat) (v : Value) (ts : List (List UInt8)) : Prop where
  at_ : Xr.At w0 wr g s j
  own : wr.ownsRow w.heap.size 9 1 v ts.length (St.cells ts)
  lt : g < w.heap.size
  lo : w0.heap.size ≤ w.heap.size
  hi : w.heap.size ≤ wr.heap.size
theorem Xr.Ps.then {w0 w wr w' : World} {g : Nat} {s : ByteArray} {i j : Nat} {v : Value} {ts : List (List UInt8)} (h : Xr.Ps w0 w wr g s i v ts) (h2 : Xr.At wr w' g s j) : Xr.Ps w0 w w' g s j v ts :=
  ⟨h.at_.comp h2, Rm.own_on h.own (fun k hk => h2.kept.block k (h.own.lt k hk).2 (fun e => by have h1 := (h.own.lt k hk).1; have h3 := h.lt; rw [e] at h1; exact absurd h1 (Nat.not_le.2 h3))), h.lt, h.lo, Nat.le_trans h.hi h2.kept.size⟩
theorem Xr.Ps.push {w0 w wr w4 : World} {g : Nat} {s : ByteArray} {j : Nat} {v v4 : Value} {ts : List (List UInt8)} {t : List UInt8} {o : Obj} (h : Xr.Ps w0 w wr g s j v ts) (R4 : w4.ownsRow w.heap.size 9 1 v4 (ts.length + 1) (St.cells ts ++ [.string ⟨t.toArray⟩])) (hg : (wr.alloc o).grownBy w4 v.ownBlock) : Xr.Ps w0 w w4 g s j v4 (ts ++ [t]) := by
  have hsz := h.at_.kept.size
  have hlo := h.lo
  have hhi := h.hi
  have hblk : ∀ k, k < wr.heap.size → v.ownBlock ≠ some k → w4.heap[k]? = wr.heap[k]? := fun k hk hne => (hg.block k (by simp; omega) (fun e => hne e.symm)).trans (Below.heap_alloc _ _ _ hk)
  have hgw : v.ownBlock ≠ some g := fun e => by have := (h.own.lt g e).1; have := h.lt; omega
  have hs4 : wr.heap.size ≤ w4.heap.size := by
    have := hg.size
    simp at this
    omega
  refine ⟨⟨(hblk g h.at_.lt hgw).trans h.at_.box, ⟨hg.os.trans h.at_.kept.os, hg.tape.trans h.at_.kept.tape, hg.output.trans h.at_.kept.output, by omega, fun k hk hne => ?_⟩, h.at_.le⟩, ?_, h.lt, h.lo, by omega⟩
  · exact (hblk k (by omega) (fun e => by have := (h.own.lt k e).1; omega)).trans (h.at_.kept.block k hk hne)
  · rw [List.length_append, St.cells_snoc]
    exact R4
theorem Xr.Ps.form {w0 w wr : World} {g : Nat} {s : ByteArray} {j : Nat} {v : Value} {ts : List (List UInt8)} (h : Xr.Ps w0 w wr g s j v ts) : ∃ a d, v = .slice a ts.length d := by
  rcases h.own.2 with ⟨rfl, h0⟩ | ⟨gg, cap, cur, rfl, _⟩
  · exact ⟨none, 0, by rw [h0]⟩
  · exact ⟨_, _, rfl⟩
set_option maxRecDepth 100000 in
set_option maxHeartbeats 4000000 in
theorem Xr.path {w0 w : World} {g : Nat} {s : ByteArray} {i : Nat} (h : Xr.At w0 w g s (i + 1)) (hdot : s.data.toList[i]? = some 46) (hs : s.size ≤ 1099511627776) :
    Calls Tryz.prog 156 #[.pointer (some ⟨g, 0, none⟩)] w (Xr.POut (Wx.path s.data.toList i) w0 w g s) := by
  have hle := h.le
  have hgw := h.lt
  have hlo := h.kept.size
  have nm := Xr.name h.start hs
  obtain ⟨O, hO⟩ : ∃ O, Wx.path s.data.toList i = O := ⟨_, rfl⟩
  rw [hO]
  rw [Xr.path_is, Wx.names_dot (by omega) hdot, Nat.add_sub_cancel, Wk.len_data] at hO
  have H := Lib.hid h
  clear h hdot
  cases hn : Wx.name s.data.toList (i + 1) with
  | none =>
    rw [hn] at hO nm
    have hO : none = O := hO
    subst hO
    clear hn
    go_enter Tryz.func156, Tryz.ntmps156
    go_wp2_with (go_at_call 136; refine nm.mono ?_; rintro e w1 ⟨rfl, k1⟩)
    exact ⟨rfl, rfl, H.out.kept.trans k1⟩
  | some p =>
    obtain ⟨t, q⟩ := p
    rw [hn] at hO nm
    have HO : Hid (Xr.pt (Wx.names s.size s.data.toList q [t]) = O) := hO
    have hq := Wx.name_lt hn
    replace nm : Calls Tryz.prog 136 #[.pointer (some ⟨g, 0, none⟩)] w fun e w' => e = .returned (.string ⟨t.toArray⟩) ∧ Xr.At w w' g s q := nm
    clear hn hO
    go_enter Tryz.func156, Tryz.ntmps156
    go_wp2_with (go_at_call 136; refine nm.mono ?_; rintro e w1 ⟨rfl, a1⟩; have HA1 := Lib.hid (H.out.comp a1); have hs1 := a1.kept.size; clear a1 nm H)
    have HP : Hid (Xr.Ps w0 w (w1.alloc (.cells #[.string ⟨t.toArray⟩] 9)) g s q (.slice (some ⟨w1.heap.size, 0, none⟩) 1 1) [t]) :=
      ⟨HA1.out.then ((Below.refl _ _).alloc (Nat.le_refl _) _), World.ownsRow_lit w1 #[.string ⟨t.toArray⟩] 1 hs1 (by unfold maxLen; omega) rfl, hgw, hlo, by simp; omega⟩
    clear HA1
    generalize w1.alloc (.cells #[.string ⟨t.toArray⟩] 9) = w2 at *
    generalize (Value.slice (some ⟨w1.heap.size, 0, none⟩) 1 1) = v2 at *
    go_loopw [3] (fun v wr => ∃ (j n : Nat) (ts : List (List UInt8)), 1 ≤ ts.length ∧ ts.length ≤ 8 ∧ s.size < j + n ∧ Hid (Xr.Ps w0 w wr g s j v ts) ∧ Hid (Xr.pt (Wx.names n s.data.toList j ts) = O)) (fun _ wr => s.size - Xr.place g wr)
    case atStart => exact ⟨q, s.size, [t], Nat.le_refl _, by simp, by omega, HP, HO⟩
    case round =>
      clear HP HO hq
      obtain ⟨j, n, ts, h1, h8, hjn, HP, HO⟩ := hrel
      have HM := Lib.hid (Xr.place_eq HP.out.at_)
      have sk := fun b hb => Xr.skip ⟨#[46]⟩ b HP.out.at_.start hs hb
      have hjs := HP.out.at_.le
      cases hd : decide (s.data.toList[j]? = some 46) with
      | false =>
        have s1 := sk false ((Xr.pre_one (s := s) (i := j) 46).trans hd)
        rw [if_neg (by decide)] at s1
        have hO : some (ts, j) = O := by
          rw [← HO.out, Wx.names_end (of_decide_eq_false hd)]
          unfold Xr.pt
          simp only
          rw [if_neg (by omega)]
        subst hO
        clear hd HO sk HM
        go_wp2_with (go_at_call 110; refine s1.mono ?_; rintro e w3 ⟨rfl, a3⟩; have HP3 := Lib.hid (HP.out.then a3); clear a3 s1)
        go_ret
        obtain ⟨a, d, hv⟩ := HP3.out.form
        subst hv
        exact ⟨a, _, d, rfl, HP3.out.at_, HP3.out.hi, St.Lies.own HP3.out.own⟩
      | true =>
        have s1 := sk true ((Xr.pre_one (s := s) (i := j) 46).trans hd)
        rw [if_pos rfl, show (⟨#[46]⟩ : ByteArray).size = 1 from rfl] at s1
        have hd : s.data.toList[j]? = some 46 := of_decide_eq_true hd
        obtain ⟨a, d, hv⟩ := HP.out.form
        subst hv
        by_cases h88 : ts.length = 8
        · have hO : none = O := by rw [← HO.out, Xr.pt_nine (by omega) hd h88]
          subst hO
          have e8 : ((ts.length : Int) == 8) = true := beq_iff_eq.2 (by omega)
          have HL := Lib.hid h88
          clear hd HO sk HM h88
          generalize ts.length = N at *
          go_wp2_with (go_at_call 110; refine s1.mono ?_; rintro e w3 ⟨rfl, a3⟩; have HK3 := Lib.hid (HP.out.at_.comp a3).kept; clear a3 s1)
          exact ⟨rfl, rfl, HK3.out⟩
        · have e8 : ((ts.length : Int) == 8) = false := beq_eq_false_iff_ne.2 (by omega)
          have e8n : (ts.length == 8) = false := beq_eq_false_iff_ne.2 h88
          have HD := Lib.hid (Wx.names_dot (n := n) (out := ts) (by omega) hd)
          have nm := fun u (q : Xr.At u u g s (j + 1)) => Xr.name q hs
          cases hx : Wx.name s.data.toList (j + 1) with
          | none =>
            have hO : none = O := by rw [← HO.out, HD.out, hx]; rfl
            subst hO
            rw [hx] at nm
            clear hd HO sk HM HD hx
            go_wp2_with (first | (go_at_call 110; refine s1.mono ?_; rintro e w3 ⟨rfl, a3⟩; have HP3 := Lib.hid (HP.out.then a3); replace nm := nm _ a3.start; clear a3 s1) | (go_at_call 136; refine nm.mono ?_; rintro e w4 ⟨rfl, k4⟩; have HK4 := Lib.hid (HP3.out.at_.kept.trans k4); clear k4))
            exact ⟨rfl, rfl, HK4.out⟩
          | some p =>
            obtain ⟨t2, q2⟩ := p
            have hq2 := Wx.name_lt hx
            have HO2 : Hid (Xr.pt (Wx.names (n - 1) s.data.toList q2 (ts ++ [t2])) = O) := by
              have := HO.out
              rw [HD.out, hx] at this
              exact this
            replace nm : ∀ u, Xr.At u u g s (j + 1) → Calls Tryz.prog 136 #[.pointer (some ⟨g, 0, none⟩)] u fun e w' => e = .returned (.string ⟨t2.toArray⟩) ∧ Xr.At u w' g s q2 := fun u z => by
              have := nm u z
              rw [hx] at this
              exact this
            have h9 : ts.length + 1 ≤ 8 := by omega
            clear hd HO sk HD hx h88
            go_wp2_with (first | (go_at_call 110; refine s1.mono ?_; rintro e w3 ⟨rfl, a3⟩; have HP3 := Lib.hid (HP.out.then a3); replace nm := nm _ a3.start; clear a3 s1 HP) | (go_at_call 136; refine nm.mono ?_; rintro e w4 ⟨rfl, a4⟩; have HP4 := Lib.hid (HP3.out.then a4); clear a4 nm HP3) | (at_builtin; refine Ro.push rfl _ _ 33 9 1 16 _ rfl Tryz.underlying33 St.info rfl (by decide) _ rfl (HP4.out.own.alloc _) w4.heap.size [.string ⟨t2.toArray⟩] rfl (St.cell1 w4 ⟨t2.toArray⟩) rfl (St.ones _) (by unfold maxLen; omega) (by omega) (by have := HP4.out.hi; simp; omega) ?_; intro v6 w6 R6 hg6 _; have HP6 : Hid (Xr.Ps w0 w w6 g s q2 v6 (ts ++ [t2])) := HP4.out.push R6 hg6; clear R6 hg6))
            go_roundw
            case rel => exact ⟨q2, n - 1, ts ++ [t2], by simp, by simp; omega, by omega, HP6, HO2⟩
            case measure => have := HP6.out.at_.le; rw [Xr.place_eq HP6.out.at_, HM.out]; omega
end Go.Proofs.YtjppobeomocgbaaGreatDoor
/-
  THE WALKS of the landed reader: variable, field, longWord, word.
-/
namespace Go.Proofs.YtjppobeomocgbaaGreatDoor
open Go.RowKit
theorem Xr.four {w : World} {r : Nat} {c0 c1 c2 c3 : Value} {T : TypeId} (h : Bs.Box w r #[c0, c1, c2, c3] T) (v0 v1 v2 v3 : Value) :
    ∃ W, (((w.setCell ⟨r, 0, none⟩ v0).setCell ⟨r, 1, none⟩ v1).setCell ⟨r, 2, none⟩ v2).setCell ⟨r, 3, none⟩ v3 = W ∧ Bs.Box W r #[v0, v1, v2, v3] T ∧ (∀ k, k ≠ r → W.heap[k]? = w.heap[k]?) ∧ W.heap.size = w.heap.size ∧ W.os = w.os ∧ W.tape = w.tape ∧ W.output = w.output :=
  ⟨_, rfl, (((h.set 0 v0).set 1 v1).set 2 v2).set 3 v3, fun k hk => by
    rw [Below.heap_setCell _ _ _ _ hk, Below.heap_setCell _ _ _ _ hk, Below.heap_setCell _ _ _ _ hk, Below.heap_setCell _ _ _ _ hk], by simp, rfl, rfl, rfl⟩
theorem Xr.cells4 {w : World} {r : Nat} {c0 c1 c2 c3 : Value} {T : TypeId} (h : Bs.Box w r #[c0, c1, c2, c3] T) : w.cell? ⟨r, 0, none⟩ = some c0 ∧ w.cell? ⟨r, 1, none⟩ = some c1 ∧ w.cell? ⟨r, 2, none⟩ = some c2 ∧ w.cell? ⟨r, 3, none⟩ = some c3 ∧ ∀ q, w.frozen? ⟨r, q, none⟩ = false :=
  ⟨h.cell 0 rfl, h.cell 1 rfl, h.cell 2 rfl, h.cell 3 rfl, fun q => h.frozen q⟩
theorem Xr.box_kept {w w' : World} {g r : Nat} {cs : Array Value} {T : TypeId} (h : Bs.Box w r cs T) (hk : Cu.Kept w w' g) (hg : r ≠ g) : Bs.Box w' r cs T := (hk.block r h.lt hg).trans h
theorem Xr.At.setV {w0 w : World} {g : Nat} {s : ByteArray} {i : Nat} (h : Xr.At w0 w g s i) (b c : Nat) (v : Value) (hb : w0.heap.size ≤ b) (hg : g ≠ b) : Xr.At w0 (w.setCell ⟨b, c, none⟩ v) g s i :=
  ⟨(Below.heap_setCell _ _ _ _ hg).trans h.box, ⟨h.kept.os, h.kept.tape, h.kept.output, by simp; exact h.kept.size, fun k hk hne => (Below.heap_setCell _ _ _ _ (by show k ≠ b; omega)).trans (h.kept.block k hk hne)⟩, h.le⟩
theorem Xr.At.other {w0 w W : World} {g r : Nat} {s : ByteArray} {i : Nat} (h : Xr.At w0 w g s i) (hq : ∀ k, k ≠ r → W.heap[k]? = w.heap[k]?) (hz : W.heap.size = w.heap.size) (ho : W.os = w.os) (ht : W.tape = w.tape) (hu : W.output = w.output) (hg : g ≠ r) (hr : w0.heap.size ≤ r) : Xr.At w0 W g s i :=
  ⟨(hq g hg).trans h.box, ⟨ho.trans h.kept.os, ht.trans h.kept.tape, hu.trans h.kept.output, by rw [hz]; exact h.kept.size, fun k hk hne => (hq k (by omega)).trans (h.kept.block k hk hne)⟩, h.le⟩
/-- what a function that gives a word gives -/
def Xr.WOut (O : Except Int (Wo × Nat)) (w0 w : World) (g : Nat) (s : ByteArray) (e : Ending) (w' : World) : Prop :=
  match O with
  | .error x => e = .panicked (Xr.fault x) ∧ Cu.Kept w0 w' g
  | .ok (x, j) => ∃ a n d, e = .returned (.agg #[.int .i64 (x.kind : Int), .string ⟨x.text.toArray⟩, .slice a n d, .int .i64 x.num]) ∧ Xr.At w0 w' g s j ∧ w.heap.size ≤ w'.heap.size ∧ St.Lies w' (fun k => w.heap.size ≤ k ∧ k < w'.heap.size ∧ Rm.Ub w' k) x.path (.slice a n d)
/-- a word is given: it was laid in the result's block r (and V) -/
theorem Xr.wend {w0 w u W : World} {g r V j n d : Nat} {s : ByteArray} {a : Option Addr} (x : Wo) (hA : Xr.At w0 u g s j) (hL : St.Lies u (fun k => V < k ∧ k < u.heap.size ∧ Rm.Ub u k) x.path (.slice a n d)) (hq : ∀ k, k ≠ r → k ≠ V → W.heap[k]? = u.heap[k]?) (hz : W.heap.size = u.heap.size) (ho : W.os = u.os) (ht : W.tape = u.tape) (hu : W.output = u.output) (hgr : g < r) (hrV : r ≤ V) (hr : w.heap.size ≤ r) (h0 : w0.heap.size ≤ w.heap.size) (hwu : w.heap.size ≤ u.heap.size) :
    Xr.WOut (.ok (x, j)) w0 w g s (.returned (.agg #[.int .i64 (x.kind : Int), .string ⟨x.text.toArray⟩, .slice a n d, .int .i64 x.num])) W :=
  ⟨a, n, d, rfl, ⟨(hq g (by omega) (by omega)).trans hA.box, ⟨ho.trans hA.kept.os, ht.trans hA.kept.tape, hu.trans hA.kept.output, by rw [hz]; exact hA.kept.size, fun k hk hne => (hq k (by omega) (by omega)).trans (hA.kept.block k hk hne)⟩, hA.le⟩, by omega, hL.on fun k hk => by
    have e := hq k (by omega) (by omega)
    exact ⟨⟨by omega, by omega, hk.2.2.on e⟩, e⟩⟩
/-- what the document's word behind a '$' is -/
def Xr.var (S : List UInt8) (p : Nat) : Except Int (Wo × Nat) :=
  match Wx.name S p with
  | none => .error 1400
  | some (t, j) => (Wx.or (Wx.path S j) 1400).map fun r => (⟨2, t, r.1, 0⟩, r.2)
theorem Xr.path_none {S : List UInt8} {j : Nat} (h : S[j]? ≠ some 46) : Wx.path S j = some ([], j) := by
  rw [Xr.path_is, Wx.names_end h]
  rfl
set_option maxRecDepth 100000 in
set_option maxHeartbeats 4000000 in
theorem Xr.variable {w0 w : World} {g : Nat} {s : ByteArray} {p : Nat} (h : Xr.At w0 w g s p) (hs : s.size ≤ 1099511627776) :
    Calls Tryz.prog 134 #[.pointer (some ⟨g, 0, none⟩)] w (Xr.WOut (Xr.var s.data.toList p) w0 w g s) := by
  have hgw := h.lt
  have hlo := h.kept.size
  obtain ⟨W0, hW0⟩ : ∃ W0, w.alloc (.cells #[.int .i64 0, .string ⟨#[]⟩, .slice none 0 0, .int .i64 0] 91) = W0 := ⟨_, rfl⟩
  have hsz0 : W0.heap.size = w.heap.size + 1 := by rw [← hW0]; simp
  have HX0 : Hid (Bs.Box W0 w.heap.size #[.int .i64 0, .string ⟨#[]⟩, .slice none 0 0, .int .i64 0] 91) := by rw [← hW0]; exact Bs.Box.new _ _ _ _ rfl
  have HA0 : Hid (Xr.At w0 W0 g s p) := by rw [← hW0]; exact h.then ((Below.refl _ _).alloc (Nat.le_refl _) _)
  have nm := Xr.name HA0.out.start hs
  clear h
  obtain ⟨O, hO⟩ : ∃ O, Xr.var s.data.toList p = O := ⟨_, rfl⟩
  rw [hO]
  unfold Xr.var at hO
  cases hn : Wx.name s.data.toList p with
  | none =>
    rw [hn] at hO nm
    have hO : .error 1400 = O := hO
    subst hO
    clear hn
    go_enter Tryz.func134, Tryz.ntmps134
    go_wp2_with fail
    refine nm.mono ?_
    rintro e w1 ⟨rfl, k1⟩
    exact ⟨rfl, rfl, HA0.out.kept.trans k1⟩
  | some q =>
    obtain ⟨t, j⟩ := q
    rw [hn] at hO nm
    replace nm : Calls Tryz.prog 136 #[.pointer (some ⟨g, 0, none⟩)] W0 fun e w' => e = .returned (.string ⟨t.toArray⟩) ∧ Xr.At W0 w' g s j := nm
    have HO : Hid ((Wx.or (Wx.path s.data.toList j) 1400).map (fun r => ((⟨2, t, r.1, 0⟩ : Wo), r.2)) = O) := hO
    clear hn hO
    go_enter Tryz.func134, Tryz.ntmps134
    go_upto_region 2 with (go_at_call 136; refine nm.mono ?_; rintro e w1 ⟨rfl, a1⟩; have HA1 := Lib.hid (HA0.out.comp a1); have HX1 : Hid (Bs.Box w1 w.heap.size #[.int .i64 0, .string ⟨#[]⟩, .slice none 0 0, .int .i64 0] 91) := (a1.kept.block _ (by omega) (by omega)).trans HX0.out; have hs1 := a1.kept.size; clear a1 nm)
    have HA2 := Lib.hid (HA1.out.then ((Below.refl w1.heap.size w1).alloc (Nat.le_refl _) (.cells #[.int .i64 2, .string ⟨t.toArray⟩, .slice none 0 0, .int .i64 0] 91)))
    have HX2 := Lib.hid (HX1.out.alloc (.cells #[.int .i64 2, .string ⟨t.toArray⟩, .slice none 0 0, .int .i64 0] 91))
    have HV2 : Hid (Bs.Box (w1.alloc (.cells #[.int .i64 2, .string ⟨t.toArray⟩, .slice none 0 0, .int .i64 0] 91)) w1.heap.size #[.int .i64 2, .string ⟨t.toArray⟩, .slice none 0 0, .int .i64 0] 91) := Bs.Box.new _ _ _ _ rfl
    clear HA1 HX1 HX0 HA0
    generalize w1.alloc (.cells #[.int .i64 2, .string ⟨t.toArray⟩, .slice none 0 0, .int .i64 0] 91) = w2 at *
    have hrV : w.heap.size < w1.heap.size := by omega
    have hV2 := HV2.out.lt
    generalize w1.heap.size = V at *
    obtain ⟨r, hr⟩ : ∃ r, w.heap.size = r := ⟨_, rfl⟩
    rw [hr] at HX2 hrV ⊢
    have hgr : g < r := by omega
    have hwr : w.heap.size ≤ r := by omega
    have hne : ¬ r = V := by omega
    have hne2 : ¬ V = r := by omega
    clear hr hsz0 hW0
    have sk := fun b hb => Xr.skip ⟨#[46]⟩ b HA2.out.start hs hb
    cases hd : decide (s.data.toList[j]? = some 46) with
    | false =>
      have s1 := sk false ((Xr.pre_one (s := s) (i := j) 46).trans hd)
      rw [if_neg (by decide)] at s1
      have hO : .ok ((⟨2, t, [], 0⟩ : Wo), j) = O := by
        rw [← HO.out, Xr.path_none (of_decide_eq_false hd)]
        rfl
      subst hO
      clear hd HO sk
      go_wp2_with (go_at_call 110; refine s1.mono ?_; rintro e w3 ⟨rfl, a3⟩; have HA3 := Lib.hid (HA2.out.comp a3); have hs3 := a3.kept.size; have HX3 := Lib.hid (Xr.box_kept HX2.out a3.kept (by omega)); obtain ⟨v0, v1, v2, v3, -⟩ := Xr.cells4 (Xr.box_kept HV2.out a3.kept (by omega)); obtain ⟨x0, x1, x2, x3, xf⟩ := Xr.cells4 HX3.out; clear a3 s1)
      obtain ⟨W, hW, hX, hq, hz, ho, ht, hu⟩ := Xr.four HX3.out (.int .i64 2) (.string ⟨t.toArray⟩) (.slice none 0 0) (.int .i64 0)
      rw [hW]
      obtain ⟨y0, y1, y2, y3, -⟩ := Xr.cells4 hX
      refine bodyPost_ret (v := .agg #[.int .i64 2, .string ⟨t.toArray⟩, .slice none 0 0, .int .i64 0]) (by simp [results, Tryz.results134, go_sem, y0, y1, y2, y3]) rfl ?_
      exact Xr.wend (r := r) (V := r) ⟨2, t, [], 0⟩ HA3.out (St.Lies.nil _ _) (fun k h1 _ => hq k h1) hz ho ht hu hgr (Nat.le_refl _) hwr hlo (by omega)
    | true =>
      have s1 := sk true ((Xr.pre_one (s := s) (i := j) 46).trans hd)
      rw [if_pos rfl, show (⟨#[46]⟩ : ByteArray).size = 1 from rfl] at s1
      have hd : s.data.toList[j]? = some 46 := of_decide_eq_true hd
      have pt := fun u (q : Xr.At u u g s (j + 1)) => Xr.path q hd hs
      cases hp : Wx.path s.data.toList j with
      | none =>
        have hO : .error 1400 = O := by
          rw [← HO.out, hp]
          rfl
        subst hO
        rw [hp] at pt
        clear hd HO sk hp
        go_wp2_with (first | (go_at_call 110; refine s1.mono ?_; rintro e w3 ⟨rfl, a3⟩; have HA3 := Lib.hid (HA2.out.comp a3); replace pt := pt _ a3.start; clear a3 s1) | (go_at_call 156; refine pt.mono ?_; rintro e w4 ⟨rfl, k4⟩; have HK4 := Lib.hid (HA3.out.kept.trans k4); clear k4))
        exact ⟨rfl, rfl, HK4.out⟩
      | some z =>
        obtain ⟨ts, q⟩ := z
        have hO : .ok ((⟨2, t, ts, 0⟩ : Wo), q) = O := by
          rw [← HO.out, hp]
          rfl
        subst hO
        replace pt : ∀ u, Xr.At u u g s (j + 1) → Calls Tryz.prog 156 #[.pointer (some ⟨g, 0, none⟩)] u fun e w' => ∃ a n d, e = .returned (.slice a n d) ∧ Xr.At u w' g s q ∧ u.heap.size ≤ w'.heap.size ∧ St.Lies w' (fun k => u.heap.size ≤ k ∧ k < w'.heap.size ∧ Rm.Ub w' k) ts (.slice a n d) := fun u z => by
          have := pt u z
          rw [hp] at this
          exact this
        clear hd HO sk hp
        go_upto_region 4 with (first | (go_at_call 110; refine s1.mono ?_; rintro e w3 ⟨rfl, a3⟩; have HA3 := Lib.hid (HA2.out.comp a3); have hs3 := a3.kept.size; have HX3 := Lib.hid (Xr.box_kept HX2.out a3.kept (by omega)); have HV3 := Lib.hid (Xr.box_kept HV2.out a3.kept (by omega)); replace pt := pt _ a3.start; clear a3 s1) | (go_at_call 156; refine pt.mono ?_; rintro e w4 ⟨a, n, d, rfl, a4, hs4, l4⟩; have HA4 := Lib.hid (HA3.out.comp a4); have HX4 := Lib.hid (Xr.box_kept HX3.out a4.kept (by omega)); have HV4 := Lib.hid (Xr.box_kept HV3.out a4.kept (by omega)); obtain ⟨v0, v1, v2, v3, vf⟩ := Xr.cells4 HV4.out; have HL4 := Lib.hid l4; clear a4 l4 pt))
        have HV5 : Hid (Bs.Box (w4.setCell ⟨V, 2, none⟩ (.slice a n d)) V #[.int .i64 2, .string ⟨t.toArray⟩, .slice a n d, .int .i64 0] 91) := HV4.out.set 2 _
        have HX5 : Hid (Bs.Box (w4.setCell ⟨V, 2, none⟩ (.slice a n d)) r #[.int .i64 0, .string ⟨#[]⟩, .slice none 0 0, .int .i64 0] 91) := (Below.heap_setCell _ _ _ _ hne).trans HX4.out
        have HA5 := Lib.hid (HA4.out.setV V 2 (.slice a n d) (by omega) (by omega))
        have HL5 : Hid (St.Lies (w4.setCell ⟨V, 2, none⟩ (.slice a n d)) (fun k => V < k ∧ k < (w4.setCell ⟨V, 2, none⟩ (.slice a n d)).heap.size ∧ Rm.Ub (w4.setCell ⟨V, 2, none⟩ (.slice a n d)) k) ts (.slice a n d)) := HL4.out.on fun k hk => by
          have e : (w4.setCell ⟨V, 2, none⟩ (.slice a n d)).heap[k]? = w4.heap[k]? := Below.heap_setCell _ _ _ _ (by show k ≠ V; omega)
          exact ⟨⟨by omega, by simp; omega, hk.2.2.on e⟩, e⟩
        have hs5 : w.heap.size ≤ (w4.setCell ⟨V, 2, none⟩ (.slice a n d)).heap.size := by simp; omega
        clear v0 v1 v2 v3 vf HA4 HX4 HV4 HL4 HA3 HX3 HV3 HA2 HX2 HV2
        generalize w4.setCell ⟨V, 2, none⟩ (.slice a n d) = w5 at *
        obtain ⟨v0, v1, v2, v3, -⟩ := Xr.cells4 HV5.out
        obtain ⟨x0, x1, x2, x3, xf⟩ := Xr.cells4 HX5.out
        go_wp2_with fail
        obtain ⟨W, hW, hX, hq, hz, ho, ht, hu⟩ := Xr.four HX5.out (.int .i64 2) (.string ⟨t.toArray⟩) (.slice a n d) (.int .i64 0)
        rw [hW]
        obtain ⟨y0, y1, y2, y3, -⟩ := Xr.cells4 hX
        refine bodyPost_ret (v := .agg #[.int .i64 2, .string ⟨t.toArray⟩, .slice a n d, .int .i64 0]) (by simp [results, Tryz.results134, go_sem, y0, y1, y2, y3]) rfl ?_
        exact Xr.wend (r := r) (V := V) ⟨2, t, ts, 0⟩ HA5.out HL5.out (fun k h1 _ => hq k h1) hz ho ht hu hgr (by omega) hwr hlo hs5
end Go.Proofs.YtjppobeomocgbaaGreatDoor
/-
  THE WALK of the landed reader: field.
-/
namespace Go.Proofs.YtjppobeomocgbaaGreatDoor
open Go.RowKit
/-- what the document's word at a '.' is -/
def Xr.fld (S : List UInt8) (i : Nat) : Except Int (Wo × Nat) :=
  if i + 1 < S.length ∧ Lx.blank (S.getD (i + 1) 0) = false ∧ S.getD (i + 1) 0 ≠ 124 then (Wx.or (Wx.path S i) 1400).map fun r => (⟨1, [], r.1, 0⟩, r.2)
  else .ok (⟨1, [], [], 0⟩, i + 1)
theorem Xr.fld_is (s : ByteArray) (i : Nat) : Xr.fld s.data.toList i = if Xr.fin s (i + 1) = true then .ok (⟨1, [], [], 0⟩, i + 1) else (Wx.or (Wx.path s.data.toList i) 1400).map fun r => (⟨1, [], r.1, 0⟩, r.2) := by
  unfold Xr.fld Xr.fin
  rw [Wk.len_data]
  by_cases h1 : s.size ≤ i + 1
  · rw [decide_eq_true h1, if_neg (fun q => by omega)]
    rfl
  · rw [decide_eq_false h1, Bool.false_or]
    cases h2 : Lx.blank (s.data.toList.getD (i + 1) 0) with
    | true => rw [if_neg (fun q => by cases q.2.1)]; rfl
    | false =>
      rw [Bool.false_or]
      by_cases h3 : s.data.toList.getD (i + 1) 0 = 124
      · rw [decide_eq_true h3, if_neg (fun q => q.2.2 h3)]; rfl
      · rw [decide_eq_false h3, if_pos ⟨by omega, rfl, h3⟩]; rfl
set_option maxRecDepth 100000 in
set_option maxHeartbeats 4000000 in
theorem Xr.field {w0 w : World} {g : Nat} {s : ByteArray} {i : Nat} (h : Xr.At w0 w g s (i + 1)) (hdot : s.data.toList[i]? = some 46) (hs : s.size ≤ 1099511627776) :
    Calls Tryz.prog 135 #[.pointer (some ⟨g, 0, none⟩)] w (Xr.WOut (Xr.fld s.data.toList i) w0 w g s) := by
  have hgw := h.lt
  have hlo := h.kept.size
  obtain ⟨w2, hw2⟩ : ∃ W0, (w.alloc (.cells #[.int .i64 0, .string ⟨#[]⟩, .slice none 0 0, .int .i64 0] 91)).alloc (.cells #[.int .i64 1, .string ⟨#[]⟩, .slice none 0 0, .int .i64 0] 91) = W0 := ⟨_, rfl⟩
  have hsz0 : w2.heap.size = w.heap.size + 1 + 1 := by rw [← hw2]; simp
  have HX2 : Hid (Bs.Box w2 w.heap.size #[.int .i64 0, .string ⟨#[]⟩, .slice none 0 0, .int .i64 0] 91) := by rw [← hw2]; exact (Bs.Box.new _ _ _ _ rfl).alloc _
  have HV2 : Hid (Bs.Box w2 (w.heap.size + 1) #[.int .i64 1, .string ⟨#[]⟩, .slice none 0 0, .int .i64 0] 91) := by rw [← hw2]; exact Bs.Box.new _ _ _ _ (by simp)
  have HA2 : Hid (Xr.At w0 w2 g s (i + 1)) := by rw [← hw2]; exact (h.then ((Below.refl _ _).alloc (Nat.le_refl _) _)).then ((Below.refl _ _).alloc (Nat.le_refl _) _)
  have me := Xr.mayEnd HA2.out
  clear h
  obtain ⟨O, hO⟩ : ∃ O, Xr.fld s.data.toList i = O := ⟨_, rfl⟩
  rw [hO]
  rw [Xr.fld_is] at hO
  have HO := Lib.hid hO
  have HW2 := Lib.hid hw2
  clear hO hw2
  go_enter Tryz.func135, Tryz.ntmps135
  go_upto_region 2 with fail
  rw [HW2.out]
  obtain ⟨r, hr⟩ : ∃ r, w.heap.size = r := ⟨_, rfl⟩
  obtain ⟨V, hV⟩ : ∃ V, w.heap.size + 1 = V := ⟨_, rfl⟩
  rw [hV] at HV2 ⊢
  rw [hr] at HX2 ⊢
  have hgr : g < r := by omega
  have hwr : w.heap.size ≤ r := by omega
  have hrV : r < V := by omega
  have hV2 : V < w2.heap.size := by omega
  have hne : ¬ r = V := by omega
  have hne2 : ¬ V = r := by omega
  clear hr hV hsz0 HW2
  cases hf : Xr.fin s (i + 1) with
  | true =>
    rw [hf] at me HO
    have hO : .ok ((⟨1, [], [], 0⟩ : Wo), i + 1) = O := by rw [← HO.out, if_pos rfl]
    subst hO
    clear hf HO
    go_wp2_with (go_at_call 112; refine me.mono ?_; rintro e w3 ⟨rfl, n3, rfl⟩; have HA3 := Lib.hid (HA2.out.drewN n3); have HX3 : Hid (Bs.Box (w2.drewN n3) r #[.int .i64 0, .string ⟨#[]⟩, .slice none 0 0, .int .i64 0] 91) := HX2; have HV3 : Hid (Bs.Box (w2.drewN n3) V #[.int .i64 1, .string ⟨#[]⟩, .slice none 0 0, .int .i64 0] 91) := HV2; have hV3 := HV3.out.lt; clear me HA2 HX2 HV2 hV2; generalize w2.drewN n3 = w3 at *; obtain ⟨v0, v1, v2, v3, -⟩ := Xr.cells4 HV3.out; obtain ⟨x0, x1, x2, x3, xf⟩ := Xr.cells4 HX3.out)
    obtain ⟨W, hW, hX, hq, hz, ho, ht, hu⟩ := Xr.four HX3.out (.int .i64 1) (.string ⟨#[]⟩) (.slice none 0 0) (.int .i64 0)
    rw [hW]
    obtain ⟨y0, y1, y2, y3, -⟩ := Xr.cells4 hX
    refine bodyPost_ret (v := .agg #[.int .i64 1, .string ⟨#[]⟩, .slice none 0 0, .int .i64 0]) (by simp [results, Tryz.results135, go_sem, y0, y1, y2, y3]) rfl ?_
    exact Xr.wend (r := r) (V := r) ⟨1, [], [], 0⟩ HA3.out (St.Lies.nil _ _) (fun k h1 _ => hq k h1) hz ho ht hu hgr (Nat.le_refl _) hwr hlo (by omega)
  | false =>
    rw [hf] at me HO
    have pt := fun u (q : Xr.At u u g s (i + 1)) => Xr.path q hdot hs
    clear hf
    cases hp : Wx.path s.data.toList i with
    | none =>
      have hO : .error 1400 = O := by
        rw [← HO.out, if_neg (by decide), hp]
        rfl
      subst hO
      rw [hp] at pt
      clear HO hp
      go_wp2_with (first | (go_at_call 112; refine me.mono ?_; rintro e w3 ⟨rfl, n3, rfl⟩; have HA3 := Lib.hid (HA2.out.drewN n3); clear me HA2 HX2 HV2 hV2; generalize w2.drewN n3 = w3 at *; replace pt := pt _ HA3.out.start) | (go_at_call 156; refine pt.mono ?_; rintro e w4 ⟨rfl, k4⟩; have HK4 := Lib.hid (HA3.out.kept.trans k4); clear k4))
      exact ⟨rfl, rfl, HK4.out⟩
    | some z =>
      obtain ⟨ts, q⟩ := z
      have hO : .ok ((⟨1, [], ts, 0⟩ : Wo), q) = O := by
        rw [← HO.out, if_neg (by decide), hp]
        rfl
      subst hO
      replace pt : ∀ u, Xr.At u u g s (i + 1) → Calls Tryz.prog 156 #[.pointer (some ⟨g, 0, none⟩)] u fun e w' => ∃ a n d, e = .returned (.slice a n d) ∧ Xr.At u w' g s q ∧ u.heap.size ≤ w'.heap.size ∧ St.Lies w' (fun k => u.heap.size ≤ k ∧ k < w'.heap.size ∧ Rm.Ub w' k) ts (.slice a n d) := fun u z => by
        have := pt u z
        rw [hp] at this
        exact this
      clear HO hp
      go_upto_region 4 with (first | (go_at_call 112; refine me.mono ?_; rintro e w3 ⟨rfl, n3, rfl⟩; have HA3 := Lib.hid (HA2.out.drewN n3); have HX3 : Hid (Bs.Box (w2.drewN n3) r #[.int .i64 0, .string ⟨#[]⟩, .slice none 0 0, .int .i64 0] 91) := HX2; have HV3 : Hid (Bs.Box (w2.drewN n3) V #[.int .i64 1, .string ⟨#[]⟩, .slice none 0 0, .int .i64 0] 91) := HV2; have hV3 := HV3.out.lt; clear me HA2 HX2 HV2 hV2; generalize w2.drewN n3 = w3 at *; replace pt := pt _ HA3.out.start) | (go_at_call 156; refine pt.mono ?_; rintro e w4 ⟨a, n, d, rfl, a4, hs4, l4⟩; have HA4 := Lib.hid (HA3.out.comp a4); have HX4 := Lib.hid (Xr.box_kept HX3.out a4.kept (by omega)); have HV4 := Lib.hid (Xr.box_kept HV3.out a4.kept (by omega)); obtain ⟨v0, v1, v2, v3, vf⟩ := Xr.cells4 HV4.out; have HL4 := Lib.hid l4; clear a4 l4 pt))
      have HV5 : Hid (Bs.Box (w4.setCell ⟨V, 2, none⟩ (.slice a n d)) V #[.int .i64 1, .string ⟨#[]⟩, .slice a n d, .int .i64 0] 91) := HV4.out.set 2 _
      have HX5 : Hid (Bs.Box (w4.setCell ⟨V, 2, none⟩ (.slice a n d)) r #[.int .i64 0, .string ⟨#[]⟩, .slice none 0 0, .int .i64 0] 91) := (Below.heap_setCell _ _ _ _ hne).trans HX4.out
      have HA5 := Lib.hid (HA4.out.setV V 2 (.slice a n d) (by omega) (by omega))
      have HL5 : Hid (St.Lies (w4.setCell ⟨V, 2, none⟩ (.slice a n d)) (fun k => V < k ∧ k < (w4.setCell ⟨V, 2, none⟩ (.slice a n d)).heap.size ∧ Rm.Ub (w4.setCell ⟨V, 2, none⟩ (.slice a n d)) k) ts (.slice a n d)) := HL4.out.on fun k hk => by
        have e : (w4.setCell ⟨V, 2, none⟩ (.slice a n d)).heap[k]? = w4.heap[k]? := Below.heap_setCell _ _ _ _ (by show k ≠ V; omega)
        exact ⟨⟨by omega, by simp; omega, hk.2.2.on e⟩, e⟩
      have hs5 : w.heap.size ≤ (w4.setCell ⟨V, 2, none⟩ (.slice a n d)).heap.size := by simp; omega
      clear v0 v1 v2 v3 vf HA4 HX4 HV4 HL4 HA3 HX3 HV3
      generalize w4.setCell ⟨V, 2, none⟩ (.slice a n d) = w5 at *
      obtain ⟨v0, v1, v2, v3, -⟩ := Xr.cells4 HV5.out
      obtain ⟨x0, x1, x2, x3, xf⟩ := Xr.cells4 HX5.out
      go_wp2_with fail
      obtain ⟨W, hW, hX, hq, hz, ho, ht, hu⟩ := Xr.four HX5.out (.int .i64 1) (.string ⟨#[]⟩) (.slice a n d) (.int .i64 0)
      rw [hW]
      obtain ⟨y0, y1, y2, y3, -⟩ := Xr.cells4 hX
      refine bodyPost_ret (v := .agg #[.int .i64 1, .string ⟨#[]⟩, .slice a n d, .int .i64 0]) (by simp [results, Tryz.results135, go_sem, y0, y1, y2, y3]) rfl ?_
      exact Xr.wend (r := r) (V := V) ⟨1, [], ts, 0⟩ HA5.out HL5.out (fun k h1 _ => hq k h1) hz ho ht hu hgr (by omega) hwr hlo hs5
end Go.Proofs.YtjppobeomocgbaaGreatDoor

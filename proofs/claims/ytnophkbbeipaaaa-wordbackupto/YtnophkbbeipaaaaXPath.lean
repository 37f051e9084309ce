/-
  THE WALKS of the landed reader: path, variable, field.
-/
import Derived.Test.YtnophkbbeipaaaaXText
import Derived.Test.YtnophkbbeipaaaaOLt
namespace Go.Proofs.Ytnophkbbeipaaaa
open Go.RowKit
theorem Wx.names_len : ∀ (n : Nat) (S : List UInt8) (i : Nat) (out p : List (List UInt8)) (j : Nat), Wx.names n S i out = some (p, j) → out.length ≤ p.length := by
  intro n
  induction n with
  | zero =>
    intro S i out p j h
    unfold Wx.names at h
    simp only [Option.some.injEq, Prod.mk.injEq] at h
    rw [h.1]
    exact Nat.le_refl _
  | succ n ih =>
    intro S i out p j h
    unfold Wx.names at h
    split at h
    · split at h
      · cases h
      · have := ih _ _ _ _ _ h
        rw [List.length_append] at this
        omega
    · simp only [Option.some.injEq, Prod.mk.injEq] at h
      rw [h.1]
      exact Nat.le_refl _
/-- what the document's path makes of the names -/
def Xr.pt (r : Option (List (List UInt8) × Nat)) : Option (List (List UInt8) × Nat) :=
  match r with
  | none => none
  | some (p, j) => if 8 < p.length then none else some (p, j)
theorem Xr.path_is (S : List UInt8) (i : Nat) : Wx.path S i = Xr.pt (Wx.names (S.length + 1) S i []) := rfl
/-- a ninth name -/
theorem Xr.pt_nine {S : List UInt8} {n j : Nat} {out : List (List UInt8)} (hn : 0 < n) (h : S[j]? = some 46) (hl : out.length = 8) : Xr.pt (Wx.names n S j out) = none := by
  rw [Wx.names_dot hn h]
  cases hx : Wx.name S (j + 1) with
  | none => rfl
  | some p =>
    obtain ⟨t, q⟩ := p
    simp only
    cases hy : Wx.names (n - 1) S q (out ++ [t]) with
    | none => rfl
    | some r =>
      obtain ⟨p, k⟩ := r
      have := Wx.names_len _ _ _ _ _ _ hy
      rw [List.length_append, List.length_singleton] at this
      unfold Xr.pt
      simp only
      rw [if_pos (by omega)]
/-- what path gives -/
def Xr.POut (O : Option (List (List UInt8) × Nat)) (w0 w : World) (g : Nat) (s : ByteArray) (e : Ending) (w' : World) : Prop :=
  match O with
  | none => e = .panicked (Xr.fault 1400) ∧ Cu.Kept w0 w' g
  | some (ts, j) => ∃ a n d, e = .returned (.slice a n d) ∧ Xr.At w0 w' g s j ∧ w.heap.size ≤ w'.heap.size ∧ St.Lies w' (fun k => w.heap.size ≤ k ∧ k < w'.heap.size ∧ Rm.Ub w' k) ts (.slice a n d)
/-- names under way: the reader and the row -/
structure Xr.Ps (w0 w wr : World) (g : Nat) (s : ByteArray) (j : Nat) (v : Value) (ts : List (List UInt8)) : Prop where
  at_ : Xr.At w0 wr g s j
  own : wr.ownsRow w.heap.size 9 1 v ts.length (St.cells ts)
  lt : g < w.heap.size
  lo : w0.heap.size ≤ w.heap.size
  hi : w.heap.size ≤ wr.heap.size
theorem Xr.Ps.then {w0 w wr w' : World} {g : Nat} {s : ByteArray} {i j : Nat} {v : Value} {ts : List (List UInt8)} (h : Xr.Ps w0 w wr g s i v ts) (h2 : Xr.At wr w' g s j) : Xr.Ps w0 w w' g s j v ts :=
  ⟨h.at_.comp h2, Rm.own_on h.own (fun k hk => h2.kept.block k (h.own.lt k hk).2 (fun e => by have h1 := (h.own.lt k hk).1; have h3 := h.lt; rw [e] at h1; exact absurd h1 (Nat.not_le.2 h3))), h.lt, h.lo, Nat.le_trans h.hi h2.kept.size⟩
theorem Xr.Ps.push {w0 w wr w4 : World} {g : Nat} {s : ByteArray} {j : Nat} {v v4 : Value} {ts : List (List UInt8)} {t : List UInt8} {o : Obj} (h : Xr.Ps w0 w wr g s j v ts) (R4 : w4.ownsRow w.heap.size 9 1 v4 (ts.length + 1) (St.cells ts ++ [.string ⟨t.toArray⟩])) (hg : (wr.alloc o).grownBy w4 v.ownBlock) : Xr.Ps w0 w w4 g s j v4 (ts ++ [t]) := by
  have hsz := h.at_.kept.size
  have hlo := h.lo
  have hhi := h.hi
  have hblk : ∀ k, k < wr.heap.size → v.ownBlock ≠ some k → w4.heap[k]? = wr.heap[k]? := fun k hk hne => (hg.block k (by simp; omega) (fun e => hne e.symm)).trans (Below.heap_alloc _ _ _ hk)
  have hgw : v.ownBlock ≠ some g := fun e => by have := (h.own.lt g e).1; have := h.lt; omega
  have hs4 : wr.heap.size ≤ w4.heap.size := by
    have := hg.size
    simp at this
    omega
  refine ⟨⟨(hblk g h.at_.lt hgw).trans h.at_.box, ⟨hg.os.trans h.at_.kept.os, hg.tape.trans h.at_.kept.tape, hg.output.trans h.at_.kept.output, by omega, fun k hk hne => ?_⟩, h.at_.le⟩, ?_, h.lt, h.lo, by omega⟩
  · exact (hblk k (by omega) (fun e => by have := (h.own.lt k e).1; omega)).trans (h.at_.kept.block k hk hne)
  · rw [List.length_append, St.cells_snoc]
    exact R4
theorem Xr.Ps.form {w0 w wr : World} {g : Nat} {s : ByteArray} {j : Nat} {v : Value} {ts : List (List UInt8)} (h : Xr.Ps w0 w wr g s j v ts) : ∃ a d, v = .slice a ts.length d := by
  rcases h.own.2 with ⟨rfl, h0⟩ | ⟨gg, cap, cur, rfl, _⟩
  · exact ⟨none, 0, by rw [h0]⟩
  · exact ⟨_, _, rfl⟩
set_option maxRecDepth 100000 in
set_option maxHeartbeats 4000000 in
theorem Xr.path {w0 w : World} {g : Nat} {s : ByteArray} {i : Nat} (h : Xr.At w0 w g s (i + 1)) (hdot : s.data.toList[i]? = some 46) (hs : s.size ≤ 1099511627776) :
    Calls Try.prog 50 #[.pointer (some ⟨g, 0, none⟩)] w (Xr.POut (Wx.path s.data.toList i) w0 w g s) := by
  have hle := h.le
  have hgw := h.lt
  have hlo := h.kept.size
  have nm := Xr.name h.start hs
  obtain ⟨O, hO⟩ : ∃ O, Wx.path s.data.toList i = O := ⟨_, rfl⟩
  rw [hO]
  rw [Xr.path_is, Wx.names_dot (by omega) hdot, Nat.add_sub_cancel, Wk.len_data] at hO
  have H := Lib.hid h
  clear h hdot
  cases hn : Wx.name s.data.toList (i + 1) with
  | none =>
    rw [hn] at hO nm
    have hO : none = O := hO
    subst hO
    clear hn
    go_enter Try.func50, Try.ntmps50
    go_wp2_with (go_at_call 42; refine nm.mono ?_; rintro e w1 ⟨rfl, k1⟩)
    exact ⟨rfl, rfl, H.out.kept.trans k1⟩
  | some p =>
    obtain ⟨t, q⟩ := p
    rw [hn] at hO nm
    have HO : Hid (Xr.pt (Wx.names s.size s.data.toList q [t]) = O) := hO
    have hq := Wx.name_lt hn
    replace nm : Calls Try.prog 42 #[.pointer (some ⟨g, 0, none⟩)] w fun e w' => e = .returned (.string ⟨t.toArray⟩) ∧ Xr.At w w' g s q := nm
    clear hn hO
    go_enter Try.func50, Try.ntmps50
    go_wp2_with (go_at_call 42; refine nm.mono ?_; rintro e w1 ⟨rfl, a1⟩; have HA1 := Lib.hid (H.out.comp a1); have hs1 := a1.kept.size; clear a1 nm H)
    have HP : Hid (Xr.Ps w0 w (w1.alloc (.cells #[.string ⟨t.toArray⟩] 9)) g s q (.slice (some ⟨w1.heap.size, 0, none⟩) 1 1) [t]) :=
      ⟨HA1.out.then ((Below.refl _ _).alloc (Nat.le_refl _) _), World.ownsRow_lit w1 #[.string ⟨t.toArray⟩] 1 hs1 (by unfold maxLen; omega) rfl, hgw, hlo, by simp; omega⟩
    clear HA1
    generalize w1.alloc (.cells #[.string ⟨t.toArray⟩] 9) = w2 at *
    generalize (Value.slice (some ⟨w1.heap.size, 0, none⟩) 1 1) = v2 at *
    go_loopw [3] (fun v wr => ∃ (j n : Nat) (ts : List (List UInt8)), 1 ≤ ts.length ∧ ts.length ≤ 8 ∧ s.size < j + n ∧ Hid (Xr.Ps w0 w wr g s j v ts) ∧ Hid (Xr.pt (Wx.names n s.data.toList j ts) = O)) (fun _ wr => s.size - Xr.place g wr)
    case atStart => exact ⟨q, s.size, [t], Nat.le_refl _, by simp, by omega, HP, HO⟩
    case round =>
      clear HP HO hq
      obtain ⟨j, n, ts, h1, h8, hjn, HP, HO⟩ := hrel
      have HM := Lib.hid (Xr.place_eq HP.out.at_)
      have sk := fun b hb => Xr.skip ⟨#[46]⟩ b HP.out.at_.start hs hb
      have hjs := HP.out.at_.le
      cases hd : decide (s.data.toList[j]? = some 46) with
      | false =>
        have s1 := sk false ((Xr.pre_one (s := s) (i := j) 46).trans hd)
        rw [if_neg (by decide)] at s1
        have hO : some (ts, j) = O := by
          rw [← HO.out, Wx.names_end (of_decide_eq_false hd)]
          unfold Xr.pt
          simp only
          rw [if_neg (by omega)]
        subst hO
        clear hd HO sk HM
        go_wp2_with (go_at_call 32; refine s1.mono ?_; rintro e w3 ⟨rfl, a3⟩; have HP3 := Lib.hid (HP.out.then a3); clear a3 s1)
        go_ret
        obtain ⟨a, d, hv⟩ := HP3.out.form
        subst hv
        exact ⟨a, _, d, rfl, HP3.out.at_, HP3.out.hi, St.Lies.own HP3.out.own⟩
      | true =>
        have s1 := sk true ((Xr.pre_one (s := s) (i := j) 46).trans hd)
        rw [if_pos rfl, show (⟨#[46]⟩ : ByteArray).size = 1 from rfl] at s1
        have hd : s.data.toList[j]? = some 46 := of_decide_eq_true hd
        obtain ⟨a, d, hv⟩ := HP.out.form
        subst hv
        by_cases h88 : ts.length = 8
        · have hO : none = O := by rw [← HO.out, Xr.pt_nine (by omega) hd h88]
          subst hO
          have e8 : ((ts.length : Int) == 8) = true := beq_iff_eq.2 (by omega)
          have HL := Lib.hid h88
          clear hd HO sk HM h88
          generalize ts.length = N at *
          go_wp2_with (go_at_call 32; refine s1.mono ?_; rintro e w3 ⟨rfl, a3⟩; have HK3 := Lib.hid (HP.out.at_.comp a3).kept; clear a3 s1)
          exact ⟨rfl, rfl, HK3.out⟩
        · have e8 : ((ts.length : Int) == 8) = false := beq_eq_false_iff_ne.2 (by omega)
          have e8n : (ts.length == 8) = false := beq_eq_false_iff_ne.2 h88
          have HD := Lib.hid (Wx.names_dot (n := n) (out := ts) (by omega) hd)
          have nm := fun u (q : Xr.At u u g s (j + 1)) => Xr.name q hs
          cases hx : Wx.name s.data.toList (j + 1) with
          | none =>
            have hO : none = O := by rw [← HO.out, HD.out, hx]; rfl
            subst hO
            rw [hx] at nm
            clear hd HO sk HM HD hx
            go_wp2_with (first | (go_at_call 32; refine s1.mono ?_; rintro e w3 ⟨rfl, a3⟩; have HP3 := Lib.hid (HP.out.then a3); replace nm := nm _ a3.start; clear a3 s1) | (go_at_call 42; refine nm.mono ?_; rintro e w4 ⟨rfl, k4⟩; have HK4 := Lib.hid (HP3.out.at_.kept.trans k4); clear k4))
            exact ⟨rfl, rfl, HK4.out⟩
          | some p =>
            obtain ⟨t2, q2⟩ := p
            have hq2 := Wx.name_lt hx
            have HO2 : Hid (Xr.pt (Wx.names (n - 1) s.data.toList q2 (ts ++ [t2])) = O) := by
              have := HO.out
              rw [HD.out, hx] at this
              exact this
            replace nm : ∀ u, Xr.At u u g s (j + 1) → Calls Try.prog 42 #[.pointer (some ⟨g, 0, none⟩)] u fun e w' => e = .returned (.string ⟨t2.toArray⟩) ∧ Xr.At u w' g s q2 := fun u z => by
              have := nm u z
              rw [hx] at this
              exact this
            have h9 : ts.length + 1 ≤ 8 := by omega
            clear hd HO sk HD hx h88
            go_wp2_with (first | (go_at_call 32; refine s1.mono ?_; rintro e w3 ⟨rfl, a3⟩; have HP3 := Lib.hid (HP.out.then a3); replace nm := nm _ a3.start; clear a3 s1 HP) | (go_at_call 42; refine nm.mono ?_; rintro e w4 ⟨rfl, a4⟩; have HP4 := Lib.hid (HP3.out.then a4); clear a4 nm HP3) | (at_builtin; refine Ro.push rfl _ _ 33 9 1 16 _ rfl Try.underlying33 St.info rfl (by decide) _ rfl (HP4.out.own.alloc _) w4.heap.size [.string ⟨t2.toArray⟩] rfl (St.cell1 w4 ⟨t2.toArray⟩) rfl (St.ones _) (by unfold maxLen; omega) (by omega) (by have := HP4.out.hi; simp; omega) ?_; intro v6 w6 R6 hg6 _; have HP6 : Hid (Xr.Ps w0 w w6 g s q2 v6 (ts ++ [t2])) := HP4.out.push R6 hg6; clear R6 hg6))
            go_roundw
            case rel => exact ⟨q2, n - 1, ts ++ [t2], by simp, by simp; omega, by omega, HP6, HO2⟩
            case measure => have := HP6.out.at_.le; rw [Xr.place_eq HP6.out.at_, HM.out]; omega
end Go.Proofs.Ytnophkbbeipaaaa

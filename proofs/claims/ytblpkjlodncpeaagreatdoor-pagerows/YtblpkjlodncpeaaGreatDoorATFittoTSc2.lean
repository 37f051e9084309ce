/-
  PLAIN: the states that a page leads to: just the parts that their place has, names of at most 32 bytes, what is held one of four names.
-/
import Derived.Test.YtblpkjlodncpeaaGreatDoorATPretoRDig
import Derived.Test.YtblpkjlodncpeaaGreatDoorAKPlaintoNorm
import Derived.Deep.QuietTactic
import Derived.BigQuiet
import Derived.Deep.RegionWith
import Derived.Deep.Cut
import Derived.Deep.CutRange
import Derived.Test.YtblpkjlodncpeaaGreatDoorATBoxtoTTell
import Derived.Test.YtblpkjlodncpeaaGreatDoorATRowA
import Derived.OwnWalk
import Derived.CellFam
import Derived.Deep.RegionHeld
import Derived.Laws.BitsLemmas
import Derived.Lib.AppendStr
namespace Go.Proofs.YtblpkjlodncpeaaGreatDoor
structure Ts.Fit (s : Ts) : Prop where
  lo : 0 ≤ s.pl
  hi : s.pl < 23
  clean : s.to s.pl = s
  small : s.Small
  fine : Ts.Fine s
  read : s.pl = 22 → 0 ≤ s.read ∧ s.read ≤ s.held.size
theorem Ts.to_to (t : Ts) (a : Int) : (t.to a).to a = t.to a := by
  unfold Ts.to
  dsimp only
  congr 1
  all_goals (split <;> rfl)
theorem Ts.to_clean (t : Ts) (a : Int) : (t.to a).to (t.to a).pl = t.to a := Ts.to_to t a
theorem Ts.with_name (t : Ts) (a : Int) (n : ByteArray) (h : Ts.inTag a = true) (ht : t.to a = t) (hp : t.pl = a) : ({ t with name := n } : Ts).to ({ t with name := n } : Ts).pl = { t with name := n } := by
  obtain ⟨pl, nm, f, at_, hd, rd⟩ := t
  simp only at hp
  subst hp
  unfold Ts.to at ht ⊢
  simp only [Ts.mk.injEq, h, if_true] at ht ⊢
  exact ⟨trivial, trivial, trivial, ht.2.2.2.1, ht.2.2.2.2.1, ht.2.2.2.2.2⟩
theorem Ts.with_attr (t : Ts) (a : Int) (n : ByteArray) (h : Ts.hasAttr a = true) (ht : t.to a = t) (hp : t.pl = a) : ({ t with attr := n } : Ts).to ({ t with attr := n } : Ts).pl = { t with attr := n } := by
  obtain ⟨pl, nm, f, at_, hd, rd⟩ := t
  simp only at hp
  subst hp
  unfold Ts.to at ht ⊢
  simp only [Ts.mk.injEq, h, if_true] at ht ⊢
  exact ⟨trivial, ht.2.1, ht.2.2.1, trivial, ht.2.2.2.2.1, ht.2.2.2.2.2⟩
theorem Ts.with_fin (t : Ts) (a : Int) (b : Bool) (h : Ts.inTag a = true) (ht : t.to a = t) (hp : t.pl = a) : ({ t with fin := b } : Ts).to ({ t with fin := b } : Ts).pl = { t with fin := b } := by
  obtain ⟨pl, nm, f, at_, hd, rd⟩ := t
  simp only at hp
  subst hp
  unfold Ts.to at ht ⊢
  simp only [Ts.mk.injEq, h, if_true] at ht ⊢
  exact ⟨trivial, ht.2.1, trivial, ht.2.2.2.1, ht.2.2.2.2.1, ht.2.2.2.2.2⟩
theorem Ts.with_read (t : Ts) (x : Int) (ht : t.to 22 = t) (hp : t.pl = 22) : ({ t with read := x } : Ts).to ({ t with read := x } : Ts).pl = { t with read := x } := by
  obtain ⟨pl, nm, f, at_, hd, rd⟩ := t
  simp only at hp
  subst hp
  unfold Ts.to at ht ⊢
  simp only [Ts.mk.injEq, if_true] at ht ⊢
  exact ⟨trivial, ht.2.1, ht.2.2.1, ht.2.2.2.1, ht.2.2.2.2.1, trivial⟩
theorem Ts.closed_clean (t : Ts) : t.closed.to t.closed.pl = t.closed := by
  unfold Ts.closed
  split <;> exact Ts.to_clean _ _
theorem Ts.openTag_clean (t : Ts) (c : UInt8) : (t.openTag c).to (t.openTag c).pl = t.openTag c := Ts.with_name (t.to 3) 3 _ rfl (Ts.to_to t 3) rfl
theorem Ts.openAttr_clean (t : Ts) (c : UInt8) : (t.openAttr c).to (t.openAttr c).pl = t.openAttr c := Ts.with_attr (t.to 5) 5 _ rfl (Ts.to_to t 5) rfl
theorem Ts.step_clean (s : Ts) (c : UInt8) (k : Nat) (hk : s.pl = (k : Int)) (hk23 : k < 23) : (s.step c).to (s.step c).pl = s.step c := by
  rw [Ts.step_at s c k hk hk23]
  have ht : (s.to k).to k = s.to k := Ts.to_to s k
  have hp : (s.to k).pl = (k : Int) := rfl
  have hs : (s.to k).to (s.to k).pl = s.to k := ht
  generalize s.to k = t at *
  have hcl := Ts.closed_clean t
  have hot := Ts.openTag_clean t c
  have hoa := Ts.openAttr_clean t c
  have hon : (t.heldOn c).to (t.heldOn c).pl = t.heldOn c := by
    unfold Ts.heldOn
    split <;> exact Ts.to_clean _ _
  have hcase : k = 0 ∨ k = 1 ∨ k = 2 ∨ k = 3 ∨ k = 4 ∨ k = 5 ∨ k = 6 ∨ k = 7 ∨ k = 8 ∨ k = 9 ∨ k = 10 ∨ k = 11 ∨ k = 12 ∨ k = 13 ∨ k = 14 ∨ k = 15 ∨ k = 16 ∨ k = 17 ∨ k = 18 ∨ k = 19 ∨ k = 20 ∨ k = 21 ∨ k = 22 := by omega
  rcases hcase with e | e | e | e | e | e | e | e | e | e | e | e | e | e | e | e | e | e | e | e | e | e | e
  all_goals subst e
  · show (t.data c).to (t.data c).pl = t.data c; unfold Ts.data; split
    all_goals first | exact hs | exact Ts.to_clean _ _
  · show (t.tagOpen c).to (t.tagOpen c).pl = t.tagOpen c; unfold Ts.tagOpen; repeat' split
    all_goals first | exact hs | exact hot | exact Ts.to_clean _ _
  · show (t.endOpen c).to (t.endOpen c).pl = t.endOpen c; unfold Ts.endOpen; repeat' split
    all_goals first | exact Ts.with_fin (t.openTag c) 3 true rfl hot rfl | exact Ts.to_clean _ _
  · show (t.tagName c).to (t.tagName c).pl = t.tagName c; unfold Ts.tagName; repeat' split
    all_goals first | exact hcl | exact Ts.to_clean _ _ | exact Ts.with_name t 3 _ rfl ht hp
  · show (t.beforeAttr c).to (t.beforeAttr c).pl = t.beforeAttr c; unfold Ts.beforeAttr; repeat' split
    all_goals first | exact hs | exact hcl | exact hoa | exact Ts.to_clean _ _
  · show (t.attrName c).to (t.attrName c).pl = t.attrName c; unfold Ts.attrName; repeat' split
    all_goals first | exact hcl | exact Ts.to_clean _ _ | exact Ts.with_attr t 5 _ rfl ht hp
  · show (t.afterName c).to (t.afterName c).pl = t.afterName c; unfold Ts.afterName; repeat' split
    all_goals first | exact hs | exact hcl | exact hoa | exact Ts.to_clean _ _
  · show (t.beforeValue c).to (t.beforeValue c).pl = t.beforeValue c; unfold Ts.beforeValue; repeat' split
    all_goals first | exact hs | exact hcl | exact Ts.to_clean _ _
  · show (Ts.quoted 34 t c).to (Ts.quoted 34 t c).pl = Ts.quoted 34 t c; unfold Ts.quoted; split
    all_goals first | exact hs | exact Ts.to_clean _ _
  · show (Ts.quoted 39 t c).to (Ts.quoted 39 t c).pl = Ts.quoted 39 t c; unfold Ts.quoted; split
    all_goals first | exact hs | exact Ts.to_clean _ _
  · show (t.bare c).to (t.bare c).pl = t.bare c; unfold Ts.bare; repeat' split
    all_goals first | exact hs | exact hcl | exact Ts.to_clean _ _
  · show (t.afterValue c).to (t.afterValue c).pl = t.afterValue c; unfold Ts.afterValue; repeat' split
    all_goals first | exact hcl | exact hoa | exact Ts.to_clean _ _
  · show (t.selfClose c).to (t.selfClose c).pl = t.selfClose c; unfold Ts.selfClose; repeat' split
    all_goals first | exact hs | exact hcl | exact hoa | exact Ts.to_clean _ _
  · show (t.bang c).to (t.bang c).pl = t.bang c; unfold Ts.bang; repeat' split
    all_goals exact Ts.to_clean _ _
  · show (t.bangDash c).to (t.bangDash c).pl = t.bangDash c; unfold Ts.bangDash; repeat' split
    all_goals exact Ts.to_clean _ _
  · show (t.comment c).to (t.comment c).pl = t.comment c; unfold Ts.comment; split
    all_goals first | exact hs | exact Ts.to_clean _ _
  · show (t.commentDash c).to (t.commentDash c).pl = t.commentDash c; unfold Ts.commentDash; split
    all_goals exact Ts.to_clean _ _
  · show (t.commentEnd c).to (t.commentEnd c).pl = t.commentEnd c; unfold Ts.commentEnd; repeat' split
    all_goals first | exact hs | exact Ts.to_clean _ _
  · show (t.bogus c).to (t.bogus c).pl = t.bogus c; unfold Ts.bogus; split
    all_goals first | exact hs | exact Ts.to_clean _ _
  · show (t.heldS c).to (t.heldS c).pl = t.heldS c; unfold Ts.heldS; split
    all_goals first | exact hs | exact Ts.to_clean _ _
  · show (t.heldLt c).to (t.heldLt c).pl = t.heldLt c; unfold Ts.heldLt; repeat' split
    all_goals first | exact hs | exact Ts.to_clean _ _
  · show (t.heldSlash c).to (t.heldSlash c).pl = t.heldSlash c; unfold Ts.heldSlash; split
    · exact Ts.with_read (t.to 22) 1 (Ts.to_to t 22) rfl
    · exact hon
  · show (t.heldName c).to (t.heldName c).pl = t.heldName c; unfold Ts.heldName; repeat' split
    all_goals first | exact Ts.with_read t _ ht hp | exact hon | exact Ts.to_clean _ _
theorem Ts.heldAt_lt {t : Ts} {c : UInt8} (h : Ts.heldAt t c = true) : 0 ≤ t.read ∧ t.read < t.held.size := by
  unfold Ts.heldAt at h
  simp only [Bool.and_eq_true, decide_eq_true_eq] at h
  exact h.1
theorem Ts.heldOn_pl (t : Ts) (c : UInt8) : (t.heldOn c).pl ≠ 22 := by
  unfold Ts.heldOn
  split
  · show (20 : Int) ≠ 22; decide
  · show (19 : Int) ≠ 22; decide
theorem Ts.step_read (s : Ts) (c : UInt8) (k : Nat) (hk : s.pl = (k : Int)) (hk23 : k < 23) (h22 : (s.step c).pl = 22) : 0 ≤ (s.step c).read ∧ (s.step c).read ≤ (s.step c).held.size := by
  have hn := Ts.step_next s c k hk hk23
  have hcase : k = 21 ∨ k = 22 := by
    have hc : k = 0 ∨ k = 1 ∨ k = 2 ∨ k = 3 ∨ k = 4 ∨ k = 5 ∨ k = 6 ∨ k = 7 ∨ k = 8 ∨ k = 9 ∨ k = 10 ∨ k = 11 ∨ k = 12 ∨ k = 13 ∨ k = 14 ∨ k = 15 ∨ k = 16 ∨ k = 17 ∨ k = 18 ∨ k = 19 ∨ k = 20 ∨ k = 21 ∨ k = 22 := by omega
    rw [h22] at hn
    rcases hc with e | e | e | e | e | e | e | e | e | e | e | e | e | e | e | e | e | e | e | e | e | e | e
    all_goals first | exact Or.inl e | exact Or.inr e | (subst e; exact absurd hn (by decide))
  rw [Ts.step_at s c k hk hk23] at h22 ⊢
  rcases hcase with e | e
  all_goals subst e
  · have h22 : ((s.to 21).heldSlash c).pl = 22 := h22
    show 0 ≤ ((s.to 21).heldSlash c).read ∧ ((s.to 21).heldSlash c).read ≤ ((s.to 21).heldSlash c).held.size
    unfold Ts.heldSlash at h22 ⊢
    by_cases q : Ts.heldAt (s.to 21) c = true
    · rw [if_pos q]
      have := Ts.heldAt_lt q
      have h0 : (s.to 21).read = 0 := rfl
      refine ⟨by show (0 : Int) ≤ 1; decide, ?_⟩
      show (1 : Int) ≤ ((s.to 21).held.size : Int)
      omega
    · rw [if_neg q] at h22
      exact absurd h22 (Ts.heldOn_pl _ _)
  · have h22 : ((s.to 22).heldName c).pl = 22 := h22
    show 0 ≤ ((s.to 22).heldName c).read ∧ ((s.to 22).heldName c).read ≤ ((s.to 22).heldName c).held.size
    unfold Ts.heldName at h22 ⊢
    by_cases q : Ts.heldAt (s.to 22) c = true
    · rw [if_pos q]
      have := Ts.heldAt_lt q
      exact ⟨by show 0 ≤ (s.to 22).read + 1; omega, by show (s.to 22).read + 1 ≤ ((s.to 22).held.size : Int); omega⟩
    · rw [if_neg q] at h22
      by_cases q2 : (s.to 22).read < (s.to 22).held.size
      · rw [if_pos q2] at h22
        exact absurd h22 (Ts.heldOn_pl _ _)
      · rw [if_neg q2] at h22
        by_cases q3 : Ts.blank c = true
        · rw [if_pos q3] at h22
          exact absurd (show (4 : Int) = 22 from h22) (by decide)
        · rw [if_neg q3] at h22
          by_cases q4 : c = 47
          · rw [if_pos q4] at h22
            exact absurd (show (12 : Int) = 22 from h22) (by decide)
          · rw [if_neg q4] at h22
            by_cases q5 : c = 62
            · rw [if_pos q5] at h22
              exact absurd (show (0 : Int) = 22 from h22) (by decide)
            · rw [if_neg q5] at h22
              exact absurd h22 (Ts.heldOn_pl _ _)
theorem Ts.Fit.step {s : Ts} (h : Ts.Fit s) (c : UInt8) : Ts.Fit (s.step c) := by
  have hl := h.lo
  have hh := h.hi
  obtain ⟨k, hk⟩ : ∃ k : Nat, s.pl = (k : Int) := ⟨s.pl.toNat, by omega⟩
  have hk23 : k < 23 := by omega
  have hn := Ts.step_next s c k hk hk23
  have hb : 0 ≤ (s.step c).pl ∧ (s.step c).pl < 23 := by
    have hc : k = 0 ∨ k = 1 ∨ k = 2 ∨ k = 3 ∨ k = 4 ∨ k = 5 ∨ k = 6 ∨ k = 7 ∨ k = 8 ∨ k = 9 ∨ k = 10 ∨ k = 11 ∨ k = 12 ∨ k = 13 ∨ k = 14 ∨ k = 15 ∨ k = 16 ∨ k = 17 ∨ k = 18 ∨ k = 19 ∨ k = 20 ∨ k = 21 ∨ k = 22 := by omega
    rcases hc with e | e | e | e | e | e | e | e | e | e | e | e | e | e | e | e | e | e | e | e | e | e | e
    all_goals subst e
    all_goals simp only [Ts.nexts, List.mem_cons, List.not_mem_nil, or_false] at hn
    all_goals omega
  exact ⟨hb.1, hb.2, Ts.step_clean s c k hk hk23, Ts.step_small h.small c, Ts.Fine.step h.fine c k hk hk23, fun q => Ts.step_read s c k hk hk23 q⟩
theorem Ts.Fit.start : Ts.Fit Ts.start := ⟨by decide, by decide, rfl, ⟨by decide, by decide, by decide⟩, ⟨fun _ => rfl, fun q => absurd q (by decide)⟩, fun q => absurd q (by decide)⟩
end Go.Proofs.YtblpkjlodncpeaaGreatDoor
/-
  THE WALK of refs.reference: it returns what 'Pl.refL' gives of the bytes behind an '&', and turns nothing that was there.
-/
namespace Go.Proofs.YtblpkjlodncpeaaGreatDoor
open Go.RowKit

theorem Wk.below_drews {B : Nat} {w wr : World} (h : Below B w wr) : ∀ n, Below B w (wr.drewN n)
  | 0 => h
  | n + 1 => (Wk.below_drews h n).drew
theorem Rr.hasPre (s p : ByteArray) (l : List UInt8) (b : Bool) (hl : p.data.toList = l) (hb : Pl.pre l s.data.toList = b) (w : World) :
    Calls Tryz.prog 137 #[.string s, .string p] w fun e w' => e = .returned (.bool b) ∧ w' = w := by
  have h := Sh.strings_HasPrefix s p w
  rw [hl] at h
  have e : Lib.hasPrefix s.data.toList l = b := hb
  rwa [e] at h
theorem Rr.size_pre (s : ByteArray) (p : List UInt8) (h : Pl.pre p s.data.toList = true) : p.length ≤ s.size := by
  obtain ⟨r, hr⟩ := (Pl.pre_iff _ _).1 h
  have := congrArg List.length hr
  rw [Wk.len_data, List.length_append] at this
  omega
def Rr.table : Array Value := #[.string ⟨#[97, 109, 112, 59]⟩, .string ⟨#[38]⟩, .string ⟨#[108, 116, 59]⟩, .string ⟨#[60]⟩, .string ⟨#[103, 116, 59]⟩, .string ⟨#[62]⟩, .string ⟨#[113, 117, 111, 116, 59]⟩, .string ⟨#[34]⟩, .string ⟨#[97, 112, 111, 115, 59]⟩, .string ⟨#[39]⟩, .string ⟨#[110, 98, 115, 112, 59]⟩, .string ⟨#[194, 160]⟩, .string ⟨#[99, 111, 112, 121, 59]⟩, .string ⟨#[194, 169]⟩]
theorem Rr.cells (w : World) (a j : Nat) (hj : j < 7) (h : w.heap[a]? = some (.cells Rr.table 121 (0, 0))) :
    ∃ (t g : List UInt8), w.cell? ⟨a, j * 2, none⟩ = some (.string ⟨t.toArray⟩) ∧ w.cell? ⟨a, j * 2 + 1, none⟩ = some (.string ⟨g.toArray⟩) ∧ Pl.names.drop j = (t, g) :: Pl.names.drop (j + 1) ∧ t.length ≤ 6 := by
  have hc : ∀ i, w.cell? ⟨a, i, none⟩ = Rr.table[i]? := fun i => by rw [Lib.cell_of_heap h]
  rw [hc, hc]
  have : j = 0 ∨ j = 1 ∨ j = 2 ∨ j = 3 ∨ j = 4 ∨ j = 5 ∨ j = 6 := by omega
  rcases this with rfl | rfl | rfl | rfl | rfl | rfl | rfl
  all_goals exact ⟨_, _, rfl, rfl, rfl, by decide⟩

set_option maxRecDepth 100000 in
set_option maxHeartbeats 1000000 in
theorem Rr.reference (s : ByteArray) (a : Nat) (w : World) (hn : w.heap[a]? = some (.cells Rr.table 121 (0, 0))) :
    Calls Tryz.prog 111 #[.string s, .slice (some ⟨a, 0, none⟩) 7 7] w fun e w' => e = .returned (.tuple #[.string ⟨(Pl.refL s.data.toList).1.toArray⟩, .int .i64 ((Pl.refL s.data.toList).2 : Nat)]) ∧ Below w.heap.size w w' := by
  obtain ⟨b1, h1⟩ : ∃ b, Pl.pre [35, 120] s.data.toList = b := ⟨_, rfl⟩
  obtain ⟨b2, h2⟩ : ∃ b, Pl.pre [35, 88] s.data.toList = b := ⟨_, rfl⟩
  obtain ⟨b3, h3⟩ : ∃ b, Pl.pre [35] s.data.toList = b := ⟨_, rfl⟩
  have c1 := Rr.hasPre s ⟨#[35, 120]⟩ [35, 120] b1 rfl h1 w
  have c2 := Rr.hasPre s ⟨#[35, 88]⟩ [35, 88] b2 rfl h2 w
  have c3 := Rr.hasPre s ⟨#[35]⟩ [35] b3 rfl h3 w
  have HR : Hid (Pl.refL s.data.toList = if b1 || b2 then Pl.numL s.data.toList 2 16 6 else if b3 then Pl.numL s.data.toList 1 10 7 else Pl.nameL Pl.names s.data.toList) := by
    show _ = _
    rw [Pl.refL, h1, h2, h3]
  have H1 : Hid (b1 = true → 2 ≤ s.size) := fun h => Rr.size_pre s _ (h1.trans h)
  have H2 : Hid (b2 = true → 2 ≤ s.size) := fun h => Rr.size_pre s _ (h2.trans h)
  have H3 : Hid (b3 = true → 1 ≤ s.size) := fun h => Rr.size_pre s _ (h3.trans h)
  clear h1 h2 h3
  cases b1 with
  | true =>
    have c4 := Rd.hexed s w (H1.out rfl)
    rw [show Pl.refL s.data.toList = Pl.numL s.data.toList 2 16 6 from HR.out]
    generalize Pl.numL s.data.toList 2 16 6 = q at *
    go_enter Tryz.func111, Tryz.ntmps111
    go_wp2_with (first | (go_at_call 137; refine c1.mono ?_; rintro e w1 ⟨rfl, rfl⟩) | (go_at_call 138; refine c4.mono ?_; rintro e w1 ⟨rfl, rfl⟩))
    go_ret2
    exact ⟨rfl, Below.refl _ _⟩
  | false =>
    cases b2 with
    | true =>
      have c4 := Rd.hexed s w (H2.out rfl)
      rw [show Pl.refL s.data.toList = Pl.numL s.data.toList 2 16 6 from HR.out]
      generalize Pl.numL s.data.toList 2 16 6 = q at *
      go_enter Tryz.func111, Tryz.ntmps111
      go_wp2_with fail
      refine c1.mono ?_
      rintro e w1 ⟨rfl, rfl⟩
      go_wp2_with fail
      refine c2.mono ?_
      rintro e w1 ⟨rfl, rfl⟩
      go_wp2_with fail
      refine c4.mono ?_
      rintro e w1 ⟨rfl, rfl⟩
      go_wp2
      go_ret2
      exact ⟨rfl, Below.refl _ _⟩
    | false =>
      cases b3 with
      | true =>
        have c4 := Rd.tens s w (H3.out rfl)
        rw [show Pl.refL s.data.toList = Pl.numL s.data.toList 1 10 7 from HR.out]
        generalize Pl.numL s.data.toList 1 10 7 = q at *
        go_enter Tryz.func111, Tryz.ntmps111
        go_wp2_with fail
        refine c1.mono ?_
        rintro e w1 ⟨rfl, rfl⟩
        go_wp2_with fail
        refine c2.mono ?_
        rintro e w1 ⟨rfl, rfl⟩
        go_wp2_with fail
        refine c3.mono ?_
        rintro e w1 ⟨rfl, rfl⟩
        go_wp2_with fail
        refine c4.mono ?_
        rintro e w1 ⟨rfl, rfl⟩
        go_wp2
        go_ret2
        exact ⟨rfl, Below.refl _ _⟩
      | false =>
        rw [show Pl.refL s.data.toList = Pl.nameL Pl.names s.data.toList from HR.out]
        clear HR H1 H2 H3
        go_enter Tryz.func111, Tryz.ntmps111
        go_wp2_with fail
        refine c1.mono ?_
        rintro e w1 ⟨rfl, rfl⟩
        go_wp2_with fail
        refine c2.mono ?_
        rintro e w1 ⟨rfl, rfl⟩
        go_wp2_with fail
        refine c3.mono ?_
        rintro e w1 ⟨rfl, rfl⟩
        go_wp2_with fail
        clear c1 c2 c3
        go_loopw [26] (fun i wr => ∃ j : Nat, j ≤ 7 ∧ i = .int .i64 j ∧ Hid (Pl.nameL (Pl.names.drop j) s.data.toList = Pl.nameL Pl.names s.data.toList) ∧ Below w1.heap.size w1 wr) (fun i _ => 7 - (intOf i).toNat)
        case atStart => exact ⟨0, Nat.zero_le _, rfl, rfl, Below.refl _ _⟩
        case round =>
          obtain ⟨j, hj, rfl, HN, hb⟩ := hrel
          by_cases hlt : j < 7
          · have ha : a < w1.heap.size := by obtain ⟨h, _⟩ := Array.getElem?_eq_some_iff.1 hn; exact h
            obtain ⟨t, g, hc0, hc1, hd, htl⟩ := Rr.cells wr a j hlt ((hb.block a ha).trans hn)
            have HD : Hid (Pl.names.drop j = (t, g) :: Pl.names.drop (j + 1)) := hd
            clear hd
            have hb' := hb.alloc hb.size (.cells #[.string ⟨t.toArray⟩, .string ⟨g.toArray⟩] 120)
            obtain ⟨b, hp⟩ : ∃ b, Pl.pre t s.data.toList = b := ⟨_, rfl⟩
            have c4 := Rr.hasPre s ⟨t.toArray⟩ t b rfl hp (wr.alloc (.cells #[.string ⟨t.toArray⟩, .string ⟨g.toArray⟩] 120))
            have HS : Hid (Pl.nameL Pl.names s.data.toList = if b then (g, t.length) else Pl.nameL (Pl.names.drop (j + 1)) s.data.toList) := by
              show _ = _
              rw [← HN.out, HD.out, Pl.nameL, hp]
            have htn : (⟨t.toArray⟩ : ByteArray).size = t.length := by rw [← Wk.len_data]
            clear hp HD
            cases b with
            | true =>
              clear HN
              go_wp2_with fail
              refine c4.mono ?_
              rintro e w2 ⟨rfl, hw2⟩
              subst hw2
              clear c4
              go_wp2_with fail
              go_quiet (fail)
              go_wp2
              go_ret2
              refine ⟨?_, Wk.below_drews hb' nq⟩
              rw [HS.out]
              rfl
            | false =>
              go_wp2_with fail
              refine c4.mono ?_
              rintro e w2 ⟨rfl, hw2⟩
              subst hw2
              clear c4
              go_wp2_with fail
              go_roundw
              case rel => exact ⟨j + 1, by omega, by go_num, HS.out.symm, hb'⟩
              case measure => simp [intOf]; omega
          · have hj7 : j = 7 := by omega
            have HS : Hid (Pl.nameL Pl.names s.data.toList = ([], 0)) := by
              show _ = _
              rw [← HN.out, hj7]; rfl
            clear HN hj7
            go_wp2_with fail
            go_ret2
            refine ⟨?_, hb⟩
            rw [HS.out]
            rfl
end Go.Proofs.YtblpkjlodncpeaaGreatDoor
/-
  THE WALK of refs.Decode: it returns what 'Pl.decL' gives of the bytes (texts of up to 2^45 bytes: a Builder's room), and turns nothing that was there.
-/
namespace Go.Proofs.YtblpkjlodncpeaaGreatDoor
open Go.RowKit

def Rr.obj : Obj := .cells Rr.table 121 (0, 0)
theorem Rr.ref_at (s : ByteArray) (k a : Nat) (w : World) (q : List UInt8 × Nat) (hq : Pl.refL (s.data.toList.drop (k + 1)) = q) (hn : w.heap[a]? = some Rr.obj) :
    Calls Tryz.prog 111 #[.string (s.extract (k + 1) s.size), .slice (some ⟨a, 0, none⟩) 7 7] w fun e w' => e = .returned (.tuple #[.string ⟨q.1.toArray⟩, .int .i64 (q.2 : Nat)]) ∧ Below w.heap.size w w' := by
  have h := Rr.reference (s.extract (k + 1) s.size) a w hn
  rw [Wk.rest_data, hq] at h
  exact h
/-- a text from a place on -/
theorem Rr.run_from (w : World) (s : ByteArray) (l : Int) (h0 : 0 ≤ l) (h1 : l ≤ s.size) :
    (Instr.slice 9 (.string s) (some (.int .i64 l)) none none).run Tryz.prog w = .ok (.string (s.extract l.toNat s.size)) w := by
  simp [Instr.slice, run_underlying Tryz.underlying9, Instr.sliceBounds, run_sliceBound, h0, h1]
set_option maxRecDepth 100000 in
set_option maxHeartbeats 2000000 in
theorem Rr.decode (s : ByteArray) (w : World) (hs : s.size ≤ 35184372088832) :
    Calls Tryz.prog 81 #[.string s] w fun e w' => e = .returned (.string ⟨(Pl.decL s.data.toList).toArray⟩) ∧ Below w.heap.size w w' := by
  obtain ⟨WA, hWA⟩ : ∃ WA, w.alloc Rr.obj = WA := ⟨_, rfl⟩
  have hsz : WA.heap.size = w.heap.size + 1 := by rw [← hWA]; simp
  have hta : WA.heap[w.heap.size]? = some Rr.obj := by rw [← hWA]; exact heap_alloc_new w _
  have hbA : Below w.heap.size w WA := by rw [← hWA]; exact (Below.refl _ _).alloc (Nat.le_refl _) _
  have c0 := Sh.Builder_Grow_fresh (w.heap.size + 1) (w.heap.size + 1) s.size (WA.alloc (.cells #[.pointer none, .slice none 0 0] 124)) (Nat.le_refl _) (by rw [← hsz]; exact heap_alloc_new WA _) (by simp; omega) (by omega)
  rw [← hWA] at c0
  go_enter Tryz.func81, Tryz.ntmps81
  go_wp2_with fail
  refine c0.mono ?_
  rintro e w0 ⟨rfl, hB0, hb0⟩
  have hbw0 : Below (w.heap.size + 1) WA w0 := by
    rw [hWA] at hb0
    exact ((Below.refl _ _).alloc (by omega) _).trans hb0
  have hI0 : Lib.IsBuilderF 124 5 (w.heap.size + 1) (w.heap.size + 1) (Lib.byteCells []) w0 := .inr (Lib.BuilderAtF.of hB0)
  clear c0 hB0 hb0 hWA
  go_wp2_with fail
  go_loopw [5] (fun i wr => ∃ (k : Nat) (acc : List UInt8), k ≤ s.size ∧ i = .int .i64 k ∧ Lib.IsBuilderF 124 5 (w.heap.size + 1) (w.heap.size + 1) (Lib.byteCells acc) wr ∧ Below (w.heap.size + 1) WA wr ∧ Hid (acc ++ Pl.decL (s.data.toList.drop k) = Pl.decL s.data.toList) ∧ acc.length ≤ 4 * k) (fun i _ => s.size - (intOf i).toNat)
  case atStart => exact ⟨0, [], Nat.zero_le _, rfl, hI0, hbw0, rfl, Nat.le_refl _⟩
  case round =>
    clear hI0 hbw0
    obtain ⟨k, acc, hk, rfl, hI, hb, hn, hal⟩ := hrel
    have hsr := hb.size
    by_cases hlt : k < s.size
    · obtain ⟨c, hc⟩ : ∃ c, s[k] = c := ⟨_, rfl⟩
      have HD : Hid (s.data.toList.drop k = c :: s.data.toList.drop (k + 1)) := by rw [← hc]; exact Rd.drop_cons s k hlt
      have hcn : s[k].toNat = c.toNat := by rw [hc]
      clear hc
      by_cases h38 : c = 38
      · have b0 : ((c.toNat : Int) == 38) = true := by rw [h38]; rfl
        have H38 : Hid (c = 38) := h38
        clear h38
        obtain ⟨q, hq⟩ : ∃ q, Pl.refL (s.data.toList.drop (k + 1)) = q := ⟨_, rfl⟩
        have cr : ∀ u : World, Below wr.heap.size wr u → Calls Tryz.prog 111 #[.string (s.extract (k + 1) s.size), .slice (some ⟨w.heap.size, 0, none⟩) 7 7] u fun e w' => e = .returned (.tuple #[.string ⟨q.1.toArray⟩, .int .i64 (q.2 : Nat)]) ∧ Below u.heap.size u w' :=
          fun u hu => Rr.ref_at s k w.heap.size u q hq ((hu.block _ (by omega)).trans ((hb.block _ (by omega)).trans hta))
        have HQ : Hid (Pl.refL (s.data.toList.drop (k + 1)) = q) := hq
        clear hq
        have hwr : IntKind.i64.wrap ((k : Int) + 1) = (k : Int) + 1 := by rw [IntKind.wrap_i64]; omega
        have hcut : ∀ u : World, (Instr.slice 9 (.string s) (some (.int .i64 ((k : Int) + 1))) none none).run Tryz.prog u = .ok (.string (s.extract (k + 1) s.size)) u := fun u => by
          have h := Rr.run_from u s ((k : Int) + 1) (by omega) (by omega)
          rwa [show ((k : Int) + 1).toNat = k + 1 by omega] at h
        go_wp2_with fail
        go_cut [6, 7] from 19 to 49 (fun sg nn wx => sg = .string ⟨q.1.toArray⟩ ∧ nn = .int .i64 (q.2 : Nat) ∧ Below wr.heap.size wr wx)
        case first =>
          go_region_with (go_at_call 111; refine (cr _ (Below.refl _ _).drew).mono ?_; rintro e w1 ⟨rfl, hb1⟩)
          all_goals (try go_wp2_with fail)
          all_goals go_meet
          all_goals exact ⟨rfl, rfl, ⟨hb1.os, hb1.tape, hb1.output, hb1.size, hb1.block⟩⟩
        case rest =>
          obtain ⟨rfl, rfl, hb1⟩ := hcut
          clear cr hwr
          have hle := Pl.refL_le (s.data.toList.drop (k + 1))
          have hsg := Pl.refL_sign (s.data.toList.drop (k + 1))
          rw [HQ.out, List.length_drop, Wk.len_data] at hle
          rw [HQ.out] at hsg
          have hI1 := Wk.isF_below hI hb1
          have hbB : Below (w.heap.size + 1) WA wc := hb.trans (hb1.mono (by omega))
          have hsc := hbB.size
          by_cases hz : q.2 = 0
          · have z0 : ((q.2 : Int) == 0) = true := beq_iff_eq.2 (by omega)
            have HZ : Hid (q.2 = 0) := hz
            clear hz
            go_wp2_with fail
            refine (Sh.Builder_WriteByte_k (w.heap.size + 1) (w.heap.size + 1) _ _ wc hI1 (by rw [Lib.byteCells_length]; omega) (by omega)).mono ?_
            rintro e w2 ⟨rfl, hI2, hb2, _⟩
            have hb' : Below (w.heap.size + 1) WA w2 := hbB.trans hb2
            have hI' : Lib.IsBuilderF 124 5 (w.heap.size + 1) (w.heap.size + 1) (Lib.byteCells (acc ++ [c])) w2 := by
              rw [Lib.byteCells_append]; exact .inr hI2
            have HN : Hid ((acc ++ [c]) ++ Pl.decL (s.data.toList.drop (k + 1)) = Pl.decL s.data.toList) := by
              show _ = _
              rw [← hn.out, HD.out, Pl.decL_none c _ (by rw [HQ.out]; exact HZ.out)]
              simp
            clear hI hI1 hI2 hb1 hb2 hn HD HQ HZ H38 hb hbB
            go_wp2
            go_roundw
            case rel => exact ⟨k + 1, acc ++ [c], by omega, by go_num, hI', hb', HN, by simp; omega⟩
            case measure => simp [intOf]; omega
          · have z0 : ((q.2 : Int) == 0) = false := beq_eq_false_iff_ne.2 (by omega)
            have hps : (⟨q.1.toArray⟩ : ByteArray).size = q.1.length := by rw [← Wk.len_data]
            go_wp2_with fail
            refine (Sh.Builder_WriteString_k (w.heap.size + 1) (w.heap.size + 1) _ _ wc hI1 (by rw [Lib.byteCells_length, hps]; omega) (by omega)).mono ?_
            rintro e w2 ⟨rfl, hI2, hb2, _⟩
            have hb' : Below (w.heap.size + 1) WA w2 := hbB.trans hb2
            have hI' : Lib.IsBuilderF 124 5 (w.heap.size + 1) (w.heap.size + 1) (Lib.byteCells (acc ++ q.1)) w2 := by
              rw [Lib.byteCells_append]; exact .inr hI2
            have HN : Hid ((acc ++ q.1) ++ Pl.decL (s.data.toList.drop (k + (1 + q.2))) = Pl.decL s.data.toList) := by
              show _ = _
              rw [← hn.out, HD.out, Pl.decL_ref c _ H38.out (by rw [HQ.out]; exact hz), HQ.out, List.drop_drop, List.append_assoc, Nat.add_assoc]
            clear hI hI1 hI2 hb1 hb2 hn HD HQ H38 hb hbB
            go_wp2
            go_roundw
            case rel => exact ⟨k + (1 + q.2), acc ++ q.1, by omega, by go_num, hI', hb', HN, by simp; omega⟩
            case measure => simp [intOf]; omega
      · have b0 : ((c.toNat : Int) == 38) = false := beq_eq_false_iff_ne.2 (fun e => h38 (UInt8.toNat_inj.1 (by simpa using (by omega : c.toNat = 38))))
        go_wp2_with fail
        refine (Sh.Builder_WriteByte_k (w.heap.size + 1) (w.heap.size + 1) _ _ wr hI (by rw [Lib.byteCells_length]; omega) (by omega)).mono ?_
        rintro e w2 ⟨rfl, hI2, hb2, _⟩
        have hb' : Below (w.heap.size + 1) WA w2 := hb.trans hb2
        have hI' : Lib.IsBuilderF 124 5 (w.heap.size + 1) (w.heap.size + 1) (Lib.byteCells (acc ++ [c])) w2 := by
          rw [Lib.byteCells_append]; exact .inr hI2
        have HN : Hid ((acc ++ [c]) ++ Pl.decL (s.data.toList.drop (k + 1)) = Pl.decL s.data.toList) := by
          show _ = _
          rw [← hn.out, HD.out, Pl.decL_other c _ h38]
          simp
        clear hI hI2 hb2 hn HD hb
        go_wp2
        go_roundw
        case rel => exact ⟨k + 1, acc ++ [c], by omega, by go_num, hI', hb', HN, by simp; omega⟩
        case measure => simp [intOf]; omega
    · have hke : k = s.size := by omega
      have HE : Hid (acc = Pl.decL s.data.toList) := by
        have := hn.out
        rw [hke, List.drop_of_length_le (by rw [Wk.len_data]; exact Nat.le_refl _), Pl.decL_nil, List.append_nil] at this
        exact this
      clear hke
      go_wp2_with fail
      refine (Sh.Builder_String_any_k (w.heap.size + 1) (w.heap.size + 1) acc _ hI (by omega)).mono ?_
      rintro e w1 ⟨rfl, _, hb1, _⟩
      go_wp2
      go_ret
      exact ⟨Wk.ret_str HE.out, hbA.trans ((hb.trans hb1).mono (by omega))⟩
end Go.Proofs.YtblpkjlodncpeaaGreatDoor
/-
  THE WALK of the reference's adds.
-/
namespace Go.Proofs.YtblpkjlodncpeaaGreatDoor
open Go.RowKit
theorem Sc.info : (Tryz.prog.info? 5).map (fun i => (i.zero, i.size, i.bytes)) = some (some (.int .u8 0), 1, 1) := by kernel_rfl
/-- 'append(row, text...)': where the row lies behind it -/
theorem Sc.run_str (w : World) (base : Nat) (ty : TypeId) (v : Value) (n : Nat) (xs : List Value) (hown : w.ownsRow base 5 1 v n xs) (s : ByteArray) (h63 : n + s.size ≤ maxLen) (hbytes : n + s.size ≤ 140737488355328) (hbase : base ≤ w.heap.size) :
    ∃ v' w', (Builtin.append_ #[43, 9] ty #[v, .string s]).run Tryz.prog w = .ok v' w' ∧ w'.ownsRow base 5 1 v' (n + s.size) (xs ++ Lib.strCells s) ∧ w.grownBy w' v.ownBlock ∧ (v'.ownBlock = v.ownBlock ∨ v'.ownBlock = some w.heap.size) := by
  obtain ⟨i, hi, hz, h1, h2⟩ := info_parts Sc.info
  obtain ⟨v', w', hr, ho, hg, _⟩ := Lib.run_append_own_string (P := Tryz.prog) w base 43 9 ty 5 i Tryz.underlying43 Tryz.underlying9 hi hz h1 h2 v n xs hown s h63 hbytes hbase
  refine ⟨v', w', hr, ho, hg, ?_⟩
  have hsmall : n + s.size ≤ 9223372036854775807 := by simp only [maxLen] at h63; omega
  have hxl : xs.length = n := by simpa using hown.1
  rcases hown.2 with ⟨rfl, rfl⟩ | ⟨g, cap, cur, rfl, hbg, hgg, hnc, hcm, hcs, htake⟩
  · by_cases hm : s.size = 0
    · have hf := Lib.run_firstCells_string (P := Tryz.prog) w 1 s
      rw [hm] at hf
      simp [Builtin.append_, run_underlying Tryz.underlying43, run_underlying Tryz.underlying9, sizeOf, typeInfo, hi, h1, Builtin.lenOf, hm, hf] at hr
      rw [← hr.1]
      exact .inl rfl
    · have hr2 := run_append_nil_string (P := Tryz.prog) w 43 9 ty 5 i (.int .u8 0) Tryz.underlying43 Tryz.underlying9 hi hz s (by omega) (by omega) (by rw [h2]; omega)
      rw [hr2] at hr
      injection hr with e1 e2
      subst e1
      exact .inr rfl
  · by_cases hroom : n + s.size ≤ cap
    · have hcs' : cur.size = cap := by simpa using hcs
      have hr2 := Lib.run_append_room_string (P := Tryz.prog) w 43 9 ty 5 i Tryz.underlying43 Tryz.underlying9 hi h1 g n cap cur hgg s hroom (by omega)
      rw [hr2] at hr
      injection hr with e1 e2
      subst e1
      exact .inl rfl
    · have holds : ∀ j u, xs[j]? = some u → w.cell? ((⟨g, 0, none⟩ : Addr).add j) = some u := hown.cells (g := g) rfl
      have hr2 := Lib.run_append_grow_string (P := Tryz.prog) w 43 9 ty 5 i (.int .u8 0) Tryz.underlying43 Tryz.underlying9 hi hz ⟨g, 0, none⟩ n cap xs (by rw [h1]; simpa using hxl) holds s (by omega) (by omega) (by rw [h2]; exact growslice_fits (by omega) (by omega))
      rw [hr2] at hr
      injection hr with e1 e2
      subst e1
      exact .inr rfl
/-- .. at a step of a region that draws -/
theorem Sc.step_str {w : World} {ops : Array Oper} {o : Oper} {a : Act} {K : Act → World → Prop} {E : Prop} {Z : Exit → Act → World → Prop} (hgd : o.guard = none) (sl x : Operand)
    (ho : o.op = .call { callee := .builtin .append, args := #[sl, x], argTypes := #[43, 9] })
    {base n : Nat} {xs : List Value} (v : Value) (hs : a.eval sl = v) (hown : w.ownsRow base 5 1 v n xs) (s : ByteArray) (hx : a.eval x = .string s)
    (h63 : n + s.size ≤ maxLen) (hbytes : n + s.size ≤ 140737488355328) (hbase : base ≤ w.heap.size)
    (h : ∀ v' w', w'.ownsRow base 5 1 v' (n + s.size) (xs ++ Lib.strCells s) → w.grownBy w' v.ownBlock → (v'.ownBlock = v.ownBlock ∨ v'.ownBlock = some w.heap.size) → K (a.put o.dst v') w') :
    if Region.wanted o (yielded ops a.tmps) = true then Oper.wp Tryz.prog o a w K Z else E := by
  have hw : Region.wanted o (yielded ops a.tmps) = true := by simp [Region.wanted, hgd]
  rw [if_pos hw]
  obtain ⟨v', w', hr, h2, h3, h4⟩ := Sc.run_str w base o.type v n xs hown s h63 hbytes hbase
  unfold Oper.wp execOp
  simp only [ho, resolve, invoke, builtin, Sem.run_bind, Sem.run_pure, Result.andThen_ok, List.map_toArray, List.map_cons, List.map_nil, hs, hx, hr]
  exact h v' w' h2 h3 h4
end Go.Proofs.YtblpkjlodncpeaaGreatDoor

/-
  PLAIN: the states that a page leads to: just the parts that their place has, names of at most 32 bytes, what is held one of four names.
-/
import Derived.Test.YtblpkjlodncpeaaGreatDoorBTInvtoTSc1
import Derived.Test.YtblpkjlodncpeaaGreatDoorBTRs8
import Derived.Test.YtblpkjlodncpeaaGreatDoorBRToktoRKit5
import Derived.Laws.BitsLemmas
namespace Go.Proofs.YtblpkjlodncpeaaGreatDoor
structure Ts.Fit (s : Ts) : Prop where
 lo : 0 ≤ s.pl
 hi : s.pl < 23
 clean : s.to s.pl = s
 small : s.Small
 fine : Ts.Fine s
 read : s.pl = 22 → 0 ≤ s.read ∧ s.read ≤ s.held.size
theorem Ts.to_to (t : Ts) (a : Int) : (t.to a).to a = t.to a := by
 unfold Ts.to
 dsimp only
 congr 1
 all_goals (split <;> rfl)
theorem Ts.to_clean (t : Ts) (a : Int) : (t.to a).to (t.to a).pl = t.to a := Ts.to_to t a
theorem Ts.with_name (t : Ts) (a : Int) (n : ByteArray) (h : Ts.inTag a = true) (ht : t.to a = t) (hp : t.pl = a) : ({ t with name := n } : Ts).to ({ t with name := n } : Ts).pl = { t with name := n } := by
 obtain ⟨pl, nm, f, at_, hd, rd⟩ := t
 simp only at hp
 subst hp
 unfold Ts.to at ht ⊢
 simp only [Ts.mk.injEq, h, if_true] at ht ⊢
 exact ⟨trivial, trivial, trivial, ht.2.2.2.1, ht.2.2.2.2.1, ht.2.2.2.2.2⟩
theorem Ts.with_attr (t : Ts) (a : Int) (n : ByteArray) (h : Ts.hasAttr a = true) (ht : t.to a = t) (hp : t.pl = a) : ({ t with attr := n } : Ts).to ({ t with attr := n } : Ts).pl = { t with attr := n } := by
 obtain ⟨pl, nm, f, at_, hd, rd⟩ := t
 simp only at hp
 subst hp
 unfold Ts.to at ht ⊢
 simp only [Ts.mk.injEq, h, if_true] at ht ⊢
 exact ⟨trivial, ht.2.1, ht.2.2.1, trivial, ht.2.2.2.2.1, ht.2.2.2.2.2⟩
theorem Ts.with_fin (t : Ts) (a : Int) (b : Bool) (h : Ts.inTag a = true) (ht : t.to a = t) (hp : t.pl = a) : ({ t with fin := b } : Ts).to ({ t with fin := b } : Ts).pl = { t with fin := b } := by
 obtain ⟨pl, nm, f, at_, hd, rd⟩ := t
 simp only at hp
 subst hp
 unfold Ts.to at ht ⊢
 simp only [Ts.mk.injEq, h, if_true] at ht ⊢
 exact ⟨trivial, ht.2.1, trivial, ht.2.2.2.1, ht.2.2.2.2.1, ht.2.2.2.2.2⟩
theorem Ts.with_read (t : Ts) (x : Int) (ht : t.to 22 = t) (hp : t.pl = 22) : ({ t with read := x } : Ts).to ({ t with read := x } : Ts).pl = { t with read := x } := by
 obtain ⟨pl, nm, f, at_, hd, rd⟩ := t
 simp only at hp
 subst hp
 unfold Ts.to at ht ⊢
 simp only [Ts.mk.injEq, if_true] at ht ⊢
 exact ⟨trivial, ht.2.1, ht.2.2.1, ht.2.2.2.1, ht.2.2.2.2.1, trivial⟩
theorem Ts.closed_clean (t : Ts) : t.closed.to t.closed.pl = t.closed := by
 unfold Ts.closed
 split <;> exact Ts.to_clean _ _
theorem Ts.openTag_clean (t : Ts) (c : UInt8) : (t.openTag c).to (t.openTag c).pl = t.openTag c := Ts.with_name (t.to 3) 3 _ rfl (Ts.to_to t 3) rfl
theorem Ts.openAttr_clean (t : Ts) (c : UInt8) : (t.openAttr c).to (t.openAttr c).pl = t.openAttr c := Ts.with_attr (t.to 5) 5 _ rfl (Ts.to_to t 5) rfl
theorem Ts.step_clean (s : Ts) (c : UInt8) (k : Nat) (hk : s.pl = (k : Int)) (hk23 : k < 23) : (s.step c).to (s.step c).pl = s.step c := by
 rw [Ts.step_at s c k hk hk23]
 have ht : (s.to k).to k = s.to k := Ts.to_to s k
 have hp : (s.to k).pl = (k : Int) := rfl
 have hs : (s.to k).to (s.to k).pl = s.to k := ht
 generalize s.to k = t at *
 have hcl := Ts.closed_clean t
 have hot := Ts.openTag_clean t c
 have hoa := Ts.openAttr_clean t c
 have hon : (t.heldOn c).to (t.heldOn c).pl = t.heldOn c := by
  unfold Ts.heldOn
  split <;> exact Ts.to_clean _ _
 have hcase : k = 0 ∨ k = 1 ∨ k = 2 ∨ k = 3 ∨ k = 4 ∨ k = 5 ∨ k = 6 ∨ k = 7 ∨ k = 8 ∨ k = 9 ∨ k = 10 ∨ k = 11 ∨ k = 12 ∨ k = 13 ∨ k = 14 ∨ k = 15 ∨ k = 16 ∨ k = 17 ∨ k = 18 ∨ k = 19 ∨ k = 20 ∨ k = 21 ∨ k = 22 := by omega
 rcases hcase with e | e | e | e | e | e | e | e | e | e | e | e | e | e | e | e | e | e | e | e | e | e | e
 all_goals subst e
 ·
  show (t.data c).to (t.data c).pl = t.data c; unfold Ts.data; split
  all_goals first | exact hs | exact Ts.to_clean _ _
 ·
  show (t.tagOpen c).to (t.tagOpen c).pl = t.tagOpen c; unfold Ts.tagOpen; repeat' split
  all_goals first | exact hs | exact hot | exact Ts.to_clean _ _
 ·
  show (t.endOpen c).to (t.endOpen c).pl = t.endOpen c; unfold Ts.endOpen; repeat' split
  all_goals first | exact Ts.with_fin (t.openTag c) 3 true rfl hot rfl | exact Ts.to_clean _ _
 ·
  show (t.tagName c).to (t.tagName c).pl = t.tagName c; unfold Ts.tagName; repeat' split
  all_goals first | exact hcl | exact Ts.to_clean _ _ | exact Ts.with_name t 3 _ rfl ht hp
 ·
  show (t.beforeAttr c).to (t.beforeAttr c).pl = t.beforeAttr c; unfold Ts.beforeAttr; repeat' split
  all_goals first | exact hs | exact hcl | exact hoa | exact Ts.to_clean _ _
 ·
  show (t.attrName c).to (t.attrName c).pl = t.attrName c; unfold Ts.attrName; repeat' split
  all_goals first | exact hcl | exact Ts.to_clean _ _ | exact Ts.with_attr t 5 _ rfl ht hp
 ·
  show (t.afterName c).to (t.afterName c).pl = t.afterName c; unfold Ts.afterName; repeat' split
  all_goals first | exact hs | exact hcl | exact hoa | exact Ts.to_clean _ _
 ·
  show (t.beforeValue c).to (t.beforeValue c).pl = t.beforeValue c; unfold Ts.beforeValue; repeat' split
  all_goals first | exact hs | exact hcl | exact Ts.to_clean _ _
 ·
  show (Ts.quoted 34 t c).to (Ts.quoted 34 t c).pl = Ts.quoted 34 t c; unfold Ts.quoted; split
  all_goals first | exact hs | exact Ts.to_clean _ _
 ·
  show (Ts.quoted 39 t c).to (Ts.quoted 39 t c).pl = Ts.quoted 39 t c; unfold Ts.quoted; split
  all_goals first | exact hs | exact Ts.to_clean _ _
 ·
  show (t.bare c).to (t.bare c).pl = t.bare c; unfold Ts.bare; repeat' split
  all_goals first | exact hs | exact hcl | exact Ts.to_clean _ _
 ·
  show (t.afterValue c).to (t.afterValue c).pl = t.afterValue c; unfold Ts.afterValue; repeat' split
  all_goals first | exact hcl | exact hoa | exact Ts.to_clean _ _
 ·
  show (t.selfClose c).to (t.selfClose c).pl = t.selfClose c; unfold Ts.selfClose; repeat' split
  all_goals first | exact hs | exact hcl | exact hoa | exact Ts.to_clean _ _
 ·
  show (t.bang c).to (t.bang c).pl = t.bang c; unfold Ts.bang; repeat' split
  all_goals exact Ts.to_clean _ _
 ·
  show (t.bangDash c).to (t.bangDash c).pl = t.bangDash c; unfold Ts.bangDash; repeat' split
  all_goals exact Ts.to_clean _ _
 ·
  show (t.comment c).to (t.comment c).pl = t.comment c; unfold Ts.comment; split
  all_goals first | exact hs | exact Ts.to_clean _ _
 ·
  show (t.commentDash c).to (t.commentDash c).pl = t.commentDash c; unfold Ts.commentDash; split
  all_goals exact Ts.to_clean _ _
 ·
  show (t.commentEnd c).to (t.commentEnd c).pl = t.commentEnd c; unfold Ts.commentEnd; repeat' split
  all_goals first | exact hs | exact Ts.to_clean _ _
 ·
  show (t.bogus c).to (t.bogus c).pl = t.bogus c; unfold Ts.bogus; split
  all_goals first | exact hs | exact Ts.to_clean _ _
 ·
  show (t.heldS c).to (t.heldS c).pl = t.heldS c; unfold Ts.heldS; split
  all_goals first | exact hs | exact Ts.to_clean _ _
 ·
  show (t.heldLt c).to (t.heldLt c).pl = t.heldLt c; unfold Ts.heldLt; repeat' split
  all_goals first | exact hs | exact Ts.to_clean _ _
 ·
  show (t.heldSlash c).to (t.heldSlash c).pl = t.heldSlash c; unfold Ts.heldSlash; split
  ·
   exact Ts.with_read (t.to 22) 1 (Ts.to_to t 22) rfl
  ·
   exact hon
 ·
  show (t.heldName c).to (t.heldName c).pl = t.heldName c; unfold Ts.heldName; repeat' split
  all_goals first | exact Ts.with_read t _ ht hp | exact hon | exact Ts.to_clean _ _
theorem Ts.heldAt_lt {t : Ts} {c : UInt8} (h : Ts.heldAt t c = true) : 0 ≤ t.read ∧ t.read < t.held.size := by
 unfold Ts.heldAt at h
 simp only [Bool.and_eq_true, decide_eq_true_eq] at h
 exact h.1
theorem Ts.heldOn_pl (t : Ts) (c : UInt8) : (t.heldOn c).pl ≠ 22 := by
 unfold Ts.heldOn
 split
 ·
  show (20 : Int) ≠ 22; decide
 ·
  show (19 : Int) ≠ 22; decide
theorem Ts.step_read (s : Ts) (c : UInt8) (k : Nat) (hk : s.pl = (k : Int)) (hk23 : k < 23) (h22 : (s.step c).pl = 22) : 0 ≤ (s.step c).read ∧ (s.step c).read ≤ (s.step c).held.size := by
 have hn := Ts.step_next s c k hk hk23
 have hcase : k = 21 ∨ k = 22 := by
  have hc : k = 0 ∨ k = 1 ∨ k = 2 ∨ k = 3 ∨ k = 4 ∨ k = 5 ∨ k = 6 ∨ k = 7 ∨ k = 8 ∨ k = 9 ∨ k = 10 ∨ k = 11 ∨ k = 12 ∨ k = 13 ∨ k = 14 ∨ k = 15 ∨ k = 16 ∨ k = 17 ∨ k = 18 ∨ k = 19 ∨ k = 20 ∨ k = 21 ∨ k = 22 := by omega
  rw [h22] at hn
  rcases hc with e | e | e | e | e | e | e | e | e | e | e | e | e | e | e | e | e | e | e | e | e | e | e
  all_goals first | exact Or.inl e | exact Or.inr e | (subst e; exact absurd hn (by decide))
 rw [Ts.step_at s c k hk hk23] at h22 ⊢
 rcases hcase with e | e
 all_goals subst e
 ·
  have h22 : ((s.to 21).heldSlash c).pl = 22 := h22
  show 0 ≤ ((s.to 21).heldSlash c).read ∧ ((s.to 21).heldSlash c).read ≤ ((s.to 21).heldSlash c).held.size
  unfold Ts.heldSlash at h22 ⊢
  by_cases q : Ts.heldAt (s.to 21) c = true
  ·
   rw [if_pos q]
   have := Ts.heldAt_lt q
   have h0 : (s.to 21).read = 0 := rfl
   refine ⟨by show (0 : Int) ≤ 1; decide, ?_⟩
   show (1 : Int) ≤ ((s.to 21).held.size : Int)
   omega
  ·
   rw [if_neg q] at h22
   exact absurd h22 (Ts.heldOn_pl _ _)
 ·
  have h22 : ((s.to 22).heldName c).pl = 22 := h22
  show 0 ≤ ((s.to 22).heldName c).read ∧ ((s.to 22).heldName c).read ≤ ((s.to 22).heldName c).held.size
  unfold Ts.heldName at h22 ⊢
  by_cases q : Ts.heldAt (s.to 22) c = true
  ·
   rw [if_pos q]
   have := Ts.heldAt_lt q
   exact ⟨by show 0 ≤ (s.to 22).read + 1; omega, by show (s.to 22).read + 1 ≤ ((s.to 22).held.size : Int); omega⟩
  ·
   rw [if_neg q] at h22
   by_cases q2 : (s.to 22).read < (s.to 22).held.size
   ·
    rw [if_pos q2] at h22
    exact absurd h22 (Ts.heldOn_pl _ _)
   ·
    rw [if_neg q2] at h22
    by_cases q3 : Ts.blank c = true
    ·
     rw [if_pos q3] at h22
     exact absurd (show (4 : Int) = 22 from h22) (by decide)
    ·
     rw [if_neg q3] at h22
     by_cases q4 : c = 47
     ·
      rw [if_pos q4] at h22
      exact absurd (show (12 : Int) = 22 from h22) (by decide)
     ·
      rw [if_neg q4] at h22
      by_cases q5 : c = 62
      ·
       rw [if_pos q5] at h22
       exact absurd (show (0 : Int) = 22 from h22) (by decide)
      ·
       rw [if_neg q5] at h22
       exact absurd h22 (Ts.heldOn_pl _ _)
theorem Ts.Fit.step {s : Ts} (h : Ts.Fit s) (c : UInt8) : Ts.Fit (s.step c) := by
 have hl := h.lo
 have hh := h.hi
 obtain ⟨k, hk⟩ : ∃ k : Nat, s.pl = (k : Int) := ⟨s.pl.toNat, by omega⟩
 have hk23 : k < 23 := by omega
 have hn := Ts.step_next s c k hk hk23
 have hb : 0 ≤ (s.step c).pl ∧ (s.step c).pl < 23 := by
  have hc : k = 0 ∨ k = 1 ∨ k = 2 ∨ k = 3 ∨ k = 4 ∨ k = 5 ∨ k = 6 ∨ k = 7 ∨ k = 8 ∨ k = 9 ∨ k = 10 ∨ k = 11 ∨ k = 12 ∨ k = 13 ∨ k = 14 ∨ k = 15 ∨ k = 16 ∨ k = 17 ∨ k = 18 ∨ k = 19 ∨ k = 20 ∨ k = 21 ∨ k = 22 := by omega
  rcases hc with e | e | e | e | e | e | e | e | e | e | e | e | e | e | e | e | e | e | e | e | e | e | e
  all_goals subst e
  all_goals simp only [Ts.nexts, List.mem_cons, List.not_mem_nil, or_false] at hn
  all_goals omega
 exact ⟨hb.1, hb.2, Ts.step_clean s c k hk hk23, Ts.step_small h.small c, Ts.Fine.step h.fine c k hk hk23, fun q => Ts.step_read s c k hk hk23 q⟩
theorem Ts.Fit.start : Ts.Fit Ts.start := ⟨by decide, by decide, rfl, ⟨by decide, by decide, by decide⟩, ⟨fun _ => rfl, fun q => absurd q (by decide)⟩, fun q => absurd q (by decide)⟩
theorem Ts.four_names (h : ByteArray) (hk : Ts.kind h = 2 ∨ Ts.kind h = 3 ∨ Ts.kind h = 4) : 0 < h.size ∧ ∀ x ∈ h.data.toList, x ≠ 60 := by
 have key : h.data.toList = [116, 105, 116, 108, 101] ∨ h.data.toList = [116, 101, 120, 116, 97, 114, 101, 97] ∨ h.data.toList = [115, 99, 114, 105, 112, 116] ∨ h.data.toList = [115, 116, 121, 108, 101] := by
  unfold Ts.kind at hk
  dsimp only at hk
  split at hk
  ·
   omega
  ·
   split at hk
   ·
    next q => rcases q with q | q; exact Or.inl q; exact Or.inr (Or.inl q)
   ·
    split at hk
    ·
     next q => exact Or.inr (Or.inr (Or.inl q))
    ·
     split at hk
     ·
      next q => exact Or.inr (Or.inr (Or.inr q))
     ·
      omega
 have hs : h.size = h.data.toList.length := rfl
 rcases key with e | e | e | e
 all_goals
  refine ⟨by rw [hs, e]; decide, fun x hx => ?_⟩
  rw [e] at hx
  revert x
  decide
open Go.RowKit
theorem Rs.step (s : Ts) (h : Ts.Fit s) (c : UInt8) (w : World) : Calls Tryz.prog 87 #[.agg #[.int .i64 s.pl, .string s.name, .bool s.fin, .string s.attr, .string s.held, .int .i64 s.read], .int .u8 c.toNat] w fun e w' => e = .returned (.agg #[.int .i64 (s.step c).pl, .string (s.step c).name, .bool (s.step c).fin, .string (s.step c).attr, .string (s.step c).held, .int .i64 (s.step c).read]) ∧ Below w.heap.size w w' := by
 have hl := h.lo
 have hh := h.hi
 obtain ⟨k, hk⟩ : ∃ k : Nat, s.pl = (k : Int) := ⟨s.pl.toNat, by omega⟩
 have hk23 : k < 23 := by omega
 have hcl := h.clean
 have hsm := h.small
 have hfi := h.fine
 have hre := h.read
 clear h hl hh
 obtain ⟨pl, n, f, a, hd, rd⟩ := s
 have hk : pl = (k : Int) := hk
 subst hk
 have hcase : k = 0 ∨ k = 1 ∨ k = 2 ∨ k = 3 ∨ k = 4 ∨ k = 5 ∨ k = 6 ∨ k = 7 ∨ k = 8 ∨ k = 9 ∨ k = 10 ∨ k = 11 ∨ k = 12 ∨ k = 13 ∨ k = 14 ∨ k = 15 ∨ k = 16 ∨ k = 17 ∨ k = 18 ∨ k = 19 ∨ k = 20 ∨ k = 21 ∨ k = 22 := by omega
 rcases hcase with e | e | e | e | e | e | e | e | e | e | e | e | e | e | e | e | e | e | e | e | e | e | e
 all_goals subst e
 ·
  obtain rfl : n = Ts.e := (congrArg Ts.name hcl).symm
  obtain rfl : f = false := (congrArg Ts.fin hcl).symm
  obtain rfl : a = Ts.e := (congrArg Ts.attr hcl).symm
  obtain rfl : hd = Ts.e := (congrArg Ts.held hcl).symm
  obtain rfl : rd = 0 := (congrArg Ts.read hcl).symm
  exact Rs.step_0 c w
 ·
  obtain rfl : n = Ts.e := (congrArg Ts.name hcl).symm
  obtain rfl : f = false := (congrArg Ts.fin hcl).symm
  obtain rfl : a = Ts.e := (congrArg Ts.attr hcl).symm
  obtain rfl : hd = Ts.e := (congrArg Ts.held hcl).symm
  obtain rfl : rd = 0 := (congrArg Ts.read hcl).symm
  exact Rs.step_1 c w
 ·
  obtain rfl : n = Ts.e := (congrArg Ts.name hcl).symm
  obtain rfl : f = false := (congrArg Ts.fin hcl).symm
  obtain rfl : a = Ts.e := (congrArg Ts.attr hcl).symm
  obtain rfl : hd = Ts.e := (congrArg Ts.held hcl).symm
  obtain rfl : rd = 0 := (congrArg Ts.read hcl).symm
  exact Rs.step_2 c w
 ·
  obtain rfl : a = Ts.e := (congrArg Ts.attr hcl).symm
  obtain rfl : hd = Ts.e := (congrArg Ts.held hcl).symm
  obtain rfl : rd = 0 := (congrArg Ts.read hcl).symm
  exact Rs.step_3 n f c w hsm.1
 ·
  obtain rfl : a = Ts.e := (congrArg Ts.attr hcl).symm
  obtain rfl : hd = Ts.e := (congrArg Ts.held hcl).symm
  obtain rfl : rd = 0 := (congrArg Ts.read hcl).symm
  exact Rs.step_4 n f c w
 ·
  obtain rfl : hd = Ts.e := (congrArg Ts.held hcl).symm
  obtain rfl : rd = 0 := (congrArg Ts.read hcl).symm
  exact Rs.step_5 n f a c w hsm.2.1
 ·
  obtain rfl : hd = Ts.e := (congrArg Ts.held hcl).symm
  obtain rfl : rd = 0 := (congrArg Ts.read hcl).symm
  exact Rs.step_6 n f a c w
 ·
  obtain rfl : hd = Ts.e := (congrArg Ts.held hcl).symm
  obtain rfl : rd = 0 := (congrArg Ts.read hcl).symm
  exact Rs.step_7 n f a c w
 ·
  obtain rfl : hd = Ts.e := (congrArg Ts.held hcl).symm
  obtain rfl : rd = 0 := (congrArg Ts.read hcl).symm
  exact Rs.step_8 n f a c w
 ·
  obtain rfl : hd = Ts.e := (congrArg Ts.held hcl).symm
  obtain rfl : rd = 0 := (congrArg Ts.read hcl).symm
  exact Rs.step_9 n f a c w
 ·
  obtain rfl : hd = Ts.e := (congrArg Ts.held hcl).symm
  obtain rfl : rd = 0 := (congrArg Ts.read hcl).symm
  exact Rs.step_10 n f a c w
 ·
  obtain rfl : a = Ts.e := (congrArg Ts.attr hcl).symm
  obtain rfl : hd = Ts.e := (congrArg Ts.held hcl).symm
  obtain rfl : rd = 0 := (congrArg Ts.read hcl).symm
  exact Rs.step_11 n f c w
 ·
  obtain rfl : a = Ts.e := (congrArg Ts.attr hcl).symm
  obtain rfl : hd = Ts.e := (congrArg Ts.held hcl).symm
  obtain rfl : rd = 0 := (congrArg Ts.read hcl).symm
  exact Rs.step_12 n f c w
 ·
  obtain rfl : n = Ts.e := (congrArg Ts.name hcl).symm
  obtain rfl : f = false := (congrArg Ts.fin hcl).symm
  obtain rfl : a = Ts.e := (congrArg Ts.attr hcl).symm
  obtain rfl : hd = Ts.e := (congrArg Ts.held hcl).symm
  obtain rfl : rd = 0 := (congrArg Ts.read hcl).symm
  exact Rs.step_13 c w
 ·
  obtain rfl : n = Ts.e := (congrArg Ts.name hcl).symm
  obtain rfl : f = false := (congrArg Ts.fin hcl).symm
  obtain rfl : a = Ts.e := (congrArg Ts.attr hcl).symm
  obtain rfl : hd = Ts.e := (congrArg Ts.held hcl).symm
  obtain rfl : rd = 0 := (congrArg Ts.read hcl).symm
  exact Rs.step_14 c w
 ·
  obtain rfl : n = Ts.e := (congrArg Ts.name hcl).symm
  obtain rfl : f = false := (congrArg Ts.fin hcl).symm
  obtain rfl : a = Ts.e := (congrArg Ts.attr hcl).symm
  obtain rfl : hd = Ts.e := (congrArg Ts.held hcl).symm
  obtain rfl : rd = 0 := (congrArg Ts.read hcl).symm
  exact Rs.step_15 c w
 ·
  obtain rfl : n = Ts.e := (congrArg Ts.name hcl).symm
  obtain rfl : f = false := (congrArg Ts.fin hcl).symm
  obtain rfl : a = Ts.e := (congrArg Ts.attr hcl).symm
  obtain rfl : hd = Ts.e := (congrArg Ts.held hcl).symm
  obtain rfl : rd = 0 := (congrArg Ts.read hcl).symm
  exact Rs.step_16 c w
 ·
  obtain rfl : n = Ts.e := (congrArg Ts.name hcl).symm
  obtain rfl : f = false := (congrArg Ts.fin hcl).symm
  obtain rfl : a = Ts.e := (congrArg Ts.attr hcl).symm
  obtain rfl : hd = Ts.e := (congrArg Ts.held hcl).symm
  obtain rfl : rd = 0 := (congrArg Ts.read hcl).symm
  exact Rs.step_17 c w
 ·
  obtain rfl : n = Ts.e := (congrArg Ts.name hcl).symm
  obtain rfl : f = false := (congrArg Ts.fin hcl).symm
  obtain rfl : a = Ts.e := (congrArg Ts.attr hcl).symm
  obtain rfl : hd = Ts.e := (congrArg Ts.held hcl).symm
  obtain rfl : rd = 0 := (congrArg Ts.read hcl).symm
  exact Rs.step_18 c w
 ·
  obtain rfl : n = Ts.e := (congrArg Ts.name hcl).symm
  obtain rfl : f = false := (congrArg Ts.fin hcl).symm
  obtain rfl : a = Ts.e := (congrArg Ts.attr hcl).symm
  obtain rfl : rd = 0 := (congrArg Ts.read hcl).symm
  exact Rs.step_19 hd c w
 ·
  obtain rfl : n = Ts.e := (congrArg Ts.name hcl).symm
  obtain rfl : f = false := (congrArg Ts.fin hcl).symm
  obtain rfl : a = Ts.e := (congrArg Ts.attr hcl).symm
  obtain rfl : rd = 0 := (congrArg Ts.read hcl).symm
  exact Rs.step_20 hd c w
 ·
  obtain rfl : n = Ts.e := (congrArg Ts.name hcl).symm
  obtain rfl : f = false := (congrArg Ts.fin hcl).symm
  obtain rfl : a = Ts.e := (congrArg Ts.attr hcl).symm
  obtain rfl : rd = 0 := (congrArg Ts.read hcl).symm
  have h4 := Ts.four_names hd (hfi.high (by show (19 : Int) ≤ ((21 : Nat) : Int); decide))
  exact Rs.step_21 hd c w h4.1 h4.2
 ·
  obtain rfl : n = Ts.e := (congrArg Ts.name hcl).symm
  obtain rfl : f = false := (congrArg Ts.fin hcl).symm
  obtain rfl : a = Ts.e := (congrArg Ts.attr hcl).symm
  have h4 := Ts.four_names hd (hfi.high (by show (19 : Int) ≤ ((22 : Nat) : Int); decide))
  have hr := hre rfl
  obtain ⟨j, hj⟩ : ∃ j : Nat, rd = (j : Int) := ⟨rd.toNat, by have : 0 ≤ rd := hr.1; omega⟩
  subst hj
  have hj2 : (j : Int) ≤ (hd.size : Int) := hr.2
  exact Rs.step_22 hd j c w (by omega) (by have : hd.size ≤ _ := hsm.2.2; omega) h4.2
theorem Bt.and6 (n : Int) : bits .and .i64 n 63 = n % 64 := by
 have hm : (BitVec.ofInt 64 63).toNat = 2 ^ 6 - 1 := by decide
 have key : (BitVec.ofInt 64 n &&& BitVec.ofInt 64 63).toNat = (n % ((2 ^ 64 : Nat) : Int)).toNat % 2 ^ 6 := by
  rw [BitVec.toNat_and, BitVec.toNat_ofInt, hm, Nat.and_two_pow_sub_one_eq_mod]
 show IntKind.i64.wrap ((BitVec.ofInt 64 n &&& BitVec.ofInt 64 63).toNat : Nat) = n % 64
 rw [key, IntKind.wrap_i64]
 omega
theorem Bt.wraps62 (n : Int) (h₀ : 0 ≤ n) (h₁ : n < 2 ^ 62) : IntKind.i64.wrap n = n := by rw [IntKind.wrap_i64]; omega
theorem Bt.or (i : Nat) (c y : Int) (hc0 : 0 ≤ c) (hc : c % 2 ^ i = 0) (hc1 : c < 256) (h0 : 0 ≤ y) (h1 : y < 2 ^ i) (h2 : y < 256) : bits .or .i64 c y = c + y := by
 exact bits_join .i64 62 (by decide) Bt.wraps62 i c y hc0 hc (by omega) h0 h1 (by omega)
theorem Bt.byte (z : Int) (h0 : 0 ≤ z) (h1 : z < 256) : ∃ a : UInt8, (a.toNat : Int) = z ∧ a = UInt8.ofNat z.toNat :=
 ⟨UInt8.ofNat z.toNat, by rw [UInt8.toNat_ofNat']; omega, rfl⟩
theorem Ru.fin (w : World) (cs : Array Value) (l : List UInt8) (n : Nat) (hn : l.length = n) (hs : n ≤ 4) (h : cs.toList = Lib.byteCells l) :
  (w.alloc (.cells cs 5)).ownsRow w.heap.size 5 1 (.slice (some ⟨w.heap.size, 0, none⟩) n n) l.length (Lib.byteCells l) := by
 have hc : cs.size = n := by rw [← Array.length_toList, h, Lib.byteCells_length, hn]
 have := World.ownsRow_lit (e := 5) (size := 1) w cs n (Nat.le_refl _) (by unfold maxLen; omega) (by omega)
 rw [hn, ← h]
 exact this
set_option maxRecDepth 100000 in
theorem Ru.bad (x : Nat) (w : World) (h : x = 0 ∨ (55296 ≤ x ∧ x ≤ 57343) ∨ 1114111 < x) :
  Calls Tryz.prog 147 #[.int .i64 (x : Int)] w fun e w' => ∃ v, e = .returned v ∧ w'.ownsRow w.heap.size 5 1 v (Pl.runeL x).length (Lib.byteCells (Pl.runeL x)) ∧ Below w.heap.size w w' := by
 have hr : Pl.runeL x = Pl.fffd := by rw [Pl.runeL, if_pos h]
 rw [hr]
 by_cases h0 : x = 0
 ·
  subst h0
  clear hr h
  go_enter Tryz.func147, Tryz.ntmps147
  go_wp2
  go_ret
  exact ⟨_, rfl, Ru.fin w _ Pl.fffd 3 rfl (by omega) rfl, (Below.refl _ _).alloc (Nat.le_refl _) _⟩
 ·
  have d0 : decide ((x : Int) ≤ 0) = false := decide_eq_false (by omega)
  by_cases h1 : 55296 ≤ x ∧ x ≤ 57343
  ·
   have d1 : decide ((55296 : Int) ≤ (x : Int)) = true := decide_eq_true (by omega)
   have d2 : decide ((x : Int) ≤ 57343) = true := decide_eq_true (by omega)
   clear hr h h1
   go_enter Tryz.func147, Tryz.ntmps147
   go_wp2
   go_ret
   exact ⟨_, rfl, Ru.fin w _ Pl.fffd 3 rfl (by omega) rfl, (Below.refl _ _).alloc (Nat.le_refl _) _⟩
  ·
   have d3 : decide ((1114111 : Int) < (x : Int)) = true := decide_eq_true (by omega)
   have d1 : decide ((55296 : Int) ≤ (x : Int)) = true := decide_eq_true (by omega)
   have d2 : decide ((x : Int) ≤ 57343) = false := decide_eq_false (by omega)
   clear hr h h1
   go_enter Tryz.func147, Tryz.ntmps147
   go_wp2
   go_ret
   exact ⟨_, rfl, Ru.fin w _ Pl.fffd 3 rfl (by omega) rfl, (Below.refl _ _).alloc (Nat.le_refl _) _⟩
set_option maxRecDepth 100000 in
set_option maxHeartbeats 1000000 in
theorem Ru.good (x : Nat) (w : World) (h : ¬ (x = 0 ∨ (55296 ≤ x ∧ x ≤ 57343) ∨ 1114111 < x)) :
  Calls Tryz.prog 147 #[.int .i64 (x : Int)] w fun e w' => ∃ v, e = .returned v ∧ w'.ownsRow w.heap.size 5 1 v (Pl.runeL x).length (Lib.byteCells (Pl.runeL x)) ∧ Below w.heap.size w w' := by
 have hr : Pl.runeL x = if x < 128 then [UInt8.ofNat x]
   else if x < 2048 then [UInt8.ofNat (192 + x / 64), UInt8.ofNat (128 + x % 64)]
   else if x < 65536 then [UInt8.ofNat (224 + x / 4096), UInt8.ofNat (128 + x / 64 % 64), UInt8.ofNat (128 + x % 64)]
   else [UInt8.ofNat (240 + x / 262144), UInt8.ofNat (128 + x / 4096 % 64), UInt8.ofNat (128 + x / 64 % 64), UInt8.ofNat (128 + x % 64)] := by rw [Pl.runeL, if_neg h]
 have h0 : ¬ x = 0 := fun e => h (.inl e)
 generalize Pl.runeL x = L at *
 have d0 : decide ((x : Int) ≤ 0) = false := decide_eq_false (by omega)
 have d3 : decide ((1114111 : Int) < (x : Int)) = false := decide_eq_false (by omega)
 have q0 : (0 : Int) ≤ (x : Int) := by omega
 have q1 : (x : Int) ≤ 1114111 := by omega
 by_cases c1 : x < 128
 ·
  rw [if_pos c1] at hr
  have d1 : decide ((55296 : Int) ≤ (x : Int)) = false := decide_eq_false (by omega)
  have d4 : decide ((x : Int) < 128) = true := decide_eq_true (by omega)
  clear h
  obtain ⟨a, ha, ka⟩ := Bt.byte (x : Int) (by omega) (by omega)
  have HL : Hid (L = [a]) := by
   show _ = _
   rw [hr, ka, Int.toNat_natCast]
  have HA : Hid ((a.toNat : Int) = x) := ha
  clear hr ha ka
  rw [HL.out]
  go_enter Tryz.func147, Tryz.ntmps147
  go_wp2
  go_ret
  exact ⟨_, rfl, Ru.fin w #[.int .u8 (x : Int)] [a] 1 rfl (by omega) (by rw [← HA.out]; rfl), (Below.refl _ _).alloc (Nat.le_refl _) _⟩
 ·
  rw [if_neg c1] at hr
  have d4 : decide ((x : Int) < 128) = false := decide_eq_false (by omega)
  by_cases c2 : x < 2048
  ·
   rw [if_pos c2] at hr
   have d1 : decide ((55296 : Int) ≤ (x : Int)) = false := decide_eq_false (by omega)
   have d5 : decide ((x : Int) < 2048) = true := decide_eq_true (by omega)
   clear h
   obtain ⟨a, ha, ka⟩ := Bt.byte (192 + (x : Int) / 64) (by omega) (by omega)
   obtain ⟨b, hb, kb⟩ := Bt.byte (128 + (x : Int) % 64) (by omega) (by omega)
   have HL : Hid (L = [a, b]) := by
    show _ = _
    rw [hr, ka, kb]
    rw [show (192 + (x : Int) / 64).toNat = 192 + x / 64 by omega]
    rw [show (128 + (x : Int) % 64).toNat = 128 + x % 64 by omega]
   have ea : bits .or .i64 192 ((x : Int) / 64) % 256 = (a.toNat : Int) := by
    rw [Bt.or 5 192 _ (by omega) (by omega) (by omega) (by omega) (by omega) (by omega), ha]; omega
   have eb : bits .or .i64 128 (bits .and .i64 (x : Int) 63) % 256 = (b.toNat : Int) := by
    rw [Bt.and6, Bt.or 6 128 _ (by omega) (by omega) (by omega) (by omega) (by omega) (by omega), hb]; omega
   clear hr ha ka hb kb
   rw [HL.out]
   go_enter Tryz.func147, Tryz.ntmps147
   go_wp2
   go_ret
   exact ⟨_, rfl, Ru.fin w #[.int .u8 (a.toNat : Int), .int .u8 (b.toNat : Int)] _ 2 rfl (by omega) rfl, (Below.refl _ _).alloc (Nat.le_refl _) _⟩
  ·
   rw [if_neg c2] at hr
   have d5 : decide ((x : Int) < 2048) = false := decide_eq_false (by omega)
   by_cases c3 : x < 65536
   ·
    rw [if_pos c3] at hr
    have d6 : decide ((x : Int) < 65536) = true := decide_eq_true (by omega)
    by_cases c4 : x < 55296
    ·
     have d1 : decide ((55296 : Int) ≤ (x : Int)) = false := decide_eq_false (by omega)
     clear h
     obtain ⟨a, ha, ka⟩ := Bt.byte (224 + (x : Int) / 4096) (by omega) (by omega)
     obtain ⟨b, hb, kb⟩ := Bt.byte (128 + (x : Int) / 64 % 64) (by omega) (by omega)
     obtain ⟨c, hc, kc⟩ := Bt.byte (128 + (x : Int) % 64) (by omega) (by omega)
     have HL : Hid (L = [a, b, c]) := by
      show _ = _
      rw [hr, ka, kb, kc]
      rw [show (224 + (x : Int) / 4096).toNat = 224 + x / 4096 by omega]
      rw [show (128 + (x : Int) / 64 % 64).toNat = 128 + x / 64 % 64 by omega]
      rw [show (128 + (x : Int) % 64).toNat = 128 + x % 64 by omega]
     have ea : bits .or .i64 224 ((x : Int) / 4096) % 256 = (a.toNat : Int) := by
      rw [Bt.or 4 224 _ (by omega) (by omega) (by omega) (by omega) (by omega) (by omega), ha]; omega
     have eb : bits .or .i64 128 (bits .and .i64 ((x : Int) / 64) 63) % 256 = (b.toNat : Int) := by
      rw [Bt.and6, Bt.or 6 128 _ (by omega) (by omega) (by omega) (by omega) (by omega) (by omega), hb]; omega
     have ec : bits .or .i64 128 (bits .and .i64 (x : Int) 63) % 256 = (c.toNat : Int) := by
      rw [Bt.and6, Bt.or 6 128 _ (by omega) (by omega) (by omega) (by omega) (by omega) (by omega), hc]; omega
     clear hr ha ka hb kb hc kc
     rw [HL.out]
     go_enter Tryz.func147, Tryz.ntmps147
     go_wp2
     go_ret
     exact ⟨_, rfl, Ru.fin w #[.int .u8 (a.toNat : Int), .int .u8 (b.toNat : Int), .int .u8 (c.toNat : Int)] _ 3 rfl (by omega) rfl, (Below.refl _ _).alloc (Nat.le_refl _) _⟩
    ·
     have d1 : decide ((55296 : Int) ≤ (x : Int)) = true := decide_eq_true (by omega)
     have d2 : decide ((x : Int) ≤ 57343) = false := decide_eq_false (by omega)
     clear h
     obtain ⟨a, ha, ka⟩ := Bt.byte (224 + (x : Int) / 4096) (by omega) (by omega)
     obtain ⟨b, hb, kb⟩ := Bt.byte (128 + (x : Int) / 64 % 64) (by omega) (by omega)
     obtain ⟨c, hc, kc⟩ := Bt.byte (128 + (x : Int) % 64) (by omega) (by omega)
     have HL : Hid (L = [a, b, c]) := by
      show _ = _
      rw [hr, ka, kb, kc]
      rw [show (224 + (x : Int) / 4096).toNat = 224 + x / 4096 by omega]
      rw [show (128 + (x : Int) / 64 % 64).toNat = 128 + x / 64 % 64 by omega]
      rw [show (128 + (x : Int) % 64).toNat = 128 + x % 64 by omega]
     have ea : bits .or .i64 224 ((x : Int) / 4096) % 256 = (a.toNat : Int) := by
      rw [Bt.or 4 224 _ (by omega) (by omega) (by omega) (by omega) (by omega) (by omega), ha]; omega
     have eb : bits .or .i64 128 (bits .and .i64 ((x : Int) / 64) 63) % 256 = (b.toNat : Int) := by
      rw [Bt.and6, Bt.or 6 128 _ (by omega) (by omega) (by omega) (by omega) (by omega) (by omega), hb]; omega
     have ec : bits .or .i64 128 (bits .and .i64 (x : Int) 63) % 256 = (c.toNat : Int) := by
      rw [Bt.and6, Bt.or 6 128 _ (by omega) (by omega) (by omega) (by omega) (by omega) (by omega), hc]; omega
     clear hr ha ka hb kb hc kc
     rw [HL.out]
     go_enter Tryz.func147, Tryz.ntmps147
     go_wp2
     go_ret
     exact ⟨_, rfl, Ru.fin w #[.int .u8 (a.toNat : Int), .int .u8 (b.toNat : Int), .int .u8 (c.toNat : Int)] _ 3 rfl (by omega) rfl, (Below.refl _ _).alloc (Nat.le_refl _) _⟩
   ·
    rw [if_neg c3] at hr
    have d6 : decide ((x : Int) < 65536) = false := decide_eq_false (by omega)
    have d1 : decide ((55296 : Int) ≤ (x : Int)) = true := decide_eq_true (by omega)
    have d2 : decide ((x : Int) ≤ 57343) = false := decide_eq_false (by omega)
    clear h
    obtain ⟨a, ha, ka⟩ := Bt.byte (240 + (x : Int) / 262144) (by omega) (by omega)
    obtain ⟨b, hb, kb⟩ := Bt.byte (128 + (x : Int) / 4096 % 64) (by omega) (by omega)
    obtain ⟨c, hc, kc⟩ := Bt.byte (128 + (x : Int) / 64 % 64) (by omega) (by omega)
    obtain ⟨d, hd, kd⟩ := Bt.byte (128 + (x : Int) % 64) (by omega) (by omega)
    have HL : Hid (L = [a, b, c, d]) := by
     show _ = _
     rw [hr, ka, kb, kc, kd]
     rw [show (240 + (x : Int) / 262144).toNat = 240 + x / 262144 by omega]
     rw [show (128 + (x : Int) / 4096 % 64).toNat = 128 + x / 4096 % 64 by omega]
     rw [show (128 + (x : Int) / 64 % 64).toNat = 128 + x / 64 % 64 by omega]
     rw [show (128 + (x : Int) % 64).toNat = 128 + x % 64 by omega]
    have ea : bits .or .i64 240 ((x : Int) / 262144) % 256 = (a.toNat : Int) := by
     rw [Bt.or 4 240 _ (by omega) (by omega) (by omega) (by omega) (by omega) (by omega), ha]; omega
    have eb : bits .or .i64 128 (bits .and .i64 ((x : Int) / 4096) 63) % 256 = (b.toNat : Int) := by
     rw [Bt.and6, Bt.or 6 128 _ (by omega) (by omega) (by omega) (by omega) (by omega) (by omega), hb]; omega
    have ec : bits .or .i64 128 (bits .and .i64 ((x : Int) / 64) 63) % 256 = (c.toNat : Int) := by
     rw [Bt.and6, Bt.or 6 128 _ (by omega) (by omega) (by omega) (by omega) (by omega) (by omega), hc]; omega
    have ed : bits .or .i64 128 (bits .and .i64 (x : Int) 63) % 256 = (d.toNat : Int) := by
     rw [Bt.and6, Bt.or 6 128 _ (by omega) (by omega) (by omega) (by omega) (by omega) (by omega), hd]; omega
    clear hr ha ka hb kb hc kc hd kd
    rw [HL.out]
    go_enter Tryz.func147, Tryz.ntmps147
    go_wp2
    go_ret
    exact ⟨_, rfl, Ru.fin w #[.int .u8 (a.toNat : Int), .int .u8 (b.toNat : Int), .int .u8 (c.toNat : Int), .int .u8 (d.toNat : Int)] _ 4 rfl (by omega) rfl, (Below.refl _ _).alloc (Nat.le_refl _) _⟩
theorem Ru.rune (x : Nat) (w : World) :
  Calls Tryz.prog 147 #[.int .i64 (x : Int)] w fun e w' => ∃ v, e = .returned v ∧ w'.ownsRow w.heap.size 5 1 v (Pl.runeL x).length (Lib.byteCells (Pl.runeL x)) ∧ Below w.heap.size w w' := by
 by_cases h : x = 0 ∨ (55296 ≤ x ∧ x ≤ 57343) ∨ 1114111 < x
 ·
  exact Ru.bad x w h
 ·
  exact Ru.good x w h
def Pl.letter (c : UInt8) : Bool := decide (97 ≤ (Pl.lowB c).toNat) && decide ((Pl.lowB c).toNat ≤ 122)
def Pl.digit (c : UInt8) : Bool := decide (48 ≤ c.toNat) && decide (c.toNat ≤ 57)
theorem Pl.tokc_eq (c : UInt8) : Pl.tokc c = (Pl.letter c || Pl.digit c || decide (c = 35)) := rfl
theorem Rt.letter (c : UInt8) (w : World) :
  Calls Tryz.prog 126 #[.int .u8 c.toNat] w fun e w' => e = .returned (.bool (Pl.letter c)) ∧ w' = w := by
 have cl := Sz.low c w
 have HL : Hid (Pl.letter c = (decide (97 ≤ (Pl.lowB c).toNat) && decide ((Pl.lowB c).toNat ≤ 122))) := rfl
 generalize (Pl.lowB c).toNat = m at *
 generalize Pl.letter c = b at *
 by_cases h1 : 97 ≤ m
 ·
  by_cases h2 : m ≤ 122
  ·
   have d1 : decide ((97 : Int) ≤ (m : Int)) = true := decide_eq_true (by omega)
   have d2 : decide ((m : Int) ≤ 122) = true := decide_eq_true (by omega)
   have hb : b = true := by rw [HL.out]; simp [h1, h2]
   subst hb
   clear HL
   go_enter Tryz.func126, Tryz.ntmps126
   go_wp2_with (go_at_call 145; refine cl.mono ?_; rintro e w1 ⟨rfl, rfl⟩)
   go_ret
   exact ⟨rfl, rfl⟩
  ·
   have d1 : decide ((97 : Int) ≤ (m : Int)) = true := decide_eq_true (by omega)
   have d2 : decide ((m : Int) ≤ 122) = false := decide_eq_false (by omega)
   have hb : b = false := by rw [HL.out]; simp [h1, h2]
   subst hb
   clear HL
   go_enter Tryz.func126, Tryz.ntmps126
   go_wp2_with (go_at_call 145; refine cl.mono ?_; rintro e w1 ⟨rfl, rfl⟩)
   go_ret
   exact ⟨rfl, rfl⟩
 ·
  have d1 : decide ((97 : Int) ≤ (m : Int)) = false := decide_eq_false (by omega)
  have hb : b = false := by rw [HL.out]; simp [h1]
  subst hb
  clear HL
  go_enter Tryz.func126, Tryz.ntmps126
  go_wp2_with (go_at_call 145; refine cl.mono ?_; rintro e w1 ⟨rfl, rfl⟩)
  go_ret
  exact ⟨rfl, rfl⟩
theorem Rt.digit (c : UInt8) (w : World) :
  Calls Tryz.prog 127 #[.int .u8 c.toNat] w fun e w' => e = .returned (.bool (Pl.digit c)) ∧ w' = w := by
 have HL : Hid (Pl.digit c = (decide (48 ≤ c.toNat) && decide (c.toNat ≤ 57))) := rfl
 generalize c.toNat = m at *
 generalize Pl.digit c = b at *
 by_cases h1 : 48 ≤ m
 ·
  by_cases h2 : m ≤ 57
  ·
   have hb : b = true := by rw [HL.out]; simp [h1, h2]
   subst hb
   clear HL
   go_enter Tryz.func127, Tryz.ntmps127
   go_wp2
   go_ret
   exact ⟨by simp; omega, rfl⟩
  ·
   have hb : b = false := by rw [HL.out]; simp [h1, h2]
   subst hb
   clear HL
   go_enter Tryz.func127, Tryz.ntmps127
   go_wp2
   go_ret
   exact ⟨by simp; omega, rfl⟩
 ·
  have hb : b = false := by rw [HL.out]; simp [h1]
  subst hb
  clear HL
  go_enter Tryz.func127, Tryz.ntmps127
  go_wp2
  go_ret
  exact ⟨by first | rfl | simp, rfl⟩
def Pl.hexI (c : UInt8) : Int := if Pl.dig c = 16 then -1 else Pl.dig c
theorem Pl.hexI_low (c : UInt8) : Pl.hexI c = if 48 ≤ (Pl.lowB c).toNat ∧ (Pl.lowB c).toNat ≤ 57 then ((Pl.lowB c).toNat : Int) - 48 else if 97 ≤ (Pl.lowB c).toNat ∧ (Pl.lowB c).toNat ≤ 102 then ((Pl.lowB c).toNat : Int) - 87 else -1 := by
 rw [Pl.hexI, Pl.lowB_toNat]
 unfold Pl.dig
 repeat' split
 all_goals omega
set_option maxHeartbeats 1000000 in
theorem Rt.hex (c : UInt8) (w : World) :
  Calls Tryz.prog 163 #[.int .u8 c.toNat] w fun e w' => e = .returned (.int .i64 (Pl.hexI c)) ∧ w' = w := by
 have cl := Sz.low c w
 have cd := Rt.digit (Pl.lowB c) w
 have hv := Pl.hexI_low c
 have hlt := (Pl.lowB c).toNat_lt
 have HD : Hid (Pl.digit (Pl.lowB c) = (decide (48 ≤ (Pl.lowB c).toNat) && decide ((Pl.lowB c).toNat ≤ 57))) := rfl
 generalize Pl.digit (Pl.lowB c) = b at *
 generalize (Pl.lowB c).toNat = m at *
 generalize Pl.hexI c = v at *
 by_cases h1 : 48 ≤ m ∧ m ≤ 57
 ·
  have hb : b = true := by rw [HD.out]; simp [h1]
  subst hb
  rw [if_pos h1] at hv
  obtain ⟨h1a, h1b⟩ := h1
  have HV : Hid (v = (m : Int) - 48) := hv
  clear HD hv
  go_enter Tryz.func163, Tryz.ntmps163
  go_wp2_with (first | (go_at_call 145; refine cl.mono ?_; rintro e w1 ⟨rfl, rfl⟩) | (go_at_call 127; refine cd.mono ?_; rintro e w1 ⟨rfl, rfl⟩))
  go_ret
  refine ⟨?_, rfl⟩
  rw [HV.out]
  simp
  try omega
 ·
  have hb : b = false := by
   rw [HD.out, Bool.and_eq_false_iff]
   simp
   omega
  subst hb
  rw [if_neg h1] at hv
  by_cases h2 : 97 ≤ m ∧ m ≤ 102
  ·
   rw [if_pos h2] at hv
   obtain ⟨h2a, h2b⟩ := h2
   have HV : Hid (v = (m : Int) - 87) := hv
   clear HD hv h1
   go_enter Tryz.func163, Tryz.ntmps163
   go_wp2_with (first | (go_at_call 145; refine cl.mono ?_; rintro e w1 ⟨rfl, rfl⟩) | (go_at_call 127; refine cd.mono ?_; rintro e w1 ⟨rfl, rfl⟩))
   go_ret
   refine ⟨?_, rfl⟩
   rw [HV.out]
   simp
   try omega
  ·
   rw [if_neg h2] at hv
   subst hv
   by_cases h3 : 97 ≤ m
   ·
    have h4 : ¬ m ≤ 102 := fun h => h2 ⟨h3, h⟩
    clear HD h1 h2
    go_enter Tryz.func163, Tryz.ntmps163
    go_wp2_with (first | (go_at_call 145; refine cl.mono ?_; rintro e w1 ⟨rfl, rfl⟩) | (go_at_call 127; refine cd.mono ?_; rintro e w1 ⟨rfl, rfl⟩))
    go_ret
    exact ⟨rfl, rfl⟩
   ·
    clear HD h1 h2
    go_enter Tryz.func163, Tryz.ntmps163
    go_wp2_with (first | (go_at_call 145; refine cl.mono ?_; rintro e w1 ⟨rfl, rfl⟩) | (go_at_call 127; refine cd.mono ?_; rintro e w1 ⟨rfl, rfl⟩))
    go_ret
    exact ⟨rfl, rfl⟩
end Go.Proofs.YtblpkjlodncpeaaGreatDoor

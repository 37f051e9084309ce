/-
  THE WALK of refs.reference: it returns what 'Pl.refL' gives of the bytes behind an '&', and turns nothing that was there.
-/
import Derived.Test.YtjbkgokiikbaeaaGreatDoorRDig
import Derived.Test.YtjbkgokiikbaeaaGreatDoorSign
import Derived.Deep.QuietTactic
import Derived.BigQuiet
namespace Go.Proofs.YtjbkgokiikbaeaaGreatDoor
open Go.RowKit

theorem Wk.below_drews {B : Nat} {w wr : World} (h : Below B w wr) : ∀ n, Below B w (wr.drewN n)
  | 0 => h
  | n + 1 => (Wk.below_drews h n).drew
theorem Rr.hasPre (s p : ByteArray) (l : List UInt8) (b : Bool) (hl : p.data.toList = l) (hb : Pl.pre l s.data.toList = b) (w : World) :
    Calls Tryz.prog 117 #[.string s, .string p] w fun e w' => e = .returned (.bool b) ∧ w' = w := by
  have h := Sh.strings_HasPrefix s p w
  rw [hl] at h
  have e : Lib.hasPrefix s.data.toList l = b := hb
  rwa [e] at h
theorem Rr.size_pre (s : ByteArray) (p : List UInt8) (h : Pl.pre p s.data.toList = true) : p.length ≤ s.size := by
  obtain ⟨r, hr⟩ := (Pl.pre_iff _ _).1 h
  have := congrArg List.length hr
  rw [Wk.len_data, List.length_append] at this
  omega
/-- the table of names, as it lies -/
def Rr.row (n : List UInt8 × List UInt8) : List Value := [.string ⟨n.1.toArray⟩, .string ⟨n.2.toArray⟩]
def Rr.table : Array Value := #[.string ⟨#[97, 109, 112, 59]⟩, .string ⟨#[38]⟩, .string ⟨#[108, 116, 59]⟩, .string ⟨#[60]⟩, .string ⟨#[103, 116, 59]⟩, .string ⟨#[62]⟩, .string ⟨#[113, 117, 111, 116, 59]⟩, .string ⟨#[34]⟩, .string ⟨#[97, 112, 111, 115, 59]⟩, .string ⟨#[39]⟩, .string ⟨#[110, 98, 115, 112, 59]⟩, .string ⟨#[194, 160]⟩, .string ⟨#[99, 111, 112, 121, 59]⟩, .string ⟨#[194, 169]⟩]
theorem Rr.cells (w : World) (a j : Nat) (hj : j < 7) (h : w.heap[a]? = some (.cells Rr.table 92 (0, 0))) :
    ∃ (t g : List UInt8), w.cell? ⟨a, j * 2, none⟩ = some (.string ⟨t.toArray⟩) ∧ w.cell? ⟨a, j * 2 + 1, none⟩ = some (.string ⟨g.toArray⟩) ∧ Pl.names.drop j = (t, g) :: Pl.names.drop (j + 1) ∧ t.length ≤ 6 := by
  have hc : ∀ i, w.cell? ⟨a, i, none⟩ = Rr.table[i]? := fun i => by rw [Lib.cell_of_heap h]
  rw [hc, hc]
  have : j = 0 ∨ j = 1 ∨ j = 2 ∨ j = 3 ∨ j = 4 ∨ j = 5 ∨ j = 6 := by omega
  rcases this with rfl | rfl | rfl | rfl | rfl | rfl | rfl
  all_goals exact ⟨_, _, rfl, rfl, rfl, by decide⟩

set_option maxRecDepth 100000 in
set_option maxHeartbeats 1000000 in
theorem Rr.reference (s : ByteArray) (a : Nat) (w : World) (hn : w.heap[a]? = some (.cells Rr.table 92 (0, 0))) :
    Calls Tryz.prog 102 #[.string s, .slice (some ⟨a, 0, none⟩) 7 7] w fun e w' => e = .returned (.tuple #[.string ⟨(Pl.refL s.data.toList).1.toArray⟩, .int .i64 ((Pl.refL s.data.toList).2 : Nat)]) ∧ Below w.heap.size w w' := by
  obtain ⟨b1, h1⟩ : ∃ b, Pl.pre [35, 120] s.data.toList = b := ⟨_, rfl⟩
  obtain ⟨b2, h2⟩ : ∃ b, Pl.pre [35, 88] s.data.toList = b := ⟨_, rfl⟩
  obtain ⟨b3, h3⟩ : ∃ b, Pl.pre [35] s.data.toList = b := ⟨_, rfl⟩
  have c1 := Rr.hasPre s ⟨#[35, 120]⟩ [35, 120] b1 rfl h1 w
  have c2 := Rr.hasPre s ⟨#[35, 88]⟩ [35, 88] b2 rfl h2 w
  have c3 := Rr.hasPre s ⟨#[35]⟩ [35] b3 rfl h3 w
  have HR : Hid (Pl.refL s.data.toList = if b1 || b2 then Pl.numL s.data.toList 2 16 6 else if b3 then Pl.numL s.data.toList 1 10 7 else Pl.nameL Pl.names s.data.toList) := by
    show _ = _
    rw [Pl.refL, h1, h2, h3]
  have H1 : Hid (b1 = true → 2 ≤ s.size) := fun h => Rr.size_pre s _ (h1.trans h)
  have H2 : Hid (b2 = true → 2 ≤ s.size) := fun h => Rr.size_pre s _ (h2.trans h)
  have H3 : Hid (b3 = true → 1 ≤ s.size) := fun h => Rr.size_pre s _ (h3.trans h)
  clear h1 h2 h3
  cases b1 with
  | true =>
    have c4 := Rd.hexed s w (H1.out rfl)
    rw [show Pl.refL s.data.toList = Pl.numL s.data.toList 2 16 6 from HR.out]
    generalize Pl.numL s.data.toList 2 16 6 = q at *
    go_enter Tryz.func102, Tryz.ntmps102
    go_wp2_with (first | (go_at_call 117; refine c1.mono ?_; rintro e w1 ⟨rfl, rfl⟩) | (go_at_call 118; refine c4.mono ?_; rintro e w1 ⟨rfl, rfl⟩))
    go_ret2
    exact ⟨rfl, Below.refl _ _⟩
  | false =>
    cases b2 with
    | true =>
      have c4 := Rd.hexed s w (H2.out rfl)
      rw [show Pl.refL s.data.toList = Pl.numL s.data.toList 2 16 6 from HR.out]
      generalize Pl.numL s.data.toList 2 16 6 = q at *
      go_enter Tryz.func102, Tryz.ntmps102
      go_wp2_with fail
      refine c1.mono ?_
      rintro e w1 ⟨rfl, rfl⟩
      go_wp2_with fail
      refine c2.mono ?_
      rintro e w1 ⟨rfl, rfl⟩
      go_wp2_with fail
      refine c4.mono ?_
      rintro e w1 ⟨rfl, rfl⟩
      go_wp2
      go_ret2
      exact ⟨rfl, Below.refl _ _⟩
    | false =>
      cases b3 with
      | true =>
        have c4 := Rd.tens s w (H3.out rfl)
        rw [show Pl.refL s.data.toList = Pl.numL s.data.toList 1 10 7 from HR.out]
        generalize Pl.numL s.data.toList 1 10 7 = q at *
        go_enter Tryz.func102, Tryz.ntmps102
        go_wp2_with fail
        refine c1.mono ?_
        rintro e w1 ⟨rfl, rfl⟩
        go_wp2_with fail
        refine c2.mono ?_
        rintro e w1 ⟨rfl, rfl⟩
        go_wp2_with fail
        refine c3.mono ?_
        rintro e w1 ⟨rfl, rfl⟩
        go_wp2_with fail
        refine c4.mono ?_
        rintro e w1 ⟨rfl, rfl⟩
        go_wp2
        go_ret2
        exact ⟨rfl, Below.refl _ _⟩
      | false =>
        rw [show Pl.refL s.data.toList = Pl.nameL Pl.names s.data.toList from HR.out]
        clear HR H1 H2 H3
        go_enter Tryz.func102, Tryz.ntmps102
        go_wp2_with fail
        refine c1.mono ?_
        rintro e w1 ⟨rfl, rfl⟩
        go_wp2_with fail
        refine c2.mono ?_
        rintro e w1 ⟨rfl, rfl⟩
        go_wp2_with fail
        refine c3.mono ?_
        rintro e w1 ⟨rfl, rfl⟩
        go_wp2_with fail
        clear c1 c2 c3
        go_loopw [26] (fun i wr => ∃ j : Nat, j ≤ 7 ∧ i = .int .i64 j ∧ Hid (Pl.nameL (Pl.names.drop j) s.data.toList = Pl.nameL Pl.names s.data.toList) ∧ Below w1.heap.size w1 wr) (fun i _ => 7 - (intOf i).toNat)
        case atStart => exact ⟨0, Nat.zero_le _, rfl, rfl, Below.refl _ _⟩
        case round =>
          obtain ⟨j, hj, rfl, HN, hb⟩ := hrel
          by_cases hlt : j < 7
          · have ha : a < w1.heap.size := by obtain ⟨h, _⟩ := Array.getElem?_eq_some_iff.1 hn; exact h
            obtain ⟨t, g, hc0, hc1, hd, htl⟩ := Rr.cells wr a j hlt ((hb.block a ha).trans hn)
            have HD : Hid (Pl.names.drop j = (t, g) :: Pl.names.drop (j + 1)) := hd
            clear hd
            have hb' := hb.alloc hb.size (.cells #[.string ⟨t.toArray⟩, .string ⟨g.toArray⟩] 91)
            obtain ⟨b, hp⟩ : ∃ b, Pl.pre t s.data.toList = b := ⟨_, rfl⟩
            have c4 := Rr.hasPre s ⟨t.toArray⟩ t b rfl hp (wr.alloc (.cells #[.string ⟨t.toArray⟩, .string ⟨g.toArray⟩] 91))
            have HS : Hid (Pl.nameL Pl.names s.data.toList = if b then (g, t.length) else Pl.nameL (Pl.names.drop (j + 1)) s.data.toList) := by
              show _ = _
              rw [← HN.out, HD.out, Pl.nameL, hp]
            have htn : (⟨t.toArray⟩ : ByteArray).size = t.length := by rw [← Wk.len_data]
            clear hp HD
            cases b with
            | true =>
              clear HN
              go_wp2_with fail
              refine c4.mono ?_
              rintro e w2 ⟨rfl, hw2⟩
              subst hw2
              clear c4
              go_wp2_with fail
              go_quiet (fail)
              go_wp2
              go_ret2
              refine ⟨?_, Wk.below_drews hb' nq⟩
              rw [HS.out]
              rfl
            | false =>
              go_wp2_with fail
              refine c4.mono ?_
              rintro e w2 ⟨rfl, hw2⟩
              subst hw2
              clear c4
              go_wp2_with fail
              go_roundw
              case rel => exact ⟨j + 1, by omega, by go_num, HS.out.symm, hb'⟩
              case measure => simp [intOf]; omega
          · have hj7 : j = 7 := by omega
            have HS : Hid (Pl.nameL Pl.names s.data.toList = ([], 0)) := by
              show _ = _
              rw [← HN.out, hj7]; rfl
            clear HN hj7
            go_wp2_with fail
            go_ret2
            refine ⟨?_, hb⟩
            rw [HS.out]
            rfl
end Go.Proofs.YtjbkgokiikbaeaaGreatDoor

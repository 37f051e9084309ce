/-
  THE WALK of stoleref1.UrlStart.
-/
import Derived.Test.YtfjhbhddfpkebaaDoorQSch2
namespace Go.Proofs.YtfjhbhddfpkebaaDoor
open Go.RowKit
set_option maxRecDepth 100000 in
set_option maxHeartbeats 4000000 in
theorem Qs.start (s : ByteArray) (w : World) (hs : s.size ≤ 274877906944) :
    Calls Tryd.prog 12 #[.string s] w fun e w' => e = .returned (.string ⟨(Ug.start s.data.toList).toArray⟩) ∧ Below w.heap.size w w' := by
  have nm := fun u => Sz.norm s u (by omega)
  have HN : Hid ((Pl.normL s.data.toList).length ≤ 1099511627776) := by
    have := Pl.norm_short s.data.toList
    rw [Wk.len_data] at this
    unfold Hid
    omega
  have sc := fun u => Qs.scheme ⟨(Pl.normL s.data.toList).toArray⟩ u (by have := HN.out; simpa [ByteArray.size] using this)
  have sc : ∀ u, Calls Tryd.prog 10 #[.string ⟨(Pl.normL s.data.toList).toArray⟩] u fun e w' => e = .returned (.tuple #[.string ⟨((Ug.scheme (Pl.normL s.data.toList)).getD []).toArray⟩, .bool (Ug.scheme (Pl.normL s.data.toList)).isSome]) ∧ Below u.heap.size u w' := sc
  have pc : ∀ u, Calls Tryd.prog 31 #[.string s, .string ⟨#[45, 46, 95, 126, 58, 47, 63, 35, 91, 93, 64, 33, 36, 38, 42, 43, 44, 59, 61, 37]⟩] u fun e w' => e = .returned (.string ⟨(Ug.pct Ug.more (Pl.normL s.data.toList)).toArray⟩) ∧ Below u.heap.size u w' := fun u => Qr.percent s ⟨#[45, 46, 95, 126, 58, 47, 63, 35, 91, 93, 64, 33, 36, 38, 42, 43, 44, 59, 61, 37]⟩ u (by omega) (by decide)
  have kn := fun l u => Qr.known l u
  have HS : Hid (Ug.start s.data.toList = match Ug.scheme (Pl.normL s.data.toList) with | some t => if Ug.known t = true then Ug.pct Ug.more (Pl.normL s.data.toList) else Ug.no | none => Ug.pct Ug.more (Pl.normL s.data.toList)) := rfl
  clear HN hs
  generalize Ug.start s.data.toList = RR at *
  generalize Ug.scheme (Pl.normL s.data.toList) = so at *
  generalize Ug.pct Ug.more (Pl.normL s.data.toList) = PT at *
  generalize (⟨(Pl.normL s.data.toList).toArray⟩ : ByteArray) = NT at *
  rcases so with _ | t
  · have q : RR = PT := HS.out
    subst q
    clear HS kn
    have sc : ∀ u, Calls Tryd.prog 10 #[.string NT] u fun e w' => e = .returned (.tuple #[.string ⟨#[]⟩, .bool false]) ∧ Below u.heap.size u w' := sc
    go_enter Tryd.func12, Tryd.ntmps12
    go_wp2_with (first | (go_at_call 17; refine (nm _).mono ?_; rintro e w1 ⟨rfl, b1⟩; have B1 := Lib.hid b1; clear b1) | (go_at_call 10; refine (sc _).mono ?_; rintro e w2 ⟨rfl, b2⟩; have B2 := Lib.hid b2; clear b2) | (go_at_call 31; refine (pc _).mono ?_; rintro e w3 ⟨rfl, b3⟩; have B3 := Lib.hid b3; clear b3))
    go_ret
    exact ⟨rfl, (B1.out.trans (B2.out.mono B1.out.size)).trans (B3.out.mono (Nat.le_trans B1.out.size B2.out.size))⟩
  · have kn := kn t
    obtain ⟨bk, hbk⟩ : ∃ b, Ug.known t = b := ⟨_, rfl⟩
    have q := HS.out
    simp only [hbk] at q kn
    have sc : ∀ u, Calls Tryd.prog 10 #[.string NT] u fun e w' => e = .returned (.tuple #[.string ⟨t.toArray⟩, .bool true]) ∧ Below u.heap.size u w' := sc
    clear HS hbk
    cases bk
    · rw [if_neg Bool.false_ne_true] at q
      subst q
      go_enter Tryd.func12, Tryd.ntmps12
      go_wp2_with (first | (go_at_call 17; refine (nm _).mono ?_; rintro e w1 ⟨rfl, b1⟩; have B1 := Lib.hid b1; clear b1) | (go_at_call 10; refine (sc _).mono ?_; rintro e w2 ⟨rfl, b2⟩; have B2 := Lib.hid b2; clear b2) | (go_at_call 30; refine (kn _).mono ?_; rintro e w' ⟨rfl, hw⟩; have hw := hw.symm; subst hw))
      go_ret
      exact ⟨rfl, B1.out.trans (B2.out.mono B1.out.size)⟩
    · rw [if_pos rfl] at q
      subst q
      go_enter Tryd.func12, Tryd.ntmps12
      go_wp2_with (first | (go_at_call 17; refine (nm _).mono ?_; rintro e w1 ⟨rfl, b1⟩; have B1 := Lib.hid b1; clear b1) | (go_at_call 10; refine (sc _).mono ?_; rintro e w2 ⟨rfl, b2⟩; have B2 := Lib.hid b2; clear b2) | (go_at_call 30; refine (kn _).mono ?_; rintro e w' ⟨rfl, hw⟩; have hw := hw.symm; subst hw) | (go_at_call 31; refine (pc _).mono ?_; rintro e w3 ⟨rfl, b3⟩; have B3 := Lib.hid b3; clear b3))
      go_ret
      exact ⟨rfl, (B1.out.trans (B2.out.mono B1.out.size)).trans (B3.out.mono (Nat.le_trans B1.out.size B2.out.size))⟩
end Go.Proofs.YtfjhbhddfpkebaaDoor

/-
  THE WALKS of url.Start and url.Part.
-/
import Derived.Test.YtfjhbhddfpkebaaDoorQScheme
import Derived.Test.YtfjhbhddfpkebaaDoorQStart
import Derived.Test.YtfjhbhddfpkebaaDoorQLaws
namespace Go.Proofs.YtfjhbhddfpkebaaDoor
open Go.RowKit
def Up.AB : List UInt8 := [65, 66, 67, 68, 69, 70, 71, 72, 73, 74, 75, 76, 77, 78, 79, 80, 81, 82, 83, 84, 85, 86, 87, 88, 89, 90, 97, 98, 99, 100, 101, 102, 103, 104, 105, 106, 107, 108, 109, 110, 111].append [112, 113, 114, 115, 116, 117, 118, 119, 120, 121, 122, 48, 49, 50, 51, 52, 53, 54, 55, 56, 57, 45, 46, 95, 126, 58, 47, 63, 35, 91, 93, 64, 33, 36, 38, 42, 43, 44, 59, 61, 37]
theorem Up.AB_has (c : UInt8) : Bs.has Up.AB c = Ug.stays Ug.more c :=
  eq_of_beq (Ug.all (p := fun c => Bs.has Up.AB c == Ug.stays Ug.more c) (by decide +kernel) c)
def Up.PB : List UInt8 := [65, 66, 67, 68, 69, 70, 71, 72, 73, 74, 75, 76, 77, 78, 79, 80, 81, 82, 83, 84, 85, 86, 87, 88, 89, 90, 97, 98, 99, 100, 101, 102, 103].append [104, 105, 106, 107, 108, 109, 110, 111, 112, 113, 114, 115, 116, 117, 118, 119, 120, 121, 122, 48, 49, 50, 51, 52, 53, 54, 55, 56, 57, 45, 46, 95, 126]
theorem Up.PB_has (c : UInt8) : Bs.has Up.PB c = Ug.stays Ug.plain c :=
  eq_of_beq (Ug.all (p := fun c => Bs.has Up.PB c == Ug.stays Ug.plain c) (by decide +kernel) c)
theorem Up.norm_len (s : ByteArray) (hs : s.size ≤ 274877906944) : (Pl.normL s.data.toList).length ≤ 1099511627776 := by
  have := Pl.norm_short s.data.toList
  rw [Wk.len_data] at this
  omega
set_option maxRecDepth 100000 in
set_option maxHeartbeats 4000000 in
theorem Up.part (s : ByteArray) (w : World) (hT : Lib.Utf8Tabs 1 2 w) (hs : s.size ≤ 274877906944) :
    Calls Tryd.prog 13 #[.string s] w fun e w' => e = .returned (.string ⟨(Ug.part s.data.toList).toArray⟩) ∧ Below w.heap.size w w' := by
  have nm := Wk.norm s w hT (by omega)
  obtain ⟨a0, a1, a2, a3, of1, has1⟩ := Bs.set ⟨Up.PB.toArray⟩ (by decide) (Ug.stays Ug.plain) Up.PB_has
  have wr1 : ∀ u, Calls Tryd.prog 29 #[.string ⟨(Pl.normL s.data.toList).toArray⟩, .agg #[.int .u64 a0, .int .u64 a1, .int .u64 a2, .int .u64 a3]] u fun e w' => e = .returned (.string ⟨(Ug.part s.data.toList).toArray⟩) ∧ Below u.heap.size u w' := fun u =>
    Up.write Ug.plain a0 a1 a2 a3 ⟨(Pl.normL s.data.toList).toArray⟩ u (Up.norm_len s hs) has1
  unfold Up.PB at of1
  clear has1 hT hs
  generalize (⟨(Pl.normL s.data.toList).toArray⟩ : ByteArray) = NT at *
  generalize (⟨(Ug.part s.data.toList).toArray⟩ : ByteArray) = RT at *
  go_enter Tryd.func13, Tryd.ntmps13
  go_wp2_with (first | (go_at_call 27; refine nm.mono ?_; rintro e w1 ⟨rfl, b1⟩; have B1 := Lib.hid b1; clear b1 nm) | (go_at_call 21; refine (of1 _).mono ?_; rintro e w2 ⟨rfl, b2⟩; have B2 := Lib.hid b2; clear b2 of1) | (go_at_call 29; refine (wr1 _).mono ?_; rintro e w3 ⟨rfl, b3⟩; have B3 := Lib.hid b3; clear b3 wr1))
  go_ret
  exact ⟨rfl, Wk.below_step (Wk.below_step B1.out B2.out) B3.out⟩
set_option maxRecDepth 100000 in
set_option maxHeartbeats 4000000 in
theorem Up.start (s : ByteArray) (w : World) (hT : Lib.Utf8Tabs 1 2 w) (hs : s.size ≤ 274877906944) :
    Calls Tryd.prog 11 #[.string s] w fun e w' => e = .returned (.string ⟨(Ug.start s.data.toList).toArray⟩) ∧ Below w.heap.size w w' := by
  have nm := Wk.norm s w hT (by omega)
  obtain ⟨a0, a1, a2, a3, of1, has1⟩ := Bs.set ⟨Up.AB.toArray⟩ (by decide) (Ug.stays Ug.more) Up.AB_has
  have pc : ∀ u, Calls Tryd.prog 29 #[.string ⟨(Pl.normL s.data.toList).toArray⟩, .agg #[.int .u64 a0, .int .u64 a1, .int .u64 a2, .int .u64 a3]] u fun e w' => e = .returned (.string ⟨(Ug.pct Ug.more (Pl.normL s.data.toList)).toArray⟩) ∧ Below u.heap.size u w' := fun u =>
    Up.write Ug.more a0 a1 a2 a3 ⟨(Pl.normL s.data.toList).toArray⟩ u (Up.norm_len s hs) has1
  unfold Up.AB at of1
  have sc : ∀ u, Calls Tryd.prog 9 #[.string ⟨(Pl.normL s.data.toList).toArray⟩] u fun e w' => e = .returned (.tuple #[.string ⟨((Ug.scheme (Pl.normL s.data.toList)).getD []).toArray⟩, .bool (Ug.scheme (Pl.normL s.data.toList)).isSome]) ∧ Below u.heap.size u w' := fun u =>
    Up.scheme ⟨(Pl.normL s.data.toList).toArray⟩ u (Up.norm_len s hs)
  have kn := fun l u => Up.isSafe l u
  have HS : Hid (Ug.start s.data.toList = match Ug.scheme (Pl.normL s.data.toList) with | some t => if Ug.known t = true then Ug.pct Ug.more (Pl.normL s.data.toList) else Ug.no | none => Ug.pct Ug.more (Pl.normL s.data.toList)) := rfl
  clear has1 hT hs
  generalize Ug.start s.data.toList = RR at *
  generalize Ug.scheme (Pl.normL s.data.toList) = so at *
  generalize Ug.pct Ug.more (Pl.normL s.data.toList) = PT at *
  generalize (⟨(Pl.normL s.data.toList).toArray⟩ : ByteArray) = NT at *
  rcases so with _ | t
  · have q : RR = PT := HS.out
    subst q
    clear HS kn
    have sc : ∀ u, Calls Tryd.prog 9 #[.string NT] u fun e w' => e = .returned (.tuple #[.string ⟨#[]⟩, .bool false]) ∧ Below u.heap.size u w' := sc
    go_enter Tryd.func11, Tryd.ntmps11
    go_wp2_with (first | (go_at_call 27; refine nm.mono ?_; rintro e w1 ⟨rfl, b1⟩; have B1 := Lib.hid b1; clear b1 nm) | (go_at_call 9; refine (sc _).mono ?_; rintro e w2 ⟨rfl, b2⟩; have B2 := Lib.hid b2; clear b2 sc) | (go_at_call 21; refine (of1 _).mono ?_; rintro e w3 ⟨rfl, b3⟩; have B3 := Lib.hid b3; clear b3 of1) | (go_at_call 29; refine (pc _).mono ?_; rintro e w4 ⟨rfl, b4⟩; have B4 := Lib.hid b4; clear b4 pc))
    go_ret
    exact ⟨rfl, Wk.below_step (Wk.below_step (Wk.below_step B1.out B2.out) B3.out) B4.out⟩
  · have kn := kn t
    obtain ⟨bk, hbk⟩ : ∃ b, Ug.known t = b := ⟨_, rfl⟩
    have q := HS.out
    simp only [hbk] at q kn
    have sc : ∀ u, Calls Tryd.prog 9 #[.string NT] u fun e w' => e = .returned (.tuple #[.string ⟨t.toArray⟩, .bool true]) ∧ Below u.heap.size u w' := sc
    clear HS hbk
    cases bk
    · rw [if_neg Bool.false_ne_true] at q
      subst q
      clear of1 pc
      go_enter Tryd.func11, Tryd.ntmps11
      go_wp2_with (first | (go_at_call 27; refine nm.mono ?_; rintro e w1 ⟨rfl, b1⟩; have B1 := Lib.hid b1; clear b1 nm) | (go_at_call 9; refine (sc _).mono ?_; rintro e w2 ⟨rfl, b2⟩; have B2 := Lib.hid b2; clear b2 sc) | (go_at_call 28; refine (kn _).mono ?_; rintro e w' ⟨rfl, hw⟩; have hw := hw.symm; subst hw))
      go_ret
      exact ⟨rfl, Wk.below_step B1.out B2.out⟩
    · rw [if_pos rfl] at q
      subst q
      go_enter Tryd.func11, Tryd.ntmps11
      go_wp2_with (first | (go_at_call 27; refine nm.mono ?_; rintro e w1 ⟨rfl, b1⟩; have B1 := Lib.hid b1; clear b1 nm) | (go_at_call 9; refine (sc _).mono ?_; rintro e w2 ⟨rfl, b2⟩; have B2 := Lib.hid b2; clear b2 sc) | (go_at_call 28; refine (kn _).mono ?_; rintro e w' ⟨rfl, hw⟩; have hw := hw.symm; subst hw) | (go_at_call 21; refine (of1 _).mono ?_; rintro e w3 ⟨rfl, b3⟩; have B3 := Lib.hid b3; clear b3 of1) | (go_at_call 29; refine (pc _).mono ?_; rintro e w4 ⟨rfl, b4⟩; have B4 := Lib.hid b4; clear b4 pc))
      go_ret
      exact ⟨rfl, Wk.below_step (Wk.below_step (Wk.below_step B1.out B2.out) B3.out) B4.out⟩
end Go.Proofs.YtfjhbhddfpkebaaDoor

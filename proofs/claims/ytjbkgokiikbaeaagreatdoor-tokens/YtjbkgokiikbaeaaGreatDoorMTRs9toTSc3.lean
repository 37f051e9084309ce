/-
  THE WALK of the reference's Step, at every state that a page leads to.
-/
import Derived.Test.YtjbkgokiikbaeaaGreatDoorTRs8
import Derived.Test.YtjbkgokiikbaeaaGreatDoorMTSim3toRKit5
import Derived.Test.YtjbkgokiikbaeaaGreatDoorMTSteptoTMem
import Derived.Test.YtjbkgokiikbaeaaGreatDoorTTag
import Derived.Laws.AppendOwn
import Derived.OwnWalk
import Derived.Lib.Hide
import Derived.CellFam
import Derived.Test.YtjbkgokiikbaeaaGreatDoorTRs7
import Derived.Test.YtjbkgokiikbaeaaGreatDoorMTBoxtoShelf5
import Derived.Test.YtjbkgokiikbaeaaGreatDoorMTReftoTSim2
import Derived.Test.YtjbkgokiikbaeaaGreatDoorMRefDectoTRs1
import Derived.Lib.AppendStr
import Derived.Test.YtjbkgokiikbaeaaGreatDoorMRDigtoTText2
namespace Go.Proofs.YtjbkgokiikbaeaaGreatDoor
open Go.RowKit
theorem Rs.step (s : Ts) (h : Ts.Fit s) (c : UInt8) (w : World) : Calls Tryz.prog 9 #[.agg #[.int .i64 s.pl, .string s.name, .bool s.fin, .string s.attr, .string s.held, .int .i64 s.read], .int .u8 c.toNat] w fun e w' => e = .returned (.agg #[.int .i64 (s.step c).pl, .string (s.step c).name, .bool (s.step c).fin, .string (s.step c).attr, .string (s.step c).held, .int .i64 (s.step c).read]) ∧ Below w.heap.size w w' := by
  have hl := h.lo
  have hh := h.hi
  obtain ⟨k, hk⟩ : ∃ k : Nat, s.pl = (k : Int) := ⟨s.pl.toNat, by omega⟩
  have hk23 : k < 23 := by omega
  have hcl := h.clean
  have hsm := h.small
  have hfi := h.fine
  have hre := h.read
  clear h hl hh
  obtain ⟨pl, n, f, a, hd, rd⟩ := s
  have hk : pl = (k : Int) := hk
  subst hk
  have hcase : k = 0 ∨ k = 1 ∨ k = 2 ∨ k = 3 ∨ k = 4 ∨ k = 5 ∨ k = 6 ∨ k = 7 ∨ k = 8 ∨ k = 9 ∨ k = 10 ∨ k = 11 ∨ k = 12 ∨ k = 13 ∨ k = 14 ∨ k = 15 ∨ k = 16 ∨ k = 17 ∨ k = 18 ∨ k = 19 ∨ k = 20 ∨ k = 21 ∨ k = 22 := by omega
  rcases hcase with e | e | e | e | e | e | e | e | e | e | e | e | e | e | e | e | e | e | e | e | e | e | e
  all_goals subst e
  · obtain rfl : n = Ts.e := (congrArg Ts.name hcl).symm
    obtain rfl : f = false := (congrArg Ts.fin hcl).symm
    obtain rfl : a = Ts.e := (congrArg Ts.attr hcl).symm
    obtain rfl : hd = Ts.e := (congrArg Ts.held hcl).symm
    obtain rfl : rd = 0 := (congrArg Ts.read hcl).symm
    exact Rs.step_0 c w
  · obtain rfl : n = Ts.e := (congrArg Ts.name hcl).symm
    obtain rfl : f = false := (congrArg Ts.fin hcl).symm
    obtain rfl : a = Ts.e := (congrArg Ts.attr hcl).symm
    obtain rfl : hd = Ts.e := (congrArg Ts.held hcl).symm
    obtain rfl : rd = 0 := (congrArg Ts.read hcl).symm
    exact Rs.step_1 c w
  · obtain rfl : n = Ts.e := (congrArg Ts.name hcl).symm
    obtain rfl : f = false := (congrArg Ts.fin hcl).symm
    obtain rfl : a = Ts.e := (congrArg Ts.attr hcl).symm
    obtain rfl : hd = Ts.e := (congrArg Ts.held hcl).symm
    obtain rfl : rd = 0 := (congrArg Ts.read hcl).symm
    exact Rs.step_2 c w
  · obtain rfl : a = Ts.e := (congrArg Ts.attr hcl).symm
    obtain rfl : hd = Ts.e := (congrArg Ts.held hcl).symm
    obtain rfl : rd = 0 := (congrArg Ts.read hcl).symm
    exact Rs.step_3 n f c w hsm.1
  · obtain rfl : a = Ts.e := (congrArg Ts.attr hcl).symm
    obtain rfl : hd = Ts.e := (congrArg Ts.held hcl).symm
    obtain rfl : rd = 0 := (congrArg Ts.read hcl).symm
    exact Rs.step_4 n f c w
  · obtain rfl : hd = Ts.e := (congrArg Ts.held hcl).symm
    obtain rfl : rd = 0 := (congrArg Ts.read hcl).symm
    exact Rs.step_5 n f a c w hsm.2.1
  · obtain rfl : hd = Ts.e := (congrArg Ts.held hcl).symm
    obtain rfl : rd = 0 := (congrArg Ts.read hcl).symm
    exact Rs.step_6 n f a c w
  · obtain rfl : hd = Ts.e := (congrArg Ts.held hcl).symm
    obtain rfl : rd = 0 := (congrArg Ts.read hcl).symm
    exact Rs.step_7 n f a c w
  · obtain rfl : hd = Ts.e := (congrArg Ts.held hcl).symm
    obtain rfl : rd = 0 := (congrArg Ts.read hcl).symm
    exact Rs.step_8 n f a c w
  · obtain rfl : hd = Ts.e := (congrArg Ts.held hcl).symm
    obtain rfl : rd = 0 := (congrArg Ts.read hcl).symm
    exact Rs.step_9 n f a c w
  · obtain rfl : hd = Ts.e := (congrArg Ts.held hcl).symm
    obtain rfl : rd = 0 := (congrArg Ts.read hcl).symm
    exact Rs.step_10 n f a c w
  · obtain rfl : a = Ts.e := (congrArg Ts.attr hcl).symm
    obtain rfl : hd = Ts.e := (congrArg Ts.held hcl).symm
    obtain rfl : rd = 0 := (congrArg Ts.read hcl).symm
    exact Rs.step_11 n f c w
  · obtain rfl : a = Ts.e := (congrArg Ts.attr hcl).symm
    obtain rfl : hd = Ts.e := (congrArg Ts.held hcl).symm
    obtain rfl : rd = 0 := (congrArg Ts.read hcl).symm
    exact Rs.step_12 n f c w
  · obtain rfl : n = Ts.e := (congrArg Ts.name hcl).symm
    obtain rfl : f = false := (congrArg Ts.fin hcl).symm
    obtain rfl : a = Ts.e := (congrArg Ts.attr hcl).symm
    obtain rfl : hd = Ts.e := (congrArg Ts.held hcl).symm
    obtain rfl : rd = 0 := (congrArg Ts.read hcl).symm
    exact Rs.step_13 c w
  · obtain rfl : n = Ts.e := (congrArg Ts.name hcl).symm
    obtain rfl : f = false := (congrArg Ts.fin hcl).symm
    obtain rfl : a = Ts.e := (congrArg Ts.attr hcl).symm
    obtain rfl : hd = Ts.e := (congrArg Ts.held hcl).symm
    obtain rfl : rd = 0 := (congrArg Ts.read hcl).symm
    exact Rs.step_14 c w
  · obtain rfl : n = Ts.e := (congrArg Ts.name hcl).symm
    obtain rfl : f = false := (congrArg Ts.fin hcl).symm
    obtain rfl : a = Ts.e := (congrArg Ts.attr hcl).symm
    obtain rfl : hd = Ts.e := (congrArg Ts.held hcl).symm
    obtain rfl : rd = 0 := (congrArg Ts.read hcl).symm
    exact Rs.step_15 c w
  · obtain rfl : n = Ts.e := (congrArg Ts.name hcl).symm
    obtain rfl : f = false := (congrArg Ts.fin hcl).symm
    obtain rfl : a = Ts.e := (congrArg Ts.attr hcl).symm
    obtain rfl : hd = Ts.e := (congrArg Ts.held hcl).symm
    obtain rfl : rd = 0 := (congrArg Ts.read hcl).symm
    exact Rs.step_16 c w
  · obtain rfl : n = Ts.e := (congrArg Ts.name hcl).symm
    obtain rfl : f = false := (congrArg Ts.fin hcl).symm
    obtain rfl : a = Ts.e := (congrArg Ts.attr hcl).symm
    obtain rfl : hd = Ts.e := (congrArg Ts.held hcl).symm
    obtain rfl : rd = 0 := (congrArg Ts.read hcl).symm
    exact Rs.step_17 c w
  · obtain rfl : n = Ts.e := (congrArg Ts.name hcl).symm
    obtain rfl : f = false := (congrArg Ts.fin hcl).symm
    obtain rfl : a = Ts.e := (congrArg Ts.attr hcl).symm
    obtain rfl : hd = Ts.e := (congrArg Ts.held hcl).symm
    obtain rfl : rd = 0 := (congrArg Ts.read hcl).symm
    exact Rs.step_18 c w
  · obtain rfl : n = Ts.e := (congrArg Ts.name hcl).symm
    obtain rfl : f = false := (congrArg Ts.fin hcl).symm
    obtain rfl : a = Ts.e := (congrArg Ts.attr hcl).symm
    obtain rfl : rd = 0 := (congrArg Ts.read hcl).symm
    exact Rs.step_19 hd c w
  · obtain rfl : n = Ts.e := (congrArg Ts.name hcl).symm
    obtain rfl : f = false := (congrArg Ts.fin hcl).symm
    obtain rfl : a = Ts.e := (congrArg Ts.attr hcl).symm
    obtain rfl : rd = 0 := (congrArg Ts.read hcl).symm
    exact Rs.step_20 hd c w
  · obtain rfl : n = Ts.e := (congrArg Ts.name hcl).symm
    obtain rfl : f = false := (congrArg Ts.fin hcl).symm
    obtain rfl : a = Ts.e := (congrArg Ts.attr hcl).symm
    obtain rfl : rd = 0 := (congrArg Ts.read hcl).symm
    have h4 := Ts.four_names hd (hfi.high (by show (19 : Int) ≤ ((21 : Nat) : Int); decide))
    exact Rs.step_21 hd c w h4.1 h4.2
  · obtain rfl : n = Ts.e := (congrArg Ts.name hcl).symm
    obtain rfl : f = false := (congrArg Ts.fin hcl).symm
    obtain rfl : a = Ts.e := (congrArg Ts.attr hcl).symm
    have h4 := Ts.four_names hd (hfi.high (by show (19 : Int) ≤ ((22 : Nat) : Int); decide))
    have hr := hre rfl
    obtain ⟨j, hj⟩ : ∃ j : Nat, rd = (j : Int) := ⟨rd.toNat, by have : 0 ≤ rd := hr.1; omega⟩
    subst hj
    have hj2 : (j : Int) ≤ (hd.size : Int) := hr.2
    exact Rs.step_22 hd j c w (by omega) (by have : hd.size ≤ _ := hsm.2.2; omega) h4.2
end Go.Proofs.YtjbkgokiikbaeaaGreatDoor
/-
  THE WALK of stoleref0.Decimal at a number that is not negative: it returns its digits, and turns nothing that was there.
-/
namespace Go.Proofs.YtjbkgokiikbaeaaGreatDoor
open Go.RowKit

theorem Dm.info5 : (Tryz.prog.info? 5).map (fun i => (i.zero, i.size, i.bytes)) = some (some (.int .u8 0), 1, 1) := by kernel_rfl
/-- 'string(out)' of bytes that the call owns -/
theorem Dm.conv {wr : World} {B : Nat} {v : Value} {acc : List UInt8} (h : wr.ownsRow B 5 1 v acc.length (Lib.byteCells acc)) :
    (convert 43 9 v).run Tryz.prog wr = .ok (.string ⟨acc.toArray⟩) wr := by
  rcases h.2 with ⟨rfl, h0⟩ | ⟨g, cap, cur, rfl, _⟩
  · have e : acc = [] := List.eq_nil_of_length_eq_zero h0
    subst e
    rw [run_convert_bytes_string wr 43 9 5 none 0 0 Tryz.underlying43 Tryz.underlying5 Tryz.underlying9]
    simp [Conv.bytesToString]
    rfl
  · refine run_convert_bytes_back (P := Tryz.prog) wr 43 9 5 ⟨g, 0, none⟩ cap acc Tryz.underlying43 Tryz.underlying5 Tryz.underlying9 (fun j hj => ?_)
    have e : (⟨g, 0, none⟩ : Addr).add j = ⟨g, j, none⟩ := by rw [Addr.add_lit, Nat.zero_add]
    rw [e, h.cellAt j (by omega)]
    simp [Lib.byteCells, hj]

/-- a number that is written so far: z stands ahead of the digits -/
structure Dm.Half (k z : Nat) (l : List UInt8) : Prop where
  first : l = [] → z = k
  later : l ≠ [] → Lib.decDigits k = (if z = 0 then [] else Lib.decDigits z) ++ l
theorem Dm.Half.step {k z : Nat} {l : List UInt8} (h : Dm.Half k z l) (hz : 0 < z ∨ l = []) (c : UInt8) (hc : c.toNat = 48 + z % 10) : Dm.Half k (z / 10) (c :: l) := by
  have e : (if z / 10 = 0 then [] else Lib.decDigits (z / 10)) ++ [c] = Lib.decDigits z := by
    have hc' : c = UInt8.ofNat (48 + z % 10) := by
      apply UInt8.toNat_inj.1
      rw [hc, UInt8.toNat_ofNat']
      omega
    by_cases h1 : z < 10
    · rw [if_pos (by omega), Lib.decDigits_one h1, hc', Nat.mod_eq_of_lt h1]; rfl
    · conv => rhs; rw [Lib.decDigits, dif_neg h1]
      rw [if_neg (by omega), hc']
  refine ⟨(fun h => by cases h), fun _ => ?_⟩
  rw [show c :: l = [c] ++ l by rfl, ← List.append_assoc, e]
  by_cases hl : l = []
  · rw [h.first hl, hl, List.append_nil]
  · rw [h.later hl, if_neg]
    rcases hz with hz | hz
    · omega
    · exact absurd hz hl
theorem Dm.Half.len {k z : Nat} {l : List UInt8} (h : Dm.Half k z l) (hk : k < 18446744073709551616) : l.length ≤ 20 := by
  by_cases hl : l = []
  · rw [hl]; simp
  · have h1 := Tg.len 19 k (by omega)
    rw [h.later hl, List.length_append] at h1
    omega
theorem Dm.Half.fin {k : Nat} {l : List UInt8} (h : Dm.Half k 0 l) (hl : l ≠ []) : Lib.decDigits k = l := by
  rw [h.later hl, if_pos rfl, List.nil_append]

def Dm.len : Value → Nat
  | .slice _ n _ => n
  | _ => 0
theorem Dm.len_own {w : World} {B : Nat} {v : Value} {n : Nat} {xs : List Value} (h : w.ownsRow B 5 1 v n xs) : Dm.len v = n := by
  rcases h.2 with ⟨rfl, h0⟩ | ⟨g, cap, cur, rfl, _⟩
  · exact h0.symm
  · rfl
theorem Dm.one (W : World) (B : Nat) (x : Int) (hB : B ≤ W.heap.size) : (W.alloc (.cells #[.int .u8 x] 5)).ownsRow B 5 1 (.slice (some ⟨W.heap.size, 0, none⟩) 1 1) 1 [.int .u8 x] :=
  World.ownsRow_lit (e := 5) (size := 1) W #[.int .u8 x] 1 hB (by unfold maxLen; omega) rfl
theorem Dm.ones (l : List UInt8) : ∀ u ∈ Lib.byteCells l, u.oneCell' = true := by
  intro u hu
  simp only [Lib.byteCells, List.mem_map] at hu
  obtain ⟨c, _, rfl⟩ := hu
  rfl
theorem Dm.rel {w wr w1 : World} {v' : Value} {acc : List UInt8} {X : Obj} {c : UInt8} (hb : Below w.heap.size w wr)
    (hown' : w1.ownsRow w.heap.size 5 1 v' (1 + acc.length) ([.int .u8 c.toNat] ++ Lib.byteCells acc)) (hg : (wr.alloc X).grownBy w1 (some wr.heap.size)) :
    w1.ownsRow w.heap.size 5 1 v' (c :: acc).length (Lib.byteCells (c :: acc)) ∧ Below w.heap.size w w1 := by
  refine ⟨?_, (hb.alloc hb.size X).grown hg (by have := hb.size; simp; omega) (fun k hk => by cases hk; exact hb.size)⟩
  rw [List.length_cons, Nat.add_comm]
  exact hown'

set_option maxRecDepth 100000 in
set_option maxHeartbeats 2000000 in
theorem Dm.decimal (k : Nat) (hk : k < 9223372036854775808) (w : World) :
    Calls Tryz.prog 16 #[.int .i64 (k : Int)] w fun e w' => e = .returned (.string ⟨(Lib.decDigits k).toArray⟩) ∧ Below w.heap.size w w' := by
  obtain ⟨i0, hi, hz0, hz1, hz2⟩ := info_parts Dm.info5
  have k0 : decide ((k : Int) < 0) = false := decide_eq_false (by omega)
  go_enter Tryz.func16, Tryz.ntmps16
  go_wp2
  go_loopw [3, 4] (fun y o wr => ∃ (z : Nat) (acc : List UInt8), y = .int .u64 z ∧ z ≤ k ∧ wr.ownsRow w.heap.size 5 1 o acc.length (Lib.byteCells acc) ∧ Below w.heap.size w wr ∧ Hid (Dm.Half k z acc) ∧ (acc = [] → o = .slice none 0 0)) (fun y o _ => 2 * (intOf y).toNat + (if Dm.len o = 0 then 1 else 0))
  case atStart => exact ⟨k, [], by go_num, Nat.le_refl _, World.ownsRow_nil _ _ _ _, Below.refl _ _, ⟨fun _ => rfl, fun h => absurd rfl h⟩, fun _ => rfl⟩
  case round =>
    obtain ⟨z, acc, rfl, hzk, hown, hb, HH, hnil⟩ := hrel
    have hsr := hb.size
    obtain ⟨c, hc⟩ : ∃ c : UInt8, c.toNat = 48 + z % 10 := ⟨UInt8.ofNat (48 + z % 10), by rw [UInt8.toNat_ofNat']; omega⟩
    have HC := Lib.hid hc
    have hcI : 48 + (z : Int) % 10 = (c.toNat : Int) := by omega
    clear hc
    rcases hown.2 with ⟨rfl, h0⟩ | ⟨g, cap, cur, rfl, _⟩
    · have hacc : acc = [] := List.eq_nil_of_length_eq_zero h0
      subst hacc
      have HS : Hid (Dm.Half k (z / 10) [c]) := HH.out.step (.inr rfl) c HC.out
      have R := Dm.one wr w.heap.size c.toNat hsr
      have hb' := hb.alloc hb.size (.cells #[.int .u8 c.toNat] 5)
      clear h0 hnil HC HH hown hb
      by_cases hz : 0 < z
      · go_wp2_with fail
        refine ⟨⟨z / 10, [c], by go_num, by omega, R, hb', HS, fun h => by cases h⟩, ?_⟩
        simp [intOf, Dm.len]
        omega
      · go_wp2_with fail
        refine ⟨⟨z / 10, [c], by go_num, by omega, R, hb', HS, fun h => by cases h⟩, ?_⟩
        simp [intOf, Dm.len]
        omega
    · have hne : acc ≠ [] := fun h => by have := hnil h; cases this
      have hpos : 0 < acc.length := List.length_pos_iff.2 hne
      have hlen := HH.out.len (by omega)
      clear hnil
      by_cases hz : 0 < z
      · have HS : Hid (Dm.Half k (z / 10) (c :: acc)) := HH.out.step (.inl hz) c HC.out
        have hl := Dm.len_own hown
        clear HC HH
        go_wp2_with (at_builtin; refine wpList_append_own _ rfl _ _ 43 rfl w.heap.size 5 i0 (.int .u8 0) 1 1 Tryz.underlying43 hi hz0 hz1 hz2 rfl (by decide) _ _ _ rfl (Dm.one wr w.heap.size c.toNat hsr) ⟨g, 0, none⟩ acc.length cap (Lib.byteCells acc) rfl (by rw [Lib.byteCells_length]; omega) ((hown.alloc _).cells rfl) (Dm.ones acc) (by unfold maxLen; omega) (by omega) (by simp; omega) ?_)
        intro v' w1 hown' hgrow _
        have R := Dm.rel (c := c) hb hown' hgrow
        have hl' := Dm.len_own R.1
        clear hown' hgrow hown hb
        go_wp2_with fail
        refine ⟨⟨z / 10, c :: acc, by go_num, by omega, R.1, R.2, HS, fun h => by cases h⟩, ?_⟩
        rw [hl', hl]
        simp [intOf]
        omega
      · have hz0' : z = 0 := by omega
        subst hz0'
        have HF : Hid (Lib.decDigits k = acc) := HH.out.fin hne
        have hl0 : ((acc.length : Int) == 0) = false := beq_eq_false_iff_ne.2 (by omega)
        have hconv := Dm.conv hown
        clear HH HC hown hcI
        go_wp2
        go_ret
        refine ⟨?_, hb⟩
        rw [HF.out]
        rfl
end Go.Proofs.YtjbkgokiikbaeaaGreatDoor
/-
  THE WALKS of the reference's inText and Lines.
-/
namespace Go.Proofs.YtjbkgokiikbaeaaGreatDoor
open Go.RowKit
theorem Rl.inText (a : Int) (b : Bool) (hb : (decide (a = 0) || decide (a = 1) || decide (a = 2) || decide (19 ≤ a)) = b) (w : World) : Calls Tryz.prog 35 #[.int .i64 a] w fun e w' => e = .returned (.bool b) ∧ w' = w := by
  subst hb
  by_cases h0 : a = 0
  · subst h0
    go_enter Tryz.func35, Tryz.ntmps35
    go_wp2
    go_ret
    exact ⟨rfl, rfl⟩
  have t0 : (a == 0) = false := beq_eq_false_iff_ne.2 h0
  by_cases h1 : a = 1
  · subst h1
    go_enter Tryz.func35, Tryz.ntmps35
    go_wp2
    go_ret
    exact ⟨rfl, rfl⟩
  have t1 : (a == 1) = false := beq_eq_false_iff_ne.2 h1
  by_cases h2 : a = 2
  · subst h2
    go_enter Tryz.func35, Tryz.ntmps35
    go_wp2
    go_ret
    exact ⟨rfl, rfl⟩
  have t2 : (a == 2) = false := beq_eq_false_iff_ne.2 h2
  rw [decide_eq_false h0, decide_eq_false h1, decide_eq_false h2]
  by_cases h19 : 19 ≤ a
  · have t3 : decide (19 ≤ a) = true := decide_eq_true h19
    rw [t3]
    clear h0 h1 h2
    go_enter Tryz.func35, Tryz.ntmps35
    go_wp2
    go_ret
    exact ⟨rfl, rfl⟩
  · have t3 : decide (19 ≤ a) = false := decide_eq_false h19
    rw [t3]
    clear h0 h1 h2
    go_enter Tryz.func35, Tryz.ntmps35
    go_wp2
    go_ret
    exact ⟨rfl, rfl⟩
theorem Rl.drop (s : ByteArray) (k : Nat) (h : k < s.size) : s.data.toList.drop k = s[k] :: s.data.toList.drop (k + 1) := by
  rw [List.drop_eq_getElem_cons (by rw [Wk.len_data]; exact h)]
  rfl
theorem Rl.one (c : UInt8) : Lib.byteCells [c] = [.int .u8 c.toNat] := rfl
theorem Rl.ones (x : Int) : ∀ u ∈ [Value.int .u8 x], u.oneCell' = true := by
  intro u hu
  rw [List.mem_singleton.1 hu]
  rfl
theorem Rl.cell1 (W : World) (x : Int) : ∀ (j : Nat) (u : Value), [Value.int .u8 x][j]? = some u → (W.alloc (.cells #[.int .u8 x] 5)).cell? ⟨W.heap.size, j, none⟩ = some u := by
  intro j u hj
  unfold World.cell?
  rw [show (W.alloc (.cells #[.int .u8 x] 5)).heap[W.heap.size]? = some _ from heap_alloc_new W _]
  simpa using hj
theorem Rl.info : (Tryz.prog.info? 5).map (fun i => (i.zero, i.size, i.bytes)) = some (some (.int .u8 0), 1, 1) := by kernel_rfl
/-- lines, from a place on -/
theorem Rl.l13a (l : List UInt8) : Rd.lines (13 :: 10 :: l) = 10 :: Rd.lines l := by rw [Rd.lines]
theorem Rl.l13b (l : List UInt8) (h : l.head? ≠ some 10) : Rd.lines (13 :: l) = 10 :: Rd.lines l := by
  cases l with
  | nil => rfl
  | cons c l =>
    have hc : c ≠ 10 := fun e => h (by rw [e]; rfl)
    rw [Rd.lines, if_pos rfl]
    intro l' h1 h2
    exact hc (List.cons.inj h2).1
theorem Rl.lother (c : UInt8) (l : List UInt8) (h : c ≠ 13) : Rd.lines (c :: l) = c :: Rd.lines l := by
  rw [Rd.lines, if_neg h]
  intro l' h1 _
  exact h h1
set_option maxRecDepth 100000 in
set_option maxHeartbeats 4000000 in
theorem Rl.lines (s : ByteArray) (w : World) (hs : s.size ≤ 65536) : Calls Tryz.prog 33 #[.string s] w fun e w' => e = .returned (.string (Rd.page s)) ∧ Below w.heap.size w w' := by
  go_enter Tryz.func33, Tryz.ntmps33
  go_wp2
  go_loopw [3, 4] (fun v i wr => ∃ (k : Nat) (acc : List UInt8), k ≤ s.size ∧ i = .int .i64 (k : Int) ∧ acc.length ≤ k ∧ Hid (acc ++ Rd.lines (s.data.toList.drop k) = Rd.lines s.data.toList) ∧ Hid (wr.ownsRow w.heap.size 5 1 v acc.length (Lib.byteCells acc)) ∧ Hid (Below w.heap.size w wr)) (fun _ i _ => s.size - (intOf i).toNat)
  case atStart => exact ⟨0, [], Nat.zero_le _, rfl, Nat.le_refl _, rfl, World.ownsRow_nil _ _ _ _, Below.refl _ _⟩
  case round =>
    obtain ⟨k, acc, hk, rfl, hl, HL, HO, HB⟩ := hrel
    have HN : Hid (acc.length + 1 ≤ maxLen ∧ (acc.length + 1) * 1 ≤ 140737488355328) := ⟨by unfold maxLen; omega, by omega⟩
    by_cases hlt : k < s.size
    · have d1 : decide ((k : Int) < (s.size : Int)) = true := decide_eq_true (by omega)
      have hd := Rl.drop s k hlt
      by_cases h13 : s[k] = 13
      · have t13 : ((s[k].toNat : Int) == 13) = true := Tp.eq_true h13
        by_cases h2 : k + 1 < s.size
        · have d2 : decide ((k : Int) + 1 < (s.size : Int)) = true := decide_eq_true (by omega)
          have hd2 := Rl.drop s (k + 1) h2
          by_cases h10 : s[k + 1] = 10
          · have t10 : ((s[k + 1].toNat : Int) == 10) = true := Tp.eq_true h10
            have HL2 : Hid ((acc ++ [10]) ++ Rd.lines (s.data.toList.drop (k + 1 + 1)) = Rd.lines s.data.toList) := by
              unfold Hid
              rw [← HL.out, hd, hd2, h13, h10, Rl.l13a]
              simp
            clear HL hd hd2 h13 h10
            go_wp2_with (at_builtin; refine Ro.push rfl _ _ 43 5 1 1 _ rfl Tryz.underlying43 Rl.info rfl (by decide) _ rfl (HO.out.alloc _) wr.heap.size [.int .u8 10] rfl (Rl.cell1 wr 10) rfl (Rl.ones _) HN.out.1 HN.out.2 (by have := HB.out.size; simp; omega) ?_)
            intro v4 w4 R4 hg4 _
            have HO4 : Hid (w4.ownsRow w.heap.size 5 1 v4 (acc ++ [10]).length (Lib.byteCells (acc ++ [10]))) := by
              unfold Hid
              rw [List.length_append, show Lib.byteCells (acc ++ [10]) = Lib.byteCells acc ++ [.int .u8 10] by simp [Lib.byteCells]]
              exact R4
            have HB4 : Hid (Below w.heap.size w w4) := Lib.hid ((HB.out.alloc HB.out.size _).grown hg4 (by have := HB.out.size; simp; omega) (fun k hk => (HO.out.lt k hk).1))
            clear R4 hg4 HO HB
            go_wp2
            go_roundw
            case rel => exact ⟨k + 1 + 1, acc ++ [10], by omega, by go_num, by simp; omega, HL2, HO4, HB4⟩
            case measure => simp [intOf]; omega
          · have t10 : ((s[k + 1].toNat : Int) == 10) = false := Tp.eq_false h10
            have HL2 : Hid ((acc ++ [10]) ++ Rd.lines (s.data.toList.drop (k + 1)) = Rd.lines s.data.toList) := by
              unfold Hid
              rw [← HL.out, hd, h13, Rl.l13b _ (by rw [hd2]; simp; exact h10)]
              simp
            clear HL hd hd2 h13 h10
            go_wp2_with (at_builtin; refine Ro.push rfl _ _ 43 5 1 1 _ rfl Tryz.underlying43 Rl.info rfl (by decide) _ rfl (HO.out.alloc _) wr.heap.size [.int .u8 10] rfl (Rl.cell1 wr 10) rfl (Rl.ones _) HN.out.1 HN.out.2 (by have := HB.out.size; simp; omega) ?_)
            intro v4 w4 R4 hg4 _
            have HO4 : Hid (w4.ownsRow w.heap.size 5 1 v4 (acc ++ [10]).length (Lib.byteCells (acc ++ [10]))) := by
              unfold Hid
              rw [List.length_append, show Lib.byteCells (acc ++ [10]) = Lib.byteCells acc ++ [.int .u8 10] by simp [Lib.byteCells]]
              exact R4
            have HB4 : Hid (Below w.heap.size w w4) := Lib.hid ((HB.out.alloc HB.out.size _).grown hg4 (by have := HB.out.size; simp; omega) (fun k hk => (HO.out.lt k hk).1))
            clear R4 hg4 HO HB
            go_wp2
            go_roundw
            case rel => exact ⟨k + 1, acc ++ [10], by omega, by go_num, by simp; omega, HL2, HO4, HB4⟩
            case measure => simp [intOf]; omega
        · have d2 : decide ((k : Int) + 1 < (s.size : Int)) = false := decide_eq_false (by omega)
          have HL2 : Hid ((acc ++ [10]) ++ Rd.lines (s.data.toList.drop (k + 1)) = Rd.lines s.data.toList) := by
            unfold Hid
            rw [← HL.out, hd, h13, Rl.l13b _ (by rw [List.drop_of_length_le (by rw [Wk.len_data]; omega)]; simp)]
            simp
          clear HL hd h13
          go_wp2_with (at_builtin; refine Ro.push rfl _ _ 43 5 1 1 _ rfl Tryz.underlying43 Rl.info rfl (by decide) _ rfl (HO.out.alloc _) wr.heap.size [.int .u8 10] rfl (Rl.cell1 wr 10) rfl (Rl.ones _) HN.out.1 HN.out.2 (by have := HB.out.size; simp; omega) ?_)
          intro v4 w4 R4 hg4 _
          have HO4 : Hid (w4.ownsRow w.heap.size 5 1 v4 (acc ++ [10]).length (Lib.byteCells (acc ++ [10]))) := by
            unfold Hid
            rw [List.length_append, show Lib.byteCells (acc ++ [10]) = Lib.byteCells acc ++ [.int .u8 10] by simp [Lib.byteCells]]
            exact R4
          have HB4 : Hid (Below w.heap.size w w4) := Lib.hid ((HB.out.alloc HB.out.size _).grown hg4 (by have := HB.out.size; simp; omega) (fun k hk => (HO.out.lt k hk).1))
          clear R4 hg4 HO HB
          go_wp2
          go_roundw
          case rel => exact ⟨k + 1, acc ++ [10], by omega, by go_num, by simp; omega, HL2, HO4, HB4⟩
          case measure => simp [intOf]; omega
      · have t13 : ((s[k].toNat : Int) == 13) = false := Tp.eq_false h13
        have HL2 : Hid ((acc ++ [s[k]]) ++ Rd.lines (s.data.toList.drop (k + 1)) = Rd.lines s.data.toList) := by
          unfold Hid
          rw [← HL.out, hd, Rl.lother _ _ h13]
          simp
        clear HL hd h13
        go_wp2_with (at_builtin; refine Ro.push rfl _ _ 43 5 1 1 _ rfl Tryz.underlying43 Rl.info rfl (by decide) _ rfl (HO.out.alloc _) wr.heap.size [.int .u8 (s[k].toNat : Int)] rfl (Rl.cell1 wr (s[k].toNat : Int)) rfl (Rl.ones _) HN.out.1 HN.out.2 (by have := HB.out.size; simp; omega) ?_)
        intro v4 w4 R4 hg4 _
        have HO4 : Hid (w4.ownsRow w.heap.size 5 1 v4 (acc ++ [s[k]]).length (Lib.byteCells (acc ++ [s[k]]))) := by
          unfold Hid
          rw [List.length_append, show Lib.byteCells (acc ++ [s[k]]) = Lib.byteCells acc ++ [.int .u8 (s[k].toNat : Int)] by simp [Lib.byteCells]]
          exact R4
        have HB4 : Hid (Below w.heap.size w w4) := Lib.hid ((HB.out.alloc HB.out.size _).grown hg4 (by have := HB.out.size; simp; omega) (fun k hk => (HO.out.lt k hk).1))
        clear R4 hg4 HO HB
        go_wp2
        go_roundw
        case rel => exact ⟨k + 1, acc ++ [s[k]], by omega, by go_num, by simp; omega, HL2, HO4, HB4⟩
        case measure => simp [intOf]; omega
    · have d1 : decide ((k : Int) < (s.size : Int)) = false := decide_eq_false (by omega)
      have HA : Hid (acc = Rd.lines s.data.toList) := by
        unfold Hid
        rw [← HL.out, List.drop_of_length_le (by rw [Wk.len_data]; omega)]
        simp [Rd.lines]
      have hconv := Dm.conv HO.out
      clear HL
      go_wp2
      go_ret
      refine ⟨?_, HB.out⟩
      rw [HA.out]
      rfl
end Go.Proofs.YtjbkgokiikbaeaaGreatDoor
/-
  THE REFERENCE's SCAN IN MEMORY: its block g of fifteen cells, three rows of its own: the bytes that came, the tokens, the attributes.
-/
namespace Go.Proofs.YtjbkgokiikbaeaaGreatDoor
open Go.RowKit
/-- a block's cells, as a list -/
structure Sc.Box (w : World) (g : Nat) (l : List Value) : Prop where
  cell : ∀ i v, l[i]? = some v → w.cell? ⟨g, i, none⟩ = some v
  fz : ∀ i, w.frozen? ⟨g, i, none⟩ = false
theorem Sc.Box.on {w w' : World} {g : Nat} {l : List Value} (h : Sc.Box w g l) (hw : w'.heap[g]? = w.heap[g]?) : Sc.Box w' g l :=
  ⟨fun i v hv => (World.cell?_of_block (a := ⟨g, i, none⟩) hw).trans (h.cell i v hv), fun i => by
    have := h.fz i
    unfold World.frozen? at this ⊢
    rw [hw]
    exact this⟩
theorem Sc.Box.set {w : World} {g : Nat} {l : List Value} (h : Sc.Box w g l) (j : Nat) (u : Value) (hj : j < l.length) : Sc.Box (w.setCell ⟨g, j, none⟩ u) g (l.set j u) := by
  refine ⟨fun i v hv => ?_, fun i => by rw [World.frozen?_setCell]; exact h.fz i⟩
  by_cases e : j = i
  · subst e
    rw [List.getElem?_set_self hj] at hv
    injection hv with hv
    subst hv
    obtain ⟨y, hy⟩ : ∃ y, l[j]? = some y := ⟨l[j], List.getElem?_eq_getElem hj⟩
    have := h.cell j y hy
    simp [go_sem, this]
  · rw [List.getElem?_set_ne e] at hv
    rw [Rm.other w g j u (fun q => e q.symm)]
    exact h.cell i v hv
/-- the scan's cells -/
def Sc.cells (P : ByteArray) (x : Rf) (bv ov av : Value) : List Value :=
  [.string P, .int .i64 x.st.pl, .string x.st.name, .bool x.st.fin, .string x.st.attr, .string x.st.held, .int .i64 x.st.read, .int .i64 x.hold, bv, .bool x.raw, ov, av, .bool x.has, .string x.pn, .string x.pv]
/-- tokens in a row that grows; what their attributes lie in is none of the row's block nor of a block of 'no' -/
def Sc.Toks (base : Nat) (ts : List Tk) (w : World) (v : Value) (no : Nat → Prop) : Prop :=
  ∃ xs, w.ownsRow base 47 5 v ts.length xs ∧ ∀ i t, ts[i]? = some t → ∃ av, xs[i * 5]? = some (.int .i64 t.kind) ∧ xs[i * 5 + 1]? = some (.string t.name) ∧ xs[i * 5 + 2]? = some (.string t.text) ∧ xs[i * 5 + 3]? = some av ∧ xs[i * 5 + 4]? = some (.bool t.self) ∧ Ak.Lies w (fun k => base ≤ k ∧ k < w.heap.size ∧ v.ownBlock ≠ some k ∧ ¬ no k) t.attrs av
theorem Sc.Toks.nil (base : Nat) (w : World) (no : Nat → Prop) : Sc.Toks base [] w (.slice none 0 0) no := ⟨[], World.ownsRow_nil _ _ _ _, fun i t h => by simp at h⟩
theorem Sc.Toks.lies {base : Nat} {ts : List Tk} {w : World} {v : Value} {no : Nat → Prop} (h : Sc.Toks base ts w v no) : Tk.Lies w (fun k => base ≤ k ∧ k < w.heap.size) ts v := by
  obtain ⟨xs, ho, hx⟩ := h
  refine (Rm.lies0 (X := fun _ => True) ⟨xs, ho, fun i t hi => ?_⟩ (fun _ _ => trivial)).on (fun _ hk => ⟨⟨hk.1, hk.2.1⟩, rfl⟩)
  obtain ⟨av, x0, x1, x2, x3, x4, hl⟩ := hx i t hi
  exact ⟨av, x0, x1, x2, x3, x4, hl.on fun _ hk => ⟨⟨hk.1, hk.2.1, trivial⟩, rfl⟩⟩
theorem Sc.Toks.on {base : Nat} {ts : List Tk} {w w' : World} {v : Value} {no no' : Nat → Prop} (h : Sc.Toks base ts w v no) (hs : w.heap.size ≤ w'.heap.size) (hb : ∀ k, v.ownBlock = some k → w'.heap[k]? = w.heap[k]?) (hw : ∀ k, base ≤ k → k < w.heap.size → v.ownBlock ≠ some k → ¬ no k → ¬ no' k ∧ w'.heap[k]? = w.heap[k]?) : Sc.Toks base ts w' v no' := by
  obtain ⟨xs, ho, hx⟩ := h
  refine ⟨xs, Rm.own_on ho hb, fun i t hi => ?_⟩
  obtain ⟨av, x0, x1, x2, x3, x4, hl⟩ := hx i t hi
  refine ⟨av, x0, x1, x2, x3, x4, hl.on fun k hk => ?_⟩
  obtain ⟨h1, h2⟩ := hw k hk.1 hk.2.1 hk.2.2.1 hk.2.2.2
  exact ⟨⟨hk.1, Nat.lt_of_lt_of_le hk.2.1 hs, hk.2.2.1, h1⟩, h2⟩
/-- a block that is none of the scan's -/
def Sc.Free (bv ov av : Value) (g k : Nat) : Prop := k ≠ g ∧ bv.ownBlock ≠ some k ∧ ov.ownBlock ≠ some k ∧ av.ownBlock ≠ some k
/-- the scan's whole state lies in memory -/
structure Sc.At (w : World) (g : Nat) (P : ByteArray) (x : Rf) (bv ov av : Value) : Prop where
  box : Sc.Box w g (Sc.cells P x bv ov av)
  buf : w.ownsRow (g + 1) 5 1 bv x.buf.length (Lib.byteCells x.buf)
  out : Sc.Toks (g + 1) x.out w ov (fun k => bv.ownBlock = some k ∨ av.ownBlock = some k)
  attrs : w.ownsRow (g + 1) 45 2 av x.attrs.length (Ak.cells x.attrs)
  ob : ∀ k, ov.ownBlock = some k → bv.ownBlock ≠ some k
  oa : ∀ k, ov.ownBlock = some k → av.ownBlock ≠ some k
  ba : ∀ k, bv.ownBlock = some k → av.ownBlock ≠ some k
theorem Sc.At.lt {w : World} {g : Nat} {P : ByteArray} {x : Rf} {bv ov av : Value} (h : Sc.At w g P x bv ov av) : g < w.heap.size := World.block_lt_of_cell? _ _ (h.box.cell 0 (.string P) rfl)
theorem Sc.At.ovLt {w : World} {g : Nat} {P : ByteArray} {x : Rf} {bv ov av : Value} (h : Sc.At w g P x bv ov av) {k : Nat} (hk : ov.ownBlock = some k) : g + 1 ≤ k ∧ k < w.heap.size := by
  obtain ⟨xs, ho, _⟩ := h.out
  exact ho.lt k hk
/-- what was there is as it was -/
theorem Sc.At.on {w w' : World} {g : Nat} {P : ByteArray} {x : Rf} {bv ov av : Value} (h : Sc.At w g P x bv ov av) (hb : Below w.heap.size w w') : Sc.At w' g P x bv ov av :=
  ⟨h.box.on (hb.block g h.lt), Rm.own_on h.buf (fun k hk => hb.block k (h.buf.lt k hk).2), h.out.on hb.size (fun k hk => hb.block k (h.ovLt hk).2) (fun k _ h2 _ h4 => ⟨h4, hb.block k h2⟩), Rm.own_on h.attrs (fun k hk => hb.block k (h.attrs.lt k hk).2), h.ob, h.oa, h.ba⟩
/-- what a method leaves as it was: all but the scan's own blocks -/
structure Sc.Kept (w w' : World) (g : Nat) (bv ov av bv' ov' av' : Value) : Prop where
  os : w'.os = w.os
  tape : w'.tape = w.tape
  output : w'.output = w.output
  size : w.heap.size ≤ w'.heap.size
  block : ∀ k, k < w.heap.size → Sc.Free bv ov av g k → w'.heap[k]? = w.heap[k]? ∧ Sc.Free bv' ov' av' g k
theorem Sc.Kept.refl (w : World) (g : Nat) (bv ov av : Value) : Sc.Kept w w g bv ov av bv ov av := ⟨rfl, rfl, rfl, Nat.le_refl _, fun _ _ h => ⟨rfl, h⟩⟩
theorem Sc.Kept.trans {w w1 w2 : World} {g : Nat} {bv ov av bv1 ov1 av1 bv2 ov2 av2 : Value} (h : Sc.Kept w w1 g bv ov av bv1 ov1 av1) (h2 : Sc.Kept w1 w2 g bv1 ov1 av1 bv2 ov2 av2) : Sc.Kept w w2 g bv ov av bv2 ov2 av2 :=
  ⟨h2.os.trans h.os, h2.tape.trans h.tape, h2.output.trans h.output, Nat.le_trans h.size h2.size, fun k hk hf => by
    obtain ⟨a1, a2⟩ := h.block k hk hf
    obtain ⟨b1, b2⟩ := h2.block k (Nat.lt_of_lt_of_le hk h.size) a2
    exact ⟨b1.trans a1, b2⟩⟩
theorem Sc.Kept.of {w w1 : World} (g : Nat) (bv ov av : Value) (hb : Below w.heap.size w w1) : Sc.Kept w w1 g bv ov av bv ov av := ⟨hb.os, hb.tape, hb.output, hb.size, fun k hk hf => ⟨hb.block k hk, hf⟩⟩
theorem Sc.Kept.set (w : World) (g j : Nat) (u bv ov av : Value) : Sc.Kept w (w.setCell ⟨g, j, none⟩ u) g bv ov av bv ov av := ⟨rfl, rfl, rfl, by simp, fun _ _ hf => ⟨Below.heap_setCell _ _ _ _ hf.1, hf⟩⟩
theorem Sc.Kept.cell {w w' : World} {g : Nat} {bv ov av bv' ov' av' : Value} (h : Sc.Kept w w' g bv ov av bv' ov' av') {b o : Nat} {v : Value} (hf : Sc.Free bv ov av g b) (hc : w.cell? ⟨b, o, none⟩ = some v) : w'.cell? ⟨b, o, none⟩ = some v :=
  (World.cell?_of_block (a := ⟨b, o, none⟩) (h.block b (World.block_lt_of_cell? _ _ hc) hf).1).trans hc
/-- a store into one of the scan's cells that holds no row -/
theorem Sc.At.set {w : World} {g : Nat} {P : ByteArray} {x x' : Rf} {bv ov av : Value} (h : Sc.At w g P x bv ov av) (j : Nat) (u : Value) (hj : j < 15) (hx : (Sc.cells P x bv ov av).set j u = Sc.cells P x' bv ov av) (hb : x'.buf = x.buf) (ho : x'.out = x.out) (ha : x'.attrs = x.attrs) : Sc.At (w.setCell ⟨g, j, none⟩ u) g P x' bv ov av := by
  have hne : ∀ k, g + 1 ≤ k → (w.setCell ⟨g, j, none⟩ u).heap[k]? = w.heap[k]? := fun k hk => Below.heap_setCell _ _ _ _ (by show k ≠ g; omega)
  refine ⟨by rw [← hx]; exact h.box.set j u hj, ?_, ?_, ?_, h.ob, h.oa, h.ba⟩
  · rw [hb]
    exact Rm.own_on h.buf (fun k hk => hne k (h.buf.lt k hk).1)
  · rw [ho]
    exact h.out.on (by simp) (fun k hk => hne k (h.ovLt hk).1) (fun k h1 _ _ h4 => ⟨h4, hne k h1⟩)
  · rw [ha]
    exact Rm.own_on h.attrs (fun k hk => hne k (h.attrs.lt k hk).1)
end Go.Proofs.YtjbkgokiikbaeaaGreatDoor
/-
  THE WALK of the reference's adds.
-/
namespace Go.Proofs.YtjbkgokiikbaeaaGreatDoor
open Go.RowKit
theorem Sc.info : (Tryz.prog.info? 5).map (fun i => (i.zero, i.size, i.bytes)) = some (some (.int .u8 0), 1, 1) := by kernel_rfl
/-- 'append(row, text...)': where the row lies behind it -/
theorem Sc.run_str (w : World) (base : Nat) (ty : TypeId) (v : Value) (n : Nat) (xs : List Value) (hown : w.ownsRow base 5 1 v n xs) (s : ByteArray) (h63 : n + s.size ≤ maxLen) (hbytes : n + s.size ≤ 140737488355328) (hbase : base ≤ w.heap.size) :
    ∃ v' w', (Builtin.append_ #[43, 9] ty #[v, .string s]).run Tryz.prog w = .ok v' w' ∧ w'.ownsRow base 5 1 v' (n + s.size) (xs ++ Lib.strCells s) ∧ w.grownBy w' v.ownBlock ∧ (v'.ownBlock = v.ownBlock ∨ v'.ownBlock = some w.heap.size) := by
  obtain ⟨i, hi, hz, h1, h2⟩ := info_parts Sc.info
  obtain ⟨v', w', hr, ho, hg, _⟩ := Lib.run_append_own_string (P := Tryz.prog) w base 43 9 ty 5 i Tryz.underlying43 Tryz.underlying9 hi hz h1 h2 v n xs hown s h63 hbytes hbase
  refine ⟨v', w', hr, ho, hg, ?_⟩
  have hsmall : n + s.size ≤ 9223372036854775807 := by simp only [maxLen] at h63; omega
  have hxl : xs.length = n := by simpa using hown.1
  rcases hown.2 with ⟨rfl, rfl⟩ | ⟨g, cap, cur, rfl, hbg, hgg, hnc, hcm, hcs, htake⟩
  · by_cases hm : s.size = 0
    · have hf := Lib.run_firstCells_string (P := Tryz.prog) w 1 s
      rw [hm] at hf
      simp [Builtin.append_, run_underlying Tryz.underlying43, run_underlying Tryz.underlying9, sizeOf, typeInfo, hi, h1, Builtin.lenOf, hm, hf] at hr
      rw [← hr.1]
      exact .inl rfl
    · have hr2 := run_append_nil_string (P := Tryz.prog) w 43 9 ty 5 i (.int .u8 0) Tryz.underlying43 Tryz.underlying9 hi hz s (by omega) (by omega) (by rw [h2]; omega)
      rw [hr2] at hr
      injection hr with e1 e2
      subst e1
      exact .inr rfl
  · by_cases hroom : n + s.size ≤ cap
    · have hcs' : cur.size = cap := by simpa using hcs
      have hr2 := Lib.run_append_room_string (P := Tryz.prog) w 43 9 ty 5 i Tryz.underlying43 Tryz.underlying9 hi h1 g n cap cur hgg s hroom (by omega)
      rw [hr2] at hr
      injection hr with e1 e2
      subst e1
      exact .inl rfl
    · have holds : ∀ j u, xs[j]? = some u → w.cell? ((⟨g, 0, none⟩ : Addr).add j) = some u := hown.cells (g := g) rfl
      have hr2 := Lib.run_append_grow_string (P := Tryz.prog) w 43 9 ty 5 i (.int .u8 0) Tryz.underlying43 Tryz.underlying9 hi hz ⟨g, 0, none⟩ n cap xs (by rw [h1]; simpa using hxl) holds s (by omega) (by omega) (by rw [h2]; exact growslice_fits (by omega) (by omega))
      rw [hr2] at hr
      injection hr with e1 e2
      subst e1
      exact .inr rfl
/-- .. at a step of a region that draws -/
theorem Sc.step_str {w : World} {ops : Array Oper} {o : Oper} {a : Act} {K : Act → World → Prop} {E : Prop} {Z : Exit → Act → World → Prop} (hgd : o.guard = none) (sl x : Operand)
    (ho : o.op = .call { callee := .builtin .append, args := #[sl, x], argTypes := #[43, 9] })
    {base n : Nat} {xs : List Value} (v : Value) (hs : a.eval sl = v) (hown : w.ownsRow base 5 1 v n xs) (s : ByteArray) (hx : a.eval x = .string s)
    (h63 : n + s.size ≤ maxLen) (hbytes : n + s.size ≤ 140737488355328) (hbase : base ≤ w.heap.size)
    (h : ∀ v' w', w'.ownsRow base 5 1 v' (n + s.size) (xs ++ Lib.strCells s) → w.grownBy w' v.ownBlock → (v'.ownBlock = v.ownBlock ∨ v'.ownBlock = some w.heap.size) → K (a.put o.dst v') w') :
    if Region.wanted o (yielded ops a.tmps) = true then Oper.wp Tryz.prog o a w K Z else E := by
  have hw : Region.wanted o (yielded ops a.tmps) = true := by simp [Region.wanted, hgd]
  rw [if_pos hw]
  obtain ⟨v', w', hr, h2, h3, h4⟩ := Sc.run_str w base o.type v n xs hown s h63 hbytes hbase
  unfold Oper.wp execOp
  simp only [ho, resolve, invoke, builtin, Sem.run_bind, Sem.run_pure, Result.andThen_ok, List.map_toArray, List.map_cons, List.map_nil, hs, hx, hr]
  exact h v' w' h2 h3 h4
theorem Sc.strCells (P : ByteArray) (a b : Nat) : Lib.strCells (P.extract a b) = Lib.byteCells (Rf.sl P a b) := by
  unfold Lib.strCells Lib.byteCells Rf.sl
  simp
/-- the rows behind a grown one -/
theorem Sc.grown_ne {w w4 : World} {v : Value} {k : Nat} (hg : w.grownBy w4 v.ownBlock) (hk : k < w.heap.size) (hv : v.ownBlock ≠ some k) : w4.heap[k]? = w.heap[k]? := hg.block k hk (fun e => hv e.symm)
/-- the bytes' row grown, and laid down -/
theorem Sc.At.bufPut {w w4 : World} {g : Nat} {P : ByteArray} {x : Rf} {bv ov av bv' : Value} {l : List UInt8} (h : Sc.At w g P x bv ov av) (ho : w4.ownsRow (g + 1) 5 1 bv' (x.buf ++ l).length (Lib.byteCells (x.buf ++ l))) (hg : w.grownBy w4 bv.ownBlock) (hf : bv'.ownBlock = bv.ownBlock ∨ bv'.ownBlock = some w.heap.size) :
    Sc.At (w4.setCell ⟨g, 8, none⟩ bv') g P { x with buf := x.buf ++ l } bv' ov av ∧ Sc.Kept w (w4.setCell ⟨g, 8, none⟩ bv') g bv ov av bv' ov av := by
  have hlt := h.lt
  have hgne : bv.ownBlock ≠ some g := fun e => by have := (h.buf.lt g e).1; omega
  have hne : ∀ k, g + 1 ≤ k → (w4.setCell ⟨g, 8, none⟩ bv').heap[k]? = w4.heap[k]? := fun k hk => Below.heap_setCell _ _ _ _ (by show k ≠ g; omega)
  have hblk : ∀ k, k < w.heap.size → bv.ownBlock ≠ some k → bv'.ownBlock ≠ some k := fun k hk hv e => by
    rcases hf with q | q
    · rw [q] at e; exact hv e
    · rw [q] at e; have := Option.some.inj e; omega
  have hov : ∀ k, ov.ownBlock = some k → (w4.setCell ⟨g, 8, none⟩ bv').heap[k]? = w.heap[k]? := fun k hk => (hne k (h.ovLt hk).1).trans (Sc.grown_ne hg (h.ovLt hk).2 (h.ob k hk))
  have hav : ∀ k, av.ownBlock = some k → (w4.setCell ⟨g, 8, none⟩ bv').heap[k]? = w.heap[k]? := fun k hk => (hne k (h.attrs.lt k hk).1).trans (Sc.grown_ne hg (h.attrs.lt k hk).2 (fun e => h.ba k e hk))
  refine ⟨⟨?_, ?_, ?_, ?_, ?_, ?_, ?_⟩, ⟨hg.os, hg.tape, hg.output, by simpa using hg.size, fun k hk hfr => ⟨?_, hfr.1, hblk k hk hfr.2.1, hfr.2.2.1, hfr.2.2.2⟩⟩⟩
  · exact (h.box.on (Sc.grown_ne hg hlt hgne)).set 8 bv' (by show 8 < 15; decide)
  · exact Rm.own_on ho (fun k hk => hne k (ho.lt k hk).1)
  · exact h.out.on (by simpa using hg.size) hov (fun k h1 h2 _ h4 => ⟨fun q => by
      rcases q with q | q
      · exact hblk k h2 (fun e => h4 (Or.inl e)) q
      · exact h4 (Or.inr q), (hne k h1).trans (Sc.grown_ne hg h2 (fun e => h4 (Or.inl e)))⟩)
  · exact Rm.own_on h.attrs hav
  · intro k hk
    exact hblk k (h.ovLt hk).2 (h.ob k hk)
  · exact h.oa
  · intro k hk hk2
    exact hblk k (h.attrs.lt k hk2).2 (fun e => h.ba k e hk2) hk
  · rw [show (w4.setCell ⟨g, 8, none⟩ bv').heap[k]? = w4.heap[k]? from Below.heap_setCell _ _ _ _ hfr.1]
    exact Sc.grown_ne hg hk hfr.2.1
end Go.Proofs.YtjbkgokiikbaeaaGreatDoor
/-
  THE WALK of the reference's adds: bytes that are text.
-/
namespace Go.Proofs.YtjbkgokiikbaeaaGreatDoor
open Go.RowKit
theorem Sc.grown_drew {w w4 : World} {r : Option Nat} (h : w.drew.grownBy w4 r) : w.grownBy w4 r := ⟨h.os, h.tape, h.output, h.size, h.block⟩
set_option maxHeartbeats 4000000 in
theorem Sc.addsRaw (P : ByteArray) (x : Rf) (w : World) (g : Nat) (bv ov av : Value) (h : Sc.At w g P x bv ov av) (a b : Nat) (hab : a ≤ b) (hb : b ≤ P.size) (hP : P.size ≤ 65536) (hl : x.buf.length ≤ 65536) (K : Int) (hK : Ts.kind x.st.held = K) (raw : Bool) (hr : raw = Rf.isRaw x.st.held) (t3 : (K == 3) = true ∧ raw = true ∨ (K == 3) = false ∧ (K == 4) = raw) :
    Calls Tryz.prog 36 #[.pointer (some ⟨g, 0, none⟩), .int .i64 (a : Int), .int .i64 (b : Int)] w fun e w' => e = .returned (.tuple #[]) ∧ ∃ bv', Sc.At w' g P (x.adds P a b) bv' ov av ∧ Sc.Kept w w' g bv ov av bv' ov av := by
  obtain ⟨ba, bd, rfl⟩ := Rm.form h.buf
  have he := fun u => Rs.elem x.st.held u
  rw [hK] at he
  have c5 := h.box.cell 5 _ rfl
  have c9 := h.box.cell 9 _ rfl
  have fz := h.box.fz
  have hlt := h.lt
  have hA1 := h.set (x' := { x with raw := raw }) 9 (.bool raw) (by decide) rfl rfl rfl rfl
  have hK1 := Sc.Kept.set w g 9 (.bool raw) (.slice ba x.buf.length bd) ov av
  have HX : Hid (x.adds P a b = { ({ x with raw := raw } : Rf) with buf := x.buf ++ Rf.sl P a b }) := by unfold Hid Rf.adds; rw [← hr]
  obtain ⟨W, hW⟩ : ∃ W, w.setCell ⟨g, 9, none⟩ (.bool raw) = W := ⟨_, rfl⟩
  rw [hW] at hA1 hK1
  have e0 := hA1.box.cell 0 _ rfl
  have e8 := hA1.box.cell 8 _ rfl
  have ef := hA1.box.fz
  have hcut := Rm.text_cut P a b hab hb
  have hes : (P.extract a b).size = b - a := by rw [ByteArray.size_extract]; omega
  have HES := Lib.hid hes
  have HN : Hid (x.buf.length + (P.extract a b).size ≤ maxLen ∧ x.buf.length + (P.extract a b).size ≤ 140737488355328) := ⟨by unfold maxLen; omega, by omega⟩
  have hlW : g < W.heap.size := hA1.lt
  have HA1 := Lib.hid hA1
  have HK1 := Lib.hid hK1
  have HS := Lib.hid (Sc.strCells P a b)
  clear h hA1 hK1 hK hr hes
  rcases t3 with ⟨q3, rfl⟩ | ⟨q3, q4⟩
  all_goals
    go_enter Tryz.func36, Tryz.ntmps36
    go_wp2_with (go_at_call 84; refine (he _).mono ?_; rintro e w' ⟨rfl, hw⟩; have hw := hw.symm; subst hw)
    try rw [hW]
    clear hW c5 c9 fz he q3
    have HO := Lib.hid HA1.out.buf
    go_region_law (first | (refine Sc.step_str rfl (.tmp 26) (.tmp 33) rfl (.slice ba x.buf.length bd) (by rfl) HO.out (P.extract a b) (by rfl) HN.out.1 HN.out.2 (by first | omega | (simp; omega)) ?_; intro v4 w4 R4 hg4 hf4; obtain ⟨a4, d4, rfl⟩ := Rm.form R4; have HR4 := Lib.hid R4; have HG4 := Lib.hid (Sc.grown_drew hg4); have HF4 := Lib.hid hf4; have B4 := HA1.out.box.on (w' := w4) (Sc.grown_ne (Sc.grown_drew hg4) hlW (fun e => by have := (HO.out.lt g e).1; omega)); have d8 := B4.cell 8 _ rfl; have df := B4.fz; clear R4 hg4 hf4 B4))
    all_goals go_wp2
    all_goals go_end0
    all_goals
      have R5 : w4.ownsRow (g + 1) 5 1 (.slice a4 (x.buf.length + (P.extract a b).size) d4) (x.buf ++ Rf.sl P a b).length (Lib.byteCells (x.buf ++ Rf.sl P a b)) := by
        have := HR4.out
        rw [HS.out, ← Lib.byteCells_append] at this
        rw [List.length_append, Rf.sl_len P a b hb, ← HES.out]
        exact this
      obtain ⟨z1, z2⟩ := Sc.At.bufPut HA1.out R5 HG4.out HF4.out
      rw [HES.out] at z1 z2
      refine ⟨rfl, _, ?_, HK1.out.trans z2⟩
      rw [HX.out]
      exact z1
theorem Sc.adds (P : ByteArray) (x : Rf) (w : World) (g : Nat) (bv ov av : Value) (h : Sc.At w g P x bv ov av) (a b : Nat) (hab : a ≤ b) (hb : b ≤ P.size) (hP : P.size ≤ 65536) (hl : x.buf.length ≤ 65536) :
    Calls Tryz.prog 36 #[.pointer (some ⟨g, 0, none⟩), .int .i64 (a : Int), .int .i64 (b : Int)] w fun e w' => e = .returned (.tuple #[]) ∧ ∃ bv', Sc.At w' g P (x.adds P a b) bv' ov av ∧ Sc.Kept w w' g bv ov av bv' ov av := by
  refine Sc.addsRaw P x w g bv ov av h a b hab hb hP hl (Ts.kind x.st.held) rfl (Rf.isRaw x.st.held) rfl ?_
  unfold Rf.isRaw
  by_cases h3 : Ts.kind x.st.held = 3
  · exact Or.inl ⟨beq_iff_eq.2 h3, decide_eq_true (Or.inl h3)⟩
  · refine Or.inr ⟨beq_eq_false_iff_ne.2 h3, ?_⟩
    by_cases h4 : Ts.kind x.st.held = 4
    · rw [decide_eq_true (Or.inr h4)]
      exact beq_iff_eq.2 h4
    · rw [decide_eq_false (by rintro (q | q); exact h3 q; exact h4 q)]
      exact beq_eq_false_iff_ne.2 h4
end Go.Proofs.YtjbkgokiikbaeaaGreatDoor

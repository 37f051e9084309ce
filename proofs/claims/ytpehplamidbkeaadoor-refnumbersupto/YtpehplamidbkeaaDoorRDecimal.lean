/-
  THE WALK of stoleref0.Decimal at a number below 10^7: it returns its digits, and turns nothing that was there.
-/
import Derived.Test.YtpehplamidbkeaaDoorRefEnc
namespace Go.Proofs.YtpehplamidbkeaaDoor
open Go.RowKit

/-- digits of a number -/
structure Pl.Digs (base most k : Nat) (l : List UInt8) : Prop where
  digs : ∀ c ∈ l, Pl.dig c < base
  val : Pl.val base l = k
  long : l ≠ []
  short : l.length ≤ most
/-- a number that is written so far: z stands ahead of the digits -/
structure Pl.Half (base most k z : Nat) (l : List UInt8) : Prop where
  digs : ∀ c ∈ l, Pl.dig c < base
  val : z * base ^ l.length + Pl.val base l = k
  room : z < base ^ (most - l.length)
  short : l.length ≤ most
theorem Pl.Half.lt {base most k z : Nat} {l : List UInt8} (h : Pl.Half base most k z l) (hm : 0 < most) (hz : 0 < z ∨ l = []) : l.length < most := by
  rcases hz with hz | rfl
  · have := h.room
    have h2 := h.short
    by_cases e : l.length = most
    · rw [e, Nat.sub_self] at this; simp at this; omega
    · omega
  · simpa using hm
theorem Pl.Half.step {base most k z : Nat} {l : List UInt8} (h : Pl.Half base most k z l) (hb : 0 < base) (hl : l.length < most) (c : UInt8) (hc : Pl.dig c = z % base) : Pl.Half base most k (z / base) (c :: l) := by
  refine ⟨?_, ?_, ?_, by rw [List.length_cons]; omega⟩
  · intro d hd
    rcases List.mem_cons.1 hd with rfl | hd
    · rw [hc]; exact Nat.mod_lt _ hb
    · exact h.digs d hd
  · rw [Pl.val_cons, hc, List.length_cons, Nat.pow_succ, ← h.val]
    have h1 : z / base * (base ^ l.length * base) = (z / base * base) * base ^ l.length := by
      rw [Nat.mul_comm (base ^ l.length) base, ← Nat.mul_assoc]
    rw [h1, ← Nat.add_assoc, ← Nat.add_mul]
    congr 2
    rw [Nat.mul_comm]; exact Nat.div_add_mod z base
  · have h1 := h.room
    rw [List.length_cons]
    have h2 : most - l.length = (most - (l.length + 1)) + 1 := by omega
    rw [h2, Nat.pow_succ] at h1
    exact (Nat.div_lt_iff_lt_mul hb).2 h1
theorem Pl.Half.fin {base most k : Nat} {l : List UInt8} (h : Pl.Half base most k 0 l) (hl : l ≠ []) : Pl.Digs base most k l :=
  ⟨h.digs, by have := h.val; simpa using this, hl, h.short⟩
theorem Pl.dig_ten (c : UInt8) (d : Nat) (hd : d < 10) (hc : c.toNat = 48 + d) : Pl.dig c = d := by
  unfold Pl.dig
  rw [if_pos (by omega)]; omega

def Dm.len : Value → Nat
  | .slice _ n _ => n
  | _ => 0
theorem Dm.len_own {w : World} {B : Nat} {v : Value} {n : Nat} {xs : List Value} (h : w.ownsRow B 5 1 v n xs) : Dm.len v = n := by
  rcases h.2 with ⟨rfl, h0⟩ | ⟨g, cap, cur, rfl, _⟩
  · exact h0.symm
  · rfl
theorem Dm.one (W : World) (B : Nat) (x : Int) (hB : B ≤ W.heap.size) : (W.alloc (.cells #[.int .u8 x] 5)).ownsRow B 5 1 (.slice (some ⟨W.heap.size, 0, none⟩) 1 1) 1 [.int .u8 x] :=
  World.ownsRow_lit (e := 5) (size := 1) W #[.int .u8 x] 1 hB (by unfold maxLen; omega) rfl
theorem Dm.ones (l : List UInt8) : ∀ u ∈ Lib.byteCells l, u.oneCell' = true := by
  intro u hu
  simp only [Lib.byteCells, List.mem_map] at hu
  obtain ⟨c, _, rfl⟩ := hu
  rfl
theorem Dm.rel {w wr w1 : World} {v' : Value} {acc : List UInt8} {X : Obj} {c : UInt8} (hb : Below w.heap.size w wr)
    (hown' : w1.ownsRow w.heap.size 5 1 v' (1 + acc.length) ([.int .u8 c.toNat] ++ Lib.byteCells acc)) (hg : (wr.alloc X).grownBy w1 (some wr.heap.size)) :
    w1.ownsRow w.heap.size 5 1 v' (c :: acc).length (Lib.byteCells (c :: acc)) ∧ Below w.heap.size w w1 := by
  refine ⟨?_, (hb.alloc hb.size X).grown hg (by have := hb.size; simp; omega) (fun k hk => by cases hk; exact hb.size)⟩
  rw [List.length_cons, Nat.add_comm]
  exact hown'

set_option maxRecDepth 100000 in
set_option maxHeartbeats 2000000 in
theorem Dm.decimal (k : Nat) (hk : k < 10000000) (w : World) :
    Calls Tryd.prog 16 #[.int .i64 (k : Int)] w fun e w' => ∃ l, e = .returned (.string ⟨l.toArray⟩) ∧ Pl.Digs 10 7 k l ∧ Below w.heap.size w w' := by
  obtain ⟨i0, hi, hz0, hz1, hz2⟩ := info_parts Wk.info5
  have k0 : decide ((k : Int) < 0) = false := decide_eq_false (by omega)
  go_enter Tryd.func16, Tryd.ntmps16
  go_wp2
  go_loopw [3, 4] (fun y o wr => ∃ (z : Nat) (acc : List UInt8), y = .int .u64 z ∧ z ≤ k ∧ wr.ownsRow w.heap.size 5 1 o acc.length (Lib.byteCells acc) ∧ Below w.heap.size w wr ∧ Hid (Pl.Half 10 7 k z acc) ∧ (acc = [] → o = .slice none 0 0)) (fun y o _ => 2 * (intOf y).toNat + (if Dm.len o = 0 then 1 else 0))
  case atStart => exact ⟨k, [], by go_num, Nat.le_refl _, World.ownsRow_nil _ _ _ _, Below.refl _ _, ⟨(by simp), (by simp [Pl.val]), (by simpa using hk), (by simp)⟩, fun _ => rfl⟩
  case round =>
    obtain ⟨z, acc, rfl, hzk, hown, hb, HH, hnil⟩ := hrel
    have hsr := hb.size
    obtain ⟨c, hc⟩ : ∃ c : UInt8, c.toNat = 48 + z % 10 := ⟨UInt8.ofNat (48 + z % 10), by rw [UInt8.toNat_ofNat']; omega⟩
    have HC : Hid (Pl.dig c = z % 10) := Pl.dig_ten c _ (by omega) hc
    have hcI : 48 + (z : Int) % 10 = (c.toNat : Int) := by omega
    clear hc
    rcases hown.2 with ⟨rfl, h0⟩ | ⟨g, cap, cur, rfl, _⟩
    · have hacc : acc = [] := List.eq_nil_of_length_eq_zero h0
      subst hacc
      have HS : Hid (Pl.Half 10 7 k (z / 10) [c]) := HH.out.step (by decide) (HH.out.lt (by decide) (.inr rfl)) c HC.out
      have R := Dm.one wr w.heap.size c.toNat hsr
      have hb' := hb.alloc hb.size (.cells #[.int .u8 c.toNat] 5)
      clear h0 hnil HC HH hown hb
      by_cases hz : 0 < z
      · go_wp2_with fail
        refine ⟨⟨z / 10, [c], by go_num, by omega, R, hb', HS, fun h => by cases h⟩, ?_⟩
        simp [intOf, Dm.len]
        omega
      · go_wp2_with fail
        refine ⟨⟨z / 10, [c], by go_num, by omega, R, hb', HS, fun h => by cases h⟩, ?_⟩
        simp [intOf, Dm.len]
        omega
    · have hne : acc ≠ [] := fun h => by have := hnil h; cases this
      have hpos : 0 < acc.length := List.length_pos_iff.2 hne
      clear hnil
      by_cases hz : 0 < z
      · have hlt := HH.out.lt (by decide) (.inl hz)
        have HS : Hid (Pl.Half 10 7 k (z / 10) (c :: acc)) := HH.out.step (by decide) hlt c HC.out
        have hl := Dm.len_own hown
        clear HC HH
        go_wp2_with (at_builtin; refine wpList_append_own _ rfl _ _ 27 rfl w.heap.size 5 i0 (.int .u8 0) 1 1 Tryd.underlying27 hi hz0 hz1 hz2 rfl (by decide) _ _ _ rfl (Dm.one wr w.heap.size c.toNat hsr) ⟨g, 0, none⟩ acc.length cap (Lib.byteCells acc) rfl (by rw [Lib.byteCells_length]; omega) ((hown.alloc _).cells rfl) (Dm.ones acc) (by unfold maxLen; omega) (by omega) (by simp; omega) ?_)
        intro v' w1 hown' hgrow _
        have R := Dm.rel (c := c) hb hown' hgrow
        have hl' := Dm.len_own R.1
        clear hown' hgrow hown hb
        go_wp2_with fail
        refine ⟨⟨z / 10, c :: acc, by go_num, by omega, R.1, R.2, HS, fun h => by cases h⟩, ?_⟩
        rw [hl', hl]
        simp [intOf]
        omega
      · have hz0' : z = 0 := by omega
        subst hz0'
        have HF : Hid (Pl.Digs 10 7 k acc) := HH.out.fin hne
        have hl0 : ((acc.length : Int) == 0) = false := beq_eq_false_iff_ne.2 (by omega)
        have hconv := Rn.conv hown
        clear HH HC hown hcI
        go_wp2
        go_ret
        exact ⟨acc, rfl, HF.out, hb⟩
end Go.Proofs.YtpehplamidbkeaaDoor

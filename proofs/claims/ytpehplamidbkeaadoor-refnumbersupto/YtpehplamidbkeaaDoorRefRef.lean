/-
  THE WALK of stoleref1.reference: it returns what 'Pl.refR' gives of the bytes between & and ;, and turns nothing that was there.
-/
import Derived.Test.YtpehplamidbkeaaDoorRefNum
import Derived.Test.YtpehplamidbkeaaDoorREnc
namespace Go.Proofs.YtpehplamidbkeaaDoor
open Go.RowKit

def Pl.refP (b : List UInt8) : List UInt8 × Bool := match Pl.refR b with | some t => (t, true) | none => ([], false)
theorem Rt.ret_two {p q : List UInt8 × Bool} (h : p = q) : Ending.returned (.tuple #[.string ⟨p.1.toArray⟩, .bool p.2]) = .returned (.tuple #[.string ⟨q.1.toArray⟩, .bool q.2]) := by rw [h]
theorem Rt.refP_num (s p : ByteArray) (h : 0 < s.size) (hc : s[0] = 35) (hp : p.data.toList = s.data.toList.drop 1) : Pl.refP s.data.toList = if (Pl.numP p.data.toList).2 = true then (Pl.runeL (Pl.numP p.data.toList).1, true) else ([], false) := by
  have hd := Rd.drop_cons s 0 h
  rw [List.drop_zero, Nat.zero_add, ← hp, hc] at hd
  rw [hd, Pl.refP, Pl.refR, if_pos (by simp), List.tail_cons, Pl.numP]
  cases Pl.numR p.data.toList <;> rfl
theorem Rt.nameR_ne : ∀ (b g : List UInt8), Pl.nameR Pl.names0 b = some g → g ≠ [] := by
  have key : ∀ ns : List (List UInt8 × List UInt8), (∀ n ∈ ns, n.2 ≠ []) → ∀ b g, Pl.nameR ns b = some g → g ≠ [] := by
    intro ns
    induction ns with
    | nil => intro _ b g h; cases h
    | cons n ns ih =>
      intro hn b g h
      rw [Pl.nameR] at h
      split at h
      · cases h; exact hn n (by simp)
      · exact ih (fun m hm => hn m (by simp [hm])) b g h
  exact key Pl.names0 (by decide)
theorem Rt.refP_name (b : List UInt8) (h : b.head? ≠ some 35) : Pl.refP b = (Pl.nameS b, !(Pl.nameS b).isEmpty) := by
  rw [Pl.refP, Pl.refR, if_neg h, Pl.nameS]
  cases hn : Pl.nameR Pl.names0 b with
  | none => rfl
  | some g =>
    have := Rt.nameR_ne b g hn
    simp [this]

set_option maxRecDepth 100000 in
set_option maxHeartbeats 2000000 in
theorem Rt.refNum (s : ByteArray) (w : World) (h : 0 < s.size) (hc : s[0] = 35) :
    Calls Tryd.prog 26 #[.string s] w fun e w' => e = .returned (.tuple #[.string ⟨(Pl.refP s.data.toList).1.toArray⟩, .bool (Pl.refP s.data.toList).2]) ∧ Below w.heap.size w w' := by
  obtain ⟨p, hp⟩ : ∃ p, s.extract 1 s.size = p := ⟨_, rfl⟩
  have hpd : p.data.toList = s.data.toList.drop 1 := by rw [← hp]; exact Wk.rest_data s 1
  have hs := Rt.nonempty s h
  have hs' : s.toList.isEmpty = false := by rw [List.isEmpty_eq_false_iff]; exact hs
  have HR := Rt.refP_num s p h hc hpd
  have cn := Rt.number p w
  have hcn : (s[0].toNat : Int) = 35 := by rw [hc]; rfl
  have hcut : ∀ u : World, (Instr.slice 9 (.string s) (some (.int .i64 1)) none none).run Tryd.prog u = .ok (.string p) u := fun u => by
    have h := Rr.run_from u s 1 (by omega) (by omega)
    rw [← hp]; exact h
  generalize Pl.numP p.data.toList = q at *
  obtain ⟨x, b⟩ := q
  clear hp hpd hc
  cases b with
  | false =>
    have HR' : Hid (Pl.refP s.data.toList = ([], false)) := HR
    clear HR
    go_enter Tryd.func26, Tryd.ntmps26
    go_wp2_with fail
    refine cn.mono ?_
    rintro e w1 ⟨rfl, hw1⟩
    subst hw1
    go_wp2
    go_ret2
    exact ⟨Rt.ret_two HR'.out.symm, Below.refl _ _⟩
  | true =>
    have HR' : Hid (Pl.refP s.data.toList = (Pl.runeL x, true)) := HR
    clear HR
    have cr := Ru.rune x w
    go_enter Tryd.func26, Tryd.ntmps26
    go_wp2_with fail
    refine cn.mono ?_
    rintro e w1 ⟨rfl, hw1⟩
    subst hw1
    go_wp2_with fail
    refine cr.mono ?_
    rintro e w2 ⟨v, rfl, hown, hb⟩
    have hconv := Rn.conv hown
    clear hown cr cn
    go_wp2
    go_ret2
    exact ⟨Rt.ret_two HR'.out.symm, hb⟩

set_option maxRecDepth 100000 in
set_option maxHeartbeats 2000000 in
theorem Rt.refName (s : ByteArray) (w : World) (hh : s.data.toList.head? ≠ some 35) :
    Calls Tryd.prog 26 #[.string s] w fun e w' => e = .returned (.tuple #[.string ⟨(Pl.refP s.data.toList).1.toArray⟩, .bool (Pl.refP s.data.toList).2]) ∧ Below w.heap.size w w' := by
  have HR : Hid (Pl.refP s.data.toList = (Pl.nameS s.data.toList, !(Pl.nameS s.data.toList).isEmpty)) := Rt.refP_name _ hh
  have cn := Rt.named s w
  generalize Pl.nameS s.data.toList = g at *
  have hT : (⟨g.toArray⟩ : ByteArray).toList = g := by rw [Lib.toList_data]
  by_cases h0 : s.size = 0
  · have hs := Rt.empty s h0
    have hs' : s.toList.isEmpty = true := by rw [hs]; rfl
    clear hh h0
    go_enter Tryd.func26, Tryd.ntmps26
    go_wp2_with fail
    refine cn.mono ?_
    rintro e w1 ⟨rfl, hw1⟩
    subst hw1
    go_wp2
    go_ret2
    refine ⟨Eq.trans ?_ (Rt.ret_two HR.out.symm), Below.refl _ _⟩
    simp
  · have hpos : 0 < s.size := by omega
    have hs := Rt.nonempty s hpos
    have hs' : s.toList.isEmpty = false := by rw [List.isEmpty_eq_false_iff]; exact hs
    have hd := Rd.drop_cons s 0 hpos
    rw [List.drop_zero] at hd
    rw [hd] at hh
    have hc : s[0] ≠ 35 := fun e => hh (by rw [e]; rfl)
    have hb : ((s[0].toNat : Int) == 35) = false := Re.beq_false s[0] 35 35 rfl hc
    clear hh h0 hd hc
    go_enter Tryd.func26, Tryd.ntmps26
    go_wp2_with fail
    refine cn.mono ?_
    rintro e w1 ⟨rfl, hw1⟩
    subst hw1
    go_wp2
    go_ret2
    refine ⟨Eq.trans ?_ (Rt.ret_two HR.out.symm), Below.refl _ _⟩
    simp
theorem Rt.reference (s : ByteArray) (w : World) :
    Calls Tryd.prog 26 #[.string s] w fun e w' => e = .returned (.tuple #[.string ⟨(Pl.refP s.data.toList).1.toArray⟩, .bool (Pl.refP s.data.toList).2]) ∧ Below w.heap.size w w' := by
  by_cases hh : s.data.toList.head? = some 35
  · have h : 0 < s.size := by
      rw [← Wk.len_data]
      cases hl : s.data.toList with
      | nil => rw [hl] at hh; cases hh
      | cons c r => simp
    have hd := Rd.drop_cons s 0 h
    rw [List.drop_zero] at hd
    rw [hd] at hh
    exact Rt.refNum s w h (by simpa using hh)
  · exact Rt.refName s w hh
end Go.Proofs.YtpehplamidbkeaaDoor

/-
  THE WALK of the landed copied.
-/
import Derived.Test.YtjmobhohfcieoaaKSh
import Derived.Test.YtjmobhohfcieoaaGTxt
import Derived.Test.YtjmobhohfcieoaaGData
namespace Go.Proofs.Ytjmobhohfcieoaa
open Go.RowKit
set_option maxRecDepth 100000 in
set_option maxHeartbeats 4000000 in
theorem Ko.copied (p : List (List UInt8)) (v : Value) (R : Nat → Prop) (w : World) (h : St.Lies w R p v) (hn : p.length ≤ 1048576) (hz : ∀ t ∈ p, t.length ≤ 1048576) :
    Calls Try.prog 31 #[v] w fun e w' => ∃ v', e = .returned v' ∧ St.Lies w' (fun b => w.heap.size ≤ b ∧ b < w'.heap.size ∧ Rm.Ub w' b) p v' ∧ Below w.heap.size w w' := by
  obtain ⟨a, d, rfl, hd, hm, hx⟩ := h
  have HX := Lib.hid hx
  have HZ := Lib.hid hz
  have hml : p.length ≤ 9223372036854775807 := by omega
  clear hx hz hm
  go_enter Try.func31, Try.ntmps31
  go_wp2_with fail
  go_loopw [3, 8] (fun ov jv wr => ∃ (j : Nat) (ts : List (List UInt8)) (a1 : Option Addr) (d1 : Nat), j ≤ p.length ∧ ov = .slice a1 j d1 ∧ jv = .int .i64 (j : Int) ∧ ts.length = j ∧ Hid (p = ts ++ p.drop j) ∧ Hid (wr.ownsRow w.heap.size 9 1 (.slice a1 j d1) j (St.cells ts)) ∧ Hid (Below w.heap.size w wr)) (fun _ jv _ => p.length - (intOf jv).toNat)
  case atStart => exact ⟨0, [], none, 0, Nat.zero_le _, rfl, rfl, rfl, rfl, World.ownsRow_nil _ _ _ _, Below.refl _ _⟩
  case round =>
    obtain ⟨j, ts, a1, d1, hj, rfl, rfl, htl, HP, HO, HB⟩ := hrel
    by_cases hlt : j < p.length
    · have dlt : decide ((j : Int) < (p.length : Int)) = true := decide_eq_true (by omega)
      obtain ⟨b, o, rfl, _, x0⟩ := HX.out j p[j] (List.getElem?_eq_getElem hlt)
      have x0 := Tp.keep HB.out x0
      have hjd : j < d := by omega
      have hzj := HZ.out p[j] (List.getElem_mem hlt)
      have hst : p = (ts ++ [p[j]]) ++ p.drop (j + 1) := by rw [List.append_assoc]; exact HP.out.trans (by rw [List.drop_eq_getElem_cons hlt]; rfl)
      have HST := Lib.hid hst
      have cl := fun u => Tp.clone ⟨p[j].toArray⟩ u
      clear hst HP HX HZ
      generalize p[j] = t at *
      obtain ⟨T, hT⟩ : ∃ T : ByteArray, ⟨t.toArray⟩ = T := ⟨_, rfl⟩
      have HT := Lib.hid hT
      rw [hT] at x0 cl
      clear hT
      have hTs : T.size ≤ 281474976710656 := by rw [← HT.out]; show t.toArray.size ≤ _; rw [List.size_toArray]; omega
      go_wp2_with (first | (go_at_call 30; refine (cl _ hTs).mono ?_; rintro e w4 ⟨rfl, b4⟩; have B4 := Lib.hid (HB.out.trans (b4.mono HB.out.size)); have HO4 : Hid (w4.ownsRow w.heap.size 9 1 (.slice a1 j d1) j (St.cells ts)) := Rm.own_on HO.out (fun k hk => b4.block k (HO.out.lt k hk).2); clear b4 cl) | (at_builtin; refine Ro.push rfl _ _ 39 9 1 16 _ rfl Try.underlying39 St.info rfl (by decide) _ rfl (HO4.out.alloc _) w4.heap.size [.string T] rfl (St.cell1 w4 T) rfl (St.ones _) (by unfold maxLen; omega) (by omega) (by have := B4.out.size; simp; omega) ?_; intro v6 w6 R6 hg6 _; have HO6 : Hid (w6.ownsRow w.heap.size 9 1 v6 (j + 1) (St.cells (ts ++ [t]))) := (by unfold Hid; rw [St.cells_snoc, HT.out]; exact R6); obtain ⟨a6, d6, rfl⟩ := Gr.form R6; have B6 := Lib.hid (B4.out.trans (((Below.refl w.heap.size w4).alloc B4.out.size _).grown hg6 (by have := B4.out.size; simp; omega) (fun k e => (HO4.out.lt k e).1))); clear R6 hg6))
      go_roundw
      case rel => exact ⟨j + 1, ts ++ [t], a6, d6, by omega, rfl, by go_num, by rw [List.length_append, htl]; rfl, HST, HO6, B6⟩
      case measure => simp [intOf]; omega
    · have ej : j = p.length := by omega
      have dlt : decide ((j : Int) < (p.length : Int)) = false := decide_eq_false (by omega)
      have hts : p = ts := by
        have := HP.out
        rw [List.drop_of_length_le (by omega), List.append_nil] at this
        exact this
      clear HP HX HZ hlt
      subst ej
      have HL : Hid (St.Lies wr (fun b => w.heap.size ≤ b ∧ b < wr.heap.size ∧ Rm.Ub wr b) p (.slice a1 p.length d1)) := St.Lies.own (by rw [← hts] at HO; exact HO.out)
      clear hts htl HO
      go_wp2_with fail
      go_ret
      exact ⟨_, rfl, HL.out, HB.out⟩
end Go.Proofs.Ytjmobhohfcieoaa

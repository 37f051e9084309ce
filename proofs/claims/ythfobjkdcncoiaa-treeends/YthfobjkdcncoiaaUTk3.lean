/-
  THE WALK of the reference's token: a comment.
-/
import Derived.Test.YthfobjkdcncoiaaUNd
import Derived.Test.YthfobjkdcncoiaaUElem
import Derived.Test.YthfobjkdcncoiaaUMay
namespace Go.Proofs.Ythfobjkdcncoiaa
open Go.RowKit
set_option maxRecDepth 100000 in
set_option maxHeartbeats 8000000 in
theorem Um.token3 (base : Nat) (m : Bt) (t : Tk) (aa : Option Addr) (an ad : Nat) (w : World) (g : Nat) (ov pv : Value) (h : Um.At base w g m ov pv) (hok : Bt.Ok m) (hs : m.out.length ≤ 1000000) (hk : t.kind = 3) :
    Calls Try.prog 23 #[.pointer (some ⟨g, 0, none⟩), .agg #[.int .i64 t.kind, .string t.name, .string t.text, .slice aa an ad, .bool t.self]] w fun e w' => e = .returned (.tuple #[]) ∧ ∃ ov' pv', Um.At base w' g (m.token t) ov' pv' ∧ Um.Kept w w' g ov pv ov' pv' := by
  have t0 : (t.kind == 0) = false := by rw [hk]; rfl
  have t3 : (t.kind == 3) = true := by rw [hk]; rfl
  have HX : Hid (m.token t = m.node ⟨3, Ts.e, t.text, [], 0⟩) := by unfold Hid Bt.token; rw [if_neg (by rw [hk]; decide), if_pos hk]
  clear hk
  have hlt := h.lt
  obtain ⟨p, pd, rfl, hpd, ctop⟩ := Um.topCell h hok.opn
  obtain ⟨xs, hx⟩ := id h.out
  obtain ⟨og, od, rfl, hod, hod2⟩ := Um.form1 hx.1 hok.some
  have hp : p < w.heap.size := World.block_lt_of_cell? _ _ ctop
  have hl0 := hok.opn
  have hfew := hok.few
  have hsome := hok.some
  have n1 : w.heap.size ≠ g := by omega
  have n2 : g ≠ w.heap.size := by omega
  have hw1 : IntKind.i64.wrap ((m.opn.length : Int) - 1) = ((m.opn.length - 1 : Nat) : Int) := by rw [IntKind.wrap_i64]; omega
  have hw2 : IntKind.i64.wrap ((m.out.length : Int) - 1) = ((m.out.length - 1 : Nat) : Int) := by rw [IntKind.wrap_i64]; omega
  have hidx : m.opn.length - 1 < pd := by omega
  have hi63 : m.opn.length - 1 < m.opn.length := by omega
  have hod3 : m.out.length - 1 < od := by omega
  have ho63 : m.out.length - 1 < m.out.length := by omega
  go_enter Try.func23, Try.ntmps23
  go_upto_region 1 with fail
  obtain ⟨W, hW⟩ : ∃ W, w.alloc (.cells #[.int .i64 t.kind, .string t.name, .string t.text, .slice aa an ad, .bool t.self] 41) = W := ⟨_, rfl⟩
  have hbW : Below w.heap.size w W := by rw [← hW]; exact (Below.refl _ _).alloc (Nat.le_refl _) _
  have k0 : W.cell? ⟨w.heap.size, 0, none⟩ = some (.int .i64 t.kind) := by rw [← hW]; simp
  have k1 : W.cell? ⟨w.heap.size, 1, none⟩ = some (.string t.name) := by rw [← hW]; simp
  have k2 : W.cell? ⟨w.heap.size, 2, none⟩ = some (.string t.text) := by rw [← hW]; simp
  have k3 : W.cell? ⟨w.heap.size, 3, none⟩ = some (.slice aa an ad) := by rw [← hW]; simp
  have q1 := Tp.keep hbW h.c1
  have qt := Tp.keep hbW ctop
  have hA := h.on hbW
  rw [hW]
  have HA := Lib.hid hA
  have HBW := Lib.hid hbW
  have HW : Hid (Um.Free (.slice (some ⟨og, 0, none⟩) m.out.length od) (.slice (some ⟨p, 0, none⟩) m.opn.length pd) g w.heap.size) := ⟨n1, (fun e => by have := (h.ovLt e).2; omega), fun e => by have := (h.pvLt e).2; omega⟩
  clear hW hbW hA hx ctop
  go_quiet (fail)
  obtain ⟨V, hV⟩ : ∃ V, W.drewN nq = V := ⟨_, rfl⟩
  have hbV : Below W.heap.size W V := by rw [← hV]; exact ⟨rfl, rfl, rfl, Nat.le_refl _, fun _ _ => rfl⟩
  rw [hV]
  have hA := HA.out.on hbV
  have v0 := Tp.keep hbV k0
  have v1 := Tp.keep hbV k1
  have v2 := Tp.keep hbV k2
  have v3 := Tp.keep hbV k3
  have c0 := hA.c0
  have c1 := hA.c1
  have cf := hA.fz
  have hgV := hA.lt
  have HA := Lib.hid hA
  have HK := Lib.hid (Um.Kept.of g (.slice (some ⟨og, 0, none⟩) m.out.length od) (.slice (some ⟨p, 0, none⟩) m.opn.length pd) (HBW.out.trans (hbV.mono HBW.out.size)))
  have HBV : Hid (Below w.heap.size w V) := HBW.out.trans (hbV.mono HBW.out.size)
  clear hV hbV hA k0 k1 k2 k3 q1 qt HBW h
  have nod := Um.node base m ⟨3, Ts.e, t.text, [], 0⟩ none 0 0 V g _ _ HA.out hok hs (Ak.Lies.nil _ _)
  go_wp2_with (go_at_call 31; refine nod.mono ?_; rintro e w2 ⟨rfl, ov2, hA2, hK2⟩; have HA2 := Lib.hid hA2; have HK2 := Lib.hid (HK.out.trans hK2); clear nod hA2 hK2)
  go_end0
  exact ⟨rfl, _, _, by rw [HX.out]; exact HA2.out, HK2.out⟩
end Go.Proofs.Ythfobjkdcncoiaa

/-
  THE WALK of the landed reader: list.
-/
import Derived.Test.YtiajclmhimkpnaaDoorBJRk
namespace Go.Proofs.YtiajclmhimkpnaaDoor
open Go.RowKit
/-- the tree over the two rows -/
theorem Jr.Mem.tree {w : World} {g e : Nat} {kd : Int} {s : Jr.St} {vi vk : Value} {u : World} (h : Jr.Mem w g e kd s vi vk u) (W : World) (hW : ∀ k, w.heap.size + 4 ≤ k → k < u.heap.size → W.heap[k]? = u.heap[k]?) (hs : u.heap.size ≤ W.heap.size) :
    (Js.node kd s.1 s.2).Lies W (fun k => w.heap.size ≤ k ∧ k < W.heap.size) (.agg #[.int .i64 kd, .int .i64 0, .int .u64 0, .string ⟨#[]⟩, vi, vk]) := by
  refine Vt.Lies.on (R := fun k => w.heap.size + 4 ≤ k ∧ k < u.heap.size) (w := u) (fun k hk => ⟨⟨by have := hk.1; omega, by have := hk.2; omega⟩, hW k hk.1 hk.2⟩) ?_
  obtain ⟨xs, hx, hi⟩ := h.items
  obtain ⟨ai, ci, rfl, h1, h2, _, hrow⟩ := Vc.row_form hx
  obtain ⟨ak, ck, e2, k1, k2, _, krow⟩ := Vc.row_form h.keys
  subst e2
  refine ⟨ai, ci, ak, ck, rfl, by decide, h1, h2, ⟨k1, k2, fun j hj => ?_⟩, fun i hin => ?_⟩
  · obtain ⟨gk, cur, e, g1, g2, hg, hsz, hj2⟩ := krow (by omega)
    refine ⟨gk, 0, e, ⟨g1, g2⟩, ?_⟩
    rw [Nat.zero_add]
    refine Vm.boxCell hg j (hj2 j _ ?_)
    rw [List.getElem?_map, List.getElem?_eq_getElem hj]
    simp [List.getD_eq_getElem?_getD, List.getElem?_eq_getElem hj]
  · obtain ⟨gi, cur, e, g1, g2, hg, hsz, hj2⟩ := hrow (by omega)
    obtain ⟨u0, u1, u2, u3, u4, u5, x0, x1, x2, x3, x4, x5, hl⟩ := hi i hin
    refine ⟨gi, 0, u0, u1, u2, u3, u4, u5, e, ⟨g1, g2⟩, ?_, ?_, ?_, ?_, ?_, ?_, hl.on fun k hk => ⟨⟨hk.1, hk.2.1⟩, rfl⟩⟩
    all_goals rw [Nat.zero_add]
    · exact Vm.boxCell hg _ (hj2 _ _ x0)
    · exact Vm.boxCell hg _ (hj2 _ _ x1)
    · exact Vm.boxCell hg _ (hj2 _ _ x2)
    · exact Vm.boxCell hg _ (hj2 _ _ x3)
    · exact Vm.boxCell hg _ (hj2 _ _ x4)
    · exact Vm.boxCell hg _ (hj2 _ _ x5)
theorem Jr.Mem.start (w : World) (g e : Nat) (kd : Int) (hg : g < w.heap.size) : Jr.Mem w g e kd ([], []) (.slice none 0 0) (.slice none 0 0) ((((w.alloc (.cells #[.pointer (some ⟨g, 0, none⟩)] 69)).alloc (.cells #[.int .i64 (e : Int)] 3)).alloc (.cells #[.int .i64 0, .int .i64 0, .int .u64 0, .string ⟨#[]⟩, .slice none 0 0, .slice none 0 0] 29)).alloc (.cells #[.int .i64 kd, .int .i64 0, .int .u64 0, .string ⟨#[]⟩, .slice none 0 0, .slice none 0 0] 29)) := by
  have ga : ∀ (W : World) (o : Obj), W.grownBy (W.alloc o) (some g) := fun W o => World.grownBy_alloc W o _
  refine ⟨Jr.grown_trans (Jr.grown_trans (Jr.grown_trans (ga _ _) (ga _ _)) (ga _ _)) (ga _ _), hg, by simp, ?_, ?_, ?_, ?_, ⟨[], World.ownsRow_nil _ _ _ _, fun i hi => absurd hi (by simp)⟩, World.ownsRow_nil _ _ _ _⟩
  · exact (((Bs.Box.new w _ _ _ rfl).alloc _).alloc _).alloc _
  · exact ((Bs.Box.new _ _ _ _ (by simp)).alloc _).alloc _
  · exact ⟨(Vm.Has.new _ _ _ (by simp)).alloc _⟩
  · exact ⟨Vm.Has.new _ _ _ (by simp)⟩
theorem Jr.Mem.forms {w : World} {g e : Nat} {kd : Int} {s : Jr.St} {vi vk : Value} {u : World} (h : Jr.Mem w g e kd s vi vk u) : ∃ ai ci ak ck, vi = .slice ai s.2.length ci ∧ vk = .slice ak s.1.length ck := by
  obtain ⟨xs, hx, -⟩ := h.items
  obtain ⟨a, dd, e1, -⟩ := Vc.row_form hx
  obtain ⟨a2, d2, e2, -⟩ := Vc.row_form h.keys
  exact ⟨a, dd, a2, d2, e1, e2⟩
set_option maxRecDepth 100000 in
set_option maxHeartbeats 4000000 in
theorem Jr.listW (d e : Nat) (he : e ≤ 8) (g : Nat) (T : ByteArray) (hV : Jr.Val d e g T) (r : List UInt8) (w : World) (h : Jr.Rd w g T (91 :: r)) :
    Calls Tryd.prog 42 #[.pointer (some ⟨g, 0, none⟩), .int .i64 (e : Int)] w (Jr.VOut ((Jr.list (Jr.value d) false 93 r).map fun p => (Js.node 5 p.1.1 p.1.2, p.2)) w g T) := by
  have hmf : ∀ (fn : Fn) (first cap : Array Value) (w : World), (Instr.makeFunc fn first cap).run Tryd.prog w = .ok (.func fn first cap) w := fun _ _ _ _ => rfl
  have hF : ∀ u, (callFunc 55 #[.pointer (some ⟨w.heap.size + 1 + 1 + 1, 0, none⟩), .pointer (some ⟨w.heap.size, 0, none⟩), .pointer (some ⟨w.heap.size + 1, 0, none⟩)]).run Tryd.prog u = .ok (.enter 55 #[.pointer (some ⟨w.heap.size + 1 + 1 + 1, 0, none⟩), .pointer (some ⟨w.heap.size, 0, none⟩), .pointer (some ⟨w.heap.size + 1, 0, none⟩)]) u := fun u => by simp [go_sem]
  have rw1 := fun u q1 q2 => Jr.row 55 _ hF 91 93 (by decide) (Jr.part (Jr.value d) false) (fun s u => ∃ vi vk, Jr.Mem w g e 5 s vi vk u) w g T (Jr.part_nil d false) (fun s l s2 r h => Jr.part_le (Jr.value_le d) h) (fun s u ⟨vi, vk, h⟩ => h.grown) (fun s u u' ⟨vi, vk, h⟩ hb => ⟨vi, vk, h.still hb⟩) (fun s l s2 r h => Jr.part_many h) (fun s l u hn hR ⟨vi, vk, hM⟩ => Jr.listPart d e he g T hV w s l u hn hR vi vk hM) ([], []) rfl r u q1 q2
  rw [Jr.rowL_list] at rw1
  have HM0 := Lib.hid (Jr.Mem.start w g e 5 h.lt)
  have hgl := h.lt
  replace rw1 := rw1 _ (h.on ⟨HM0.out.grown.os, HM0.out.grown.tape, HM0.out.grown.output, HM0.out.grown.size, fun k hk _ => by rw [Below.heap_alloc _ _ _ (by simp; omega), Below.heap_alloc _ _ _ (by simp; omega), Below.heap_alloc _ _ _ (by simp; omega), Below.heap_alloc _ _ _ hk]⟩) ⟨_, _, HM0.out⟩
  clear HM0 h
  cases hl : Jr.list (Jr.value d) false 93 r with
  | none =>
    rw [hl] at rw1
    clear hl
    go_enter Tryd.func42, Tryd.ntmps42
    go_wp2_with fail
    refine rw1.mono ?_
    rintro e' w1 ⟨rfl, b1⟩
    exact ⟨rfl, rfl, b1⟩
  | some p =>
    obtain ⟨s, r'⟩ := p
    rw [hl] at rw1
    clear hl
    go_enter Tryd.func42, Tryd.ntmps42
    go_wp2_with fail
    refine rw1.mono ?_
    rintro e' w1 ⟨rfl, ⟨vi, vk, hM⟩, q1⟩
    obtain ⟨ai, ci, ak, ck, rfl, rfl⟩ := hM.forms
    obtain ⟨c0, c1, c2, c3, c4, c5⟩ := hM.var.cells
    obtain ⟨d0, d1, d2, d3, d4, d5⟩ := hM.res.cells
    have f0 := hM.res.has.frozen 0
    have f1 := hM.res.has.frozen 1
    have f2 := hM.res.has.frozen 2
    have f3 := hM.res.has.frozen 3
    have f4 := hM.res.has.frozen 4
    have f5 := hM.res.has.frozen 5
    have HM := Lib.hid hM
    have HR := Lib.hid q1
    clear hM q1 rw1
    go_wp2
    obtain ⟨W, hW, hX, hb⟩ := Jr.six HM.out.res (.int .i64 5) (.int .i64 0) (.int .u64 0) (.string ⟨#[]⟩) (.slice ai s.2.length ci) (.slice ak s.1.length ck)
    rw [hW]
    obtain ⟨x0, x1, x2, x3, x4, x5⟩ := hX.cells
    refine bodyPost_ret (v := .agg #[.int .i64 5, .int .i64 0, .int .u64 0, .string ⟨#[]⟩, .slice ai s.2.length ci, .slice ak s.1.length ck]) (by simp [results, Tryd.results42, go_sem, x0, x1, x2, x3, x4, x5]) rfl ?_
    have hsz : W.heap.size = w1.heap.size := by rw [← hW]; simp only [Jr.set_size]
    have hoth : ∀ k, k ≠ w.heap.size + 1 + 1 → W.heap[k]? = w1.heap[k]? := fun k hk => by rw [← hW]; exact Jr.six_other w1 (w.heap.size + 1 + 1) 0 _ _ _ _ _ _ k hk
    refine ⟨_, rfl, HM.out.tree W (fun k h1 h2 => hoth k (by omega)) (by omega), Jr.grown_more HM.out.grown hb (by omega), HR.out.below hb (by omega)⟩
end Go.Proofs.YtiajclmhimkpnaaDoor

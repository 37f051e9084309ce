/-
  THE WALK of the landed reader: record.
-/
import Derived.Test.YtiajclmhimkpnaaDoorBJRm
namespace Go.Proofs.YtiajclmhimkpnaaDoor
open Go.RowKit
set_option maxRecDepth 100000 in
set_option maxHeartbeats 4000000 in
theorem Jr.recordW (d e : Nat) (he : e ≤ 8) (g : Nat) (T : ByteArray) (hV : Jr.Val d e g T) (r : List UInt8) (w : World) (h : Jr.Rd w g T (123 :: r)) :
    Calls Tryd.prog 43 #[.pointer (some ⟨g, 0, none⟩), .int .i64 (e : Int)] w (Jr.VOut ((Jr.list (Jr.value d) true 125 r).map fun p => (Js.node 6 p.1.1 p.1.2, p.2)) w g T) := by
  have hmf : ∀ (fn : Fn) (first cap : Array Value) (w : World), (Instr.makeFunc fn first cap).run Tryd.prog w = .ok (.func fn first cap) w := fun _ _ _ _ => rfl
  have hF : ∀ u, (callFunc 56 #[.pointer (some ⟨w.heap.size, 0, none⟩), .pointer (some ⟨w.heap.size + 1 + 1 + 1, 0, none⟩), .pointer (some ⟨w.heap.size + 1, 0, none⟩)]).run Tryd.prog u = .ok (.enter 56 #[.pointer (some ⟨w.heap.size, 0, none⟩), .pointer (some ⟨w.heap.size + 1 + 1 + 1, 0, none⟩), .pointer (some ⟨w.heap.size + 1, 0, none⟩)]) u := fun u => by simp [go_sem]
  have rw1 := fun u q1 q2 => Jr.row 56 _ hF 123 125 (by decide) (Jr.part (Jr.value d) true) (fun s u => s.1.length = s.2.length ∧ ∃ vi vk, Jr.Mem w g e 6 s vi vk u) w g T (Jr.part_nil d true) (fun s l s2 r h => Jr.part_le (Jr.value_le d) h) (fun s u ⟨_, vi, vk, h⟩ => h.grown) (fun s u u' ⟨q, vi, vk, h⟩ hb => ⟨q, vi, vk, h.still hb⟩) (fun s l s2 r h => Jr.part_many h) (fun s l u hn hR ⟨q, vi, vk, hM⟩ => Jr.recPart d e he g T hV w s l u hn q hR vi vk hM) ([], []) rfl r u q1 q2
  rw [Jr.rowL_list] at rw1
  have HM0 := Lib.hid (Jr.Mem.start w g e 6 h.lt)
  have hgl := h.lt
  replace rw1 := rw1 _ (h.on ⟨HM0.out.grown.os, HM0.out.grown.tape, HM0.out.grown.output, HM0.out.grown.size, fun k hk _ => by rw [Below.heap_alloc _ _ _ (by simp; omega), Below.heap_alloc _ _ _ (by simp; omega), Below.heap_alloc _ _ _ (by simp; omega), Below.heap_alloc _ _ _ hk]⟩) ⟨rfl, _, _, HM0.out⟩
  clear HM0 h
  cases hl : Jr.list (Jr.value d) true 125 r with
  | none =>
    rw [hl] at rw1
    clear hl
    go_enter Tryd.func43, Tryd.ntmps43
    go_wp2_with fail
    refine rw1.mono ?_
    rintro e' w1 ⟨rfl, b1⟩
    exact ⟨rfl, rfl, b1⟩
  | some p =>
    obtain ⟨s, r'⟩ := p
    rw [hl] at rw1
    clear hl
    go_enter Tryd.func43, Tryd.ntmps43
    go_wp2_with fail
    refine rw1.mono ?_
    rintro e' w1 ⟨rfl, ⟨-, vi, vk, hM⟩, q1⟩
    obtain ⟨ai, ci, ak, ck, rfl, rfl⟩ := hM.forms
    obtain ⟨c0, c1, c2, c3, c4, c5⟩ := hM.var.cells
    obtain ⟨d0, d1, d2, d3, d4, d5⟩ := hM.res.cells
    have f0 := hM.res.has.frozen 0
    have f1 := hM.res.has.frozen 1
    have f2 := hM.res.has.frozen 2
    have f3 := hM.res.has.frozen 3
    have f4 := hM.res.has.frozen 4
    have f5 := hM.res.has.frozen 5
    have HM := Lib.hid hM
    have HR := Lib.hid q1
    clear hM q1 rw1
    go_wp2
    obtain ⟨W, hW, hX, hb⟩ := Jr.six HM.out.res (.int .i64 6) (.int .i64 0) (.int .u64 0) (.string ⟨#[]⟩) (.slice ai s.2.length ci) (.slice ak s.1.length ck)
    rw [hW]
    obtain ⟨x0, x1, x2, x3, x4, x5⟩ := hX.cells
    refine bodyPost_ret (v := .agg #[.int .i64 6, .int .i64 0, .int .u64 0, .string ⟨#[]⟩, .slice ai s.2.length ci, .slice ak s.1.length ck]) (by simp [results, Tryd.results43, go_sem, x0, x1, x2, x3, x4, x5]) rfl ?_
    have hsz : W.heap.size = w1.heap.size := by rw [← hW]; simp only [Jr.set_size]
    have hoth : ∀ k, k ≠ w.heap.size + 1 + 1 → W.heap[k]? = w1.heap[k]? := fun k hk => by rw [← hW]; exact Jr.six_other w1 (w.heap.size + 1 + 1) 0 _ _ _ _ _ _ k hk
    refine ⟨_, rfl, HM.out.tree W (fun k h1 h2 => hoth k (by omega)) (by omega), Jr.grown_more HM.out.grown hb (by omega), HR.out.below hb (by omega)⟩
end Go.Proofs.YtiajclmhimkpnaaDoor

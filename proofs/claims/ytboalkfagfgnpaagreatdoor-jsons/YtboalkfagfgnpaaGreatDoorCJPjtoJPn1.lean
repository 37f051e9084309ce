/-
  THE REFERENCE's list or record under way, in memory.
-/
import Derived.Test.YtboalkfagfgnpaaGreatDoorCVCounttoJPk
import Derived.Test.YtboalkfagfgnpaaGreatDoorCJRl
import Derived.Test.YtboalkfagfgnpaaGreatDoorCVPlain2toVRead
namespace Go.Proofs.YtboalkfagfgnpaaGreatDoor
open Go.RowKit
/-- a list or record that has been read so far: the reader's and the depth's box, the result's variable, the value's variable and its two rows -/
structure Jp.Mem (w : World) (g : Nat) (kd : Int) (s : Jr.St) (vi vk : Value) (u : World) : Prop where
  grown : w.grownBy u (some g)
  glt : g < w.heap.size
  size : w.heap.size + 2 ≤ u.heap.size
  res : Vm.Box u (w.heap.size + 1) (.int .i64 0) (.int .i64 0) (.int .u64 0) (.string ⟨#[]⟩) (.slice none 0 0) (.slice none 0 0)
  var : Vm.Box u (w.heap.size) (.int .i64 kd) (.int .i64 0) (.int .u64 0) (.string ⟨#[]⟩) vi vk
  items : ∃ xs, u.ownsRow (w.heap.size + 2) 26 6 vi s.2.length xs ∧ ∀ i, i < s.2.length → ∃ u0 u1 u2 u3 u4 u5, xs[i * 6]? = some u0 ∧ xs[i * 6 + 1]? = some u1 ∧ xs[i * 6 + 2]? = some u2 ∧ xs[i * 6 + 3]? = some u3 ∧ xs[i * 6 + 4]? = some u4 ∧ xs[i * 6 + 5]? = some u5 ∧ (s.2.getD i .nil).Lies u (Jr.Free (w.heap.size + 2) vi vk u) (.agg #[u0, u1, u2, u3, u4, u5])
  keys : u.ownsRow (w.heap.size + 2) 9 1 vk s.1.length (s.1.map .string)
/-- what turns none of its blocks -/
theorem Jp.Mem.still {w : World} {g : Nat} {kd : Int} {s : Jr.St} {vi vk : Value} {u u' : World} (h : Jp.Mem w g kd s vi vk u) (hb : u.grownBy u' (some g)) : Jp.Mem w g kd s vi vk u' := by
  have hg := h.glt
  have blk : ∀ k, w.heap.size ≤ k → k < u.heap.size → u'.heap[k]? = u.heap[k]? := fun k h1 h2 => hb.block k h2 (fun q => by injection q with q; omega)
  have hsz := h.size
  refine ⟨Jr.grown_trans h.grown hb, hg, Nat.le_trans hsz hb.size, ⟨(blk _ (by omega) (by omega)).trans h.res.all⟩, ⟨(blk _ (by omega) (by omega)).trans h.var.all⟩, ?_, Jr.own_kept h.keys fun k hk => blk k (by have := (h.keys.lt k hk).1; omega) (h.keys.lt k hk).2⟩
  obtain ⟨xs, ho, hi⟩ := h.items
  refine ⟨xs, Jr.own_kept ho fun k hk => blk k (by have := (ho.lt k hk).1; omega) (ho.lt k hk).2, fun i hin => ?_⟩
  obtain ⟨u0, u1, u2, u3, u4, u5, x0, x1, x2, x3, x4, x5, hl⟩ := hi i hin
  exact ⟨u0, u1, u2, u3, u4, u5, x0, x1, x2, x3, x4, x5, hl.on fun k hk => ⟨⟨hk.1, Nat.lt_of_lt_of_le hk.2.1 hb.size, hk.2.2⟩, blk k (by have := hk.1; omega) hk.2.1⟩⟩
/-- the two rows lie in two blocks -/
theorem Jp.Mem.apart {w : World} {g : Nat} {kd : Int} {s : Jr.St} {vi vk : Value} {u : World} (h : Jp.Mem w g kd s vi vk u) : ∀ k, vi.ownBlock = some k → vk.ownBlock ≠ some k := by
  intro k hk hk2
  obtain ⟨xs, ho, -⟩ := h.items
  rcases ho.2 with ⟨rfl, _⟩ | ⟨g1, cap, cur, rfl, hb1, hg1, _⟩
  · cases hk
  · rcases h.keys.2 with ⟨e, _⟩ | ⟨g2, cap2, cur2, e, hb2, hg2, _⟩
    · rw [e] at hk2; cases hk2
    · rw [e] at hk2
      simp only [Value.ownBlock, Option.some.injEq] at hk hk2
      subst hk hk2
      rw [hg1] at hg2
      injection hg2 with hg2
      injection hg2 with _ q _
      exact absurd q (by decide)
/-- one item more -/
theorem Jp.Mem.item {w : World} {g : Nat} {kd : Int} {s : Jr.St} {vi vk vi' : Value} {u u' W : World} {xs : List Value} {G cap : Nat} (h : Jp.Mem w g kd s vi vk u) (t : Vt) (v0 v1 v2 v3 v4 v5 : Value) (ht : t.Lies u (Jr.Free (w.heap.size + 2) vi vk u) (.agg #[v0, v1, v2, v3, v4, v5]))
    (hxs : u.ownsRow (w.heap.size + 2) 26 6 vi s.2.length xs) (hi : ∀ i, i < s.2.length → ∃ u0 u1 u2 u3 u4 u5, xs[i * 6]? = some u0 ∧ xs[i * 6 + 1]? = some u1 ∧ xs[i * 6 + 2]? = some u2 ∧ xs[i * 6 + 3]? = some u3 ∧ xs[i * 6 + 4]? = some u4 ∧ xs[i * 6 + 5]? = some u5 ∧ (s.2.getD i .nil).Lies u (Jr.Free (w.heap.size + 2) vi vk u) (.agg #[u0, u1, u2, u3, u4, u5]))
    (hv : vi' = .slice (some ⟨G, 0, none⟩) (s.2.length + 1) cap) (hgr : u.grownBy u' vi.ownBlock) (hf : vi'.ownBlock = vi.ownBlock ∨ vi'.ownBlock = some u.heap.size)
    (hW : W.ownsRow (w.heap.size + 2) 26 6 vi' (s.2.length + 1) (xs ++ [v0, v1, v2, v3, v4, v5])) (hbx : Vm.Box W (w.heap.size) (.int .i64 kd) (.int .i64 0) (.int .u64 0) (.string ⟨#[]⟩) vi' vk)
    (hos : W.os = u'.os) (htp : W.tape = u'.tape) (hout : W.output = u'.output) (hsz : u'.heap.size ≤ W.heap.size) (hoth : ∀ k, k < u'.heap.size → k ≠ G → k ≠ w.heap.size → W.heap[k]? = u'.heap[k]?) :
    Jp.Mem w g kd (s.1, s.2 ++ [t]) vi' vk W := by
  have hg := h.glt
  have hs4 := h.size
  have hG : w.heap.size + 2 ≤ G := (hW.lt G (by rw [hv]; rfl)).1
  have hGo : vi'.ownBlock = some G := by rw [hv]; rfl
  have hus := hgr.size
  have hlt : ∀ k, vi.ownBlock = some k → w.heap.size + 2 ≤ k := fun k hk => (hxs.lt k hk).1
  have low : ∀ k, k < u.heap.size → (k < w.heap.size + 2 ∧ k ≠ w.heap.size) → W.heap[k]? = u.heap[k]? := fun k h1 h2 => by
    rw [hoth k (by omega) (by omega) (by omega)]
    exact hgr.block k h1 (fun q => by have := hlt k q.symm; omega)
  have high : ∀ k, w.heap.size + 2 ≤ k → k < u.heap.size → vi.ownBlock ≠ some k → W.heap[k]? = u.heap[k]? := fun k h1 h2 h3 => by
    have hkG : k ≠ G := by
      rintro rfl
      rcases hf with q | q
      · exact h3 (q ▸ hGo)
      · rw [hGo] at q; injection q with q; omega
    rw [hoth k (by omega) hkG (by omega)]
    exact hgr.block k h2 (fun q => h3 q.symm)
  have free : ∀ k, Jr.Free (w.heap.size + 2) vi vk u k → Jr.Free (w.heap.size + 2) vi' vk W k ∧ W.heap[k]? = u.heap[k]? := fun k ⟨k1, k2, k3, k4⟩ => by
    refine ⟨⟨k1, by omega, fun q => ?_, k4⟩, high k k1 k2 k3⟩
    rcases hf with r | r
    · exact k3 (r ▸ q)
    · rw [r] at q; injection q with q; omega
  refine ⟨⟨?_, ?_, ?_, by have := h.grown.size; omega, fun k hk hne => ?_⟩, hg, by omega, ⟨(low _ (by omega) (by omega)).trans h.res.all⟩, hbx, ?_, Jr.own_kept h.keys fun k hk => high k (h.keys.lt k hk).1 (h.keys.lt k hk).2 (fun q => h.apart k q hk)⟩
  · rw [hos, hgr.os, h.grown.os]
  · rw [htp, hgr.tape, h.grown.tape]
  · rw [hout, hgr.output, h.grown.output]
  · rw [low k (by omega) (by omega)]
    exact h.grown.block k hk hne
  · refine ⟨xs ++ [v0, v1, v2, v3, v4, v5], by rw [List.length_append]; exact hW, fun i hin => ?_⟩
    have hlen := hxs.1
    simp only [List.length_append, List.length_cons, List.length_nil] at hin
    by_cases e : i = s.2.length
    · subst e
      have at6 : ∀ r, (xs ++ [v0, v1, v2, v3, v4, v5])[s.2.length * 6 + r]? = ([v0, v1, v2, v3, v4, v5] : List Value)[r]? := fun r => by
        rw [List.getElem?_append_right (by omega), hlen, Nat.add_sub_cancel_left]
      refine ⟨v0, v1, v2, v3, v4, v5, at6 0, at6 1, at6 2, at6 3, at6 4, at6 5, ?_⟩
      have e2 : (s.2 ++ [t]).getD s.2.length .nil = t := by simp [List.getD_eq_getElem?_getD]
      rw [e2]
      exact ht.on free
    · obtain ⟨u0, u1, u2, u3, u4, u5, y0, y1, y2, y3, y4, y5, hl⟩ := hi i (by omega)
      refine ⟨u0, u1, u2, u3, u4, u5, ?_, ?_, ?_, ?_, ?_, ?_, ?_⟩
      rotate_left 6
      · have e2 : (s.2 ++ [t]).getD i .nil = s.2.getD i .nil := by
          rw [List.getD_eq_getElem?_getD, List.getD_eq_getElem?_getD, List.getElem?_append_left (by omega)]
        rw [e2]
        exact hl.on free
      all_goals rw [List.getElem?_append_left (by omega)]
      all_goals assumption
/-- one key more -/
theorem Jp.Mem.key {w : World} {g : Nat} {kd : Int} {s : Jr.St} {vi vk vk' : Value} {u u' : World} (h : Jp.Mem w g kd s vi vk u) (b : ByteArray) (ho : u'.ownsRow (w.heap.size + 2) 9 1 vk' (s.1.length + 1) (s.1.map .string ++ [.string b])) (hgr : u.grownBy u' vk.ownBlock) (hf : vk'.ownBlock = vk.ownBlock ∨ vk'.ownBlock = some u.heap.size) :
    Jp.Mem w g kd (s.1 ++ [b], s.2) vi vk' (u'.setCell ⟨w.heap.size, 5, none⟩ vk') := by
  have hg := h.glt
  have hs4 := h.size
  have hus := hgr.size
  have hlt : ∀ k, vk.ownBlock = some k → w.heap.size + 2 ≤ k := fun k hk => (h.keys.lt k hk).1
  have oth : ∀ k, k < u.heap.size → k ≠ w.heap.size → vk.ownBlock ≠ some k → (u'.setCell ⟨w.heap.size, 5, none⟩ vk').heap[k]? = u.heap[k]? := fun k h1 h2 h3 => by
    rw [Below.heap_setCell _ _ _ _ h2]
    exact hgr.block k h1 (fun q => h3 q.symm)
  have low : ∀ k, k < u.heap.size → (k < w.heap.size + 2 ∧ k ≠ w.heap.size) → (u'.setCell ⟨w.heap.size, 5, none⟩ vk').heap[k]? = u.heap[k]? := fun k h1 h2 => oth k h1 (by omega) (fun q => by have := hlt k q; omega)
  have hsz : (u'.setCell ⟨w.heap.size, 5, none⟩ vk').heap.size = u'.heap.size := by simp [World.setCell]
  have free : ∀ k, Jr.Free (w.heap.size + 2) vi vk u k → Jr.Free (w.heap.size + 2) vi vk' (u'.setCell ⟨w.heap.size, 5, none⟩ vk') k ∧ (u'.setCell ⟨w.heap.size, 5, none⟩ vk').heap[k]? = u.heap[k]? := fun k ⟨k1, k2, k3, k4⟩ => by
    refine ⟨⟨k1, by omega, k3, fun q => ?_⟩, oth k k2 (by omega) k4⟩
    rcases hf with r | r
    · exact k4 (r ▸ q)
    · rw [r] at q; injection q with q; omega
  have hbx : Vm.Box u' (w.heap.size) (.int .i64 kd) (.int .i64 0) (.int .u64 0) (.string ⟨#[]⟩) vi vk := ⟨(hgr.block _ (by omega) (fun q => by have := hlt _ q.symm; omega)).trans h.var.all⟩
  obtain ⟨xs, hx, hi⟩ := h.items
  refine ⟨⟨?_, ?_, ?_, by have := h.grown.size; omega, fun k hk hne => ?_⟩, hg, by omega, ⟨(low _ (by omega) (by omega)).trans h.res.all⟩, ⟨Vm.setAt hbx.all 5 vk'⟩, ⟨xs, Jr.own_kept hx fun k hk => oth k (hx.lt k hk).2 (by have := (hx.lt k hk).1; omega) (h.apart k hk), fun i hin => ?_⟩, ?_⟩
  · rw [show (u'.setCell ⟨w.heap.size, 5, none⟩ vk').os = u'.os from rfl, hgr.os, h.grown.os]
  · rw [show (u'.setCell ⟨w.heap.size, 5, none⟩ vk').tape = u'.tape from rfl, hgr.tape, h.grown.tape]
  · rw [show (u'.setCell ⟨w.heap.size, 5, none⟩ vk').output = u'.output from rfl, hgr.output, h.grown.output]
  · rw [low k (by omega) (by omega)]
    exact h.grown.block k hk hne
  · obtain ⟨u0, u1, u2, u3, u4, u5, x0, x1, x2, x3, x4, x5, hl⟩ := hi i hin
    exact ⟨u0, u1, u2, u3, u4, u5, x0, x1, x2, x3, x4, x5, hl.on free⟩
  · rw [List.length_append, List.map_append]
    exact Jr.own_kept ho fun k hk => Below.heap_setCell _ _ _ _ (by have := (ho.lt k hk).1; show k ≠ w.heap.size; omega)
/-- the tree over the two rows -/
theorem Jp.Mem.tree {w : World} {g : Nat} {kd : Int} {s : Jr.St} {vi vk : Value} {u : World} (h : Jp.Mem w g kd s vi vk u) (W : World) (hW : ∀ k, w.heap.size + 2 ≤ k → k < u.heap.size → W.heap[k]? = u.heap[k]?) (hs : u.heap.size ≤ W.heap.size) :
    (Js.node kd s.1 s.2).Lies W (fun k => w.heap.size ≤ k ∧ k < W.heap.size) (.agg #[.int .i64 kd, .int .i64 0, .int .u64 0, .string ⟨#[]⟩, vi, vk]) := by
  refine Vt.Lies.on (R := fun k => w.heap.size + 2 ≤ k ∧ k < u.heap.size) (w := u) (fun k hk => ⟨⟨by have := hk.1; omega, by have := hk.2; omega⟩, hW k hk.1 hk.2⟩) ?_
  obtain ⟨xs, hx, hi⟩ := h.items
  obtain ⟨ai, ci, rfl, h1, h2, _, hrow⟩ := Vc.row_form hx
  obtain ⟨ak, ck, e2, k1, k2, _, krow⟩ := Vc.row_form h.keys
  subst e2
  refine ⟨ai, ci, ak, ck, rfl, by decide, h1, h2, ⟨k1, k2, fun j hj => ?_⟩, fun i hin => ?_⟩
  · obtain ⟨gk, cur, e, g1, g2, hg, hsz, hj2⟩ := krow (by omega)
    refine ⟨gk, 0, e, ⟨g1, g2⟩, ?_⟩
    rw [Nat.zero_add]
    refine Vm.boxCell hg j (hj2 j _ ?_)
    rw [List.getElem?_map, List.getElem?_eq_getElem hj]
    simp [List.getD_eq_getElem?_getD, List.getElem?_eq_getElem hj]
  · obtain ⟨gi, cur, e, g1, g2, hg, hsz, hj2⟩ := hrow (by omega)
    obtain ⟨u0, u1, u2, u3, u4, u5, x0, x1, x2, x3, x4, x5, hl⟩ := hi i hin
    refine ⟨gi, 0, u0, u1, u2, u3, u4, u5, e, ⟨g1, g2⟩, ?_, ?_, ?_, ?_, ?_, ?_, hl.on fun k hk => ⟨⟨hk.1, hk.2.1⟩, rfl⟩⟩
    all_goals rw [Nat.zero_add]
    · exact Vm.boxCell hg _ (hj2 _ _ x0)
    · exact Vm.boxCell hg _ (hj2 _ _ x1)
    · exact Vm.boxCell hg _ (hj2 _ _ x2)
    · exact Vm.boxCell hg _ (hj2 _ _ x3)
    · exact Vm.boxCell hg _ (hj2 _ _ x4)
    · exact Vm.boxCell hg _ (hj2 _ _ x5)
theorem Jp.Mem.forms {w : World} {g : Nat} {kd : Int} {s : Jr.St} {vi vk : Value} {u : World} (h : Jp.Mem w g kd s vi vk u) : ∃ ai ci ak ck, vi = .slice ai s.2.length ci ∧ vk = .slice ak s.1.length ck := by
  obtain ⟨xs, hx, -⟩ := h.items
  obtain ⟨a, dd, e1, -⟩ := Vc.row_form hx
  obtain ⟨a2, d2, e2, -⟩ := Vc.row_form h.keys
  exact ⟨a, dd, a2, d2, e1, e2⟩
end Go.Proofs.YtboalkfagfgnpaaGreatDoor
/-
  THE REFERENCE's list or record under way: its begin; its bad twin.
-/
namespace Go.Proofs.YtboalkfagfgnpaaGreatDoor
open Go.RowKit
theorem Jp.Mem.start (w : World) (g : Nat) (kd : Int) (hg : g < w.heap.size) : Jp.Mem w g kd ([], []) (.slice none 0 0) (.slice none 0 0) ((w.alloc (.cells #[.int .i64 kd, .int .i64 0, .int .u64 0, .string ⟨#[]⟩, .slice none 0 0, .slice none 0 0] 26)).alloc (.cells #[.int .i64 0, .int .i64 0, .int .u64 0, .string ⟨#[]⟩, .slice none 0 0, .slice none 0 0] 26)) := by
  have ga : ∀ (W : World) (o : Obj), W.grownBy (W.alloc o) (some g) := fun W o => World.grownBy_alloc W o _
  refine ⟨Jr.grown_trans (ga _ _) (ga _ _), hg, by simp, ?_, ?_, ⟨[], World.ownsRow_nil _ _ _ _, fun i hi => absurd hi (by simp)⟩, World.ownsRow_nil _ _ _ _⟩
  · exact ⟨Vm.Has.new _ _ _ (by simp)⟩
  · exact ⟨(Vm.Has.new _ _ _ rfl).alloc _⟩
/-- the same where the reader is bad: two boxes, two rows of its own, and no word on what they hold -/
structure Jp.MemB (w : World) (g : Nat) (kd : Int) (n m : Nat) (vi vk : Value) (u : World) : Prop where
  grown : w.grownBy u (some g)
  glt : g < w.heap.size
  size : w.heap.size + 2 ≤ u.heap.size
  res : Vm.Box u (w.heap.size + 1) (.int .i64 0) (.int .i64 0) (.int .u64 0) (.string ⟨#[]⟩) (.slice none 0 0) (.slice none 0 0)
  var : Vm.Box u w.heap.size (.int .i64 kd) (.int .i64 0) (.int .u64 0) (.string ⟨#[]⟩) vi vk
  items : ∃ xs, u.ownsRow (w.heap.size + 2) 26 6 vi n xs
  keys : ∃ xs, u.ownsRow (w.heap.size + 2) 9 1 vk m xs
theorem Jp.Mem.bad {w : World} {g : Nat} {kd : Int} {s : Jr.St} {vi vk : Value} {u : World} (h : Jp.Mem w g kd s vi vk u) : Jp.MemB w g kd s.2.length s.1.length vi vk u := by
  obtain ⟨xs, hx, -⟩ := h.items
  exact ⟨h.grown, h.glt, h.size, h.res, h.var, ⟨xs, hx⟩, ⟨_, h.keys⟩⟩
theorem Jp.MemB.still {w : World} {g : Nat} {kd : Int} {n m : Nat} {vi vk : Value} {u u' : World} (h : Jp.MemB w g kd n m vi vk u) (hb : u.grownBy u' (some g)) : Jp.MemB w g kd n m vi vk u' := by
  have hg := h.glt
  have hsz := h.size
  have blk : ∀ k, w.heap.size ≤ k → k < u.heap.size → u'.heap[k]? = u.heap[k]? := fun k h1 h2 => hb.block k h2 (fun q => by injection q with q; omega)
  obtain ⟨xs, hx⟩ := h.items
  obtain ⟨ys, hy⟩ := h.keys
  exact ⟨Jr.grown_trans h.grown hb, hg, Nat.le_trans hsz hb.size, ⟨(blk _ (by omega) (by omega)).trans h.res.all⟩, ⟨(blk _ (by omega) (by omega)).trans h.var.all⟩, ⟨xs, Jr.own_kept hx fun k hk => blk k (by have := (hx.lt k hk).1; omega) (hx.lt k hk).2⟩, ⟨ys, Jr.own_kept hy fun k hk => blk k (by have := (hy.lt k hk).1; omega) (hy.lt k hk).2⟩⟩
theorem Jp.MemB.forms {w : World} {g : Nat} {kd : Int} {n m : Nat} {vi vk : Value} {u : World} (h : Jp.MemB w g kd n m vi vk u) : ∃ ai ci ak ck, vi = .slice ai n ci ∧ vk = .slice ak m ck := by
  obtain ⟨xs, hx⟩ := h.items
  obtain ⟨ys, hy⟩ := h.keys
  obtain ⟨a, dd, e1, -⟩ := Vc.row_form hx
  obtain ⟨a2, d2, e2, -⟩ := Vc.row_form hy
  exact ⟨a, dd, a2, d2, e1, e2⟩
set_option maxRecDepth 100000 in
set_option maxHeartbeats 4000000 in
/-- an end at once -/
theorem Jp.listEmpty (l r : List UInt8) (kd : Int) (en : UInt8) (d : Int) (g : Nat) (T : ByteArray) (hi : Js.is en l = some r) (w : World) (h : Jp.Rd w g T l false) :
    Calls Tryz.prog 53 #[.pointer (some ⟨g, 0, none⟩), .agg #[.int .i64 kd, .int .i64 0, .int .u64 0, .string ⟨#[]⟩, .slice none 0 0, .slice none 0 0], .int .u8 (en.toNat : Int), .int .i64 d] w (Jp.VOut (some (Js.node kd [] [], r)) w g T) := by
  have hgw := h.lt
  have HM := Lib.hid (Jp.Mem.start w g kd hgw)
  have is1 := Jp.is en l false g T ((w.alloc (.cells #[.int .i64 kd, .int .i64 0, .int .u64 0, .string ⟨#[]⟩, .slice none 0 0, .slice none 0 0] 26)).alloc (.cells #[.int .i64 0, .int .i64 0, .int .u64 0, .string ⟨#[]⟩, .slice none 0 0, .slice none 0 0] 26)) ((h.on (Jp.grown_alloc _ _ _)).on (Jp.grown_alloc _ _ _))
  rw [hi] at is1
  clear h hi
  generalize (en.toNat : Int) = EN at *
  go_enter Tryz.func53, Tryz.ntmps53
  go_wp2_with (go_at_call 77; refine is1.mono ?_; rintro e w1 ⟨rfl, b1, q1⟩; have HM1 := Lib.hid (HM.out.still b1); have HR1 := Lib.hid q1; obtain ⟨y0, y1, y2, y3, y4, y5⟩ := HM1.out.var.cells; obtain ⟨u0, u1, u2, u3, u4, u5⟩ := HM1.out.res.cells; have z0 := HM1.out.res.has.frozen 0; have z1 := HM1.out.res.has.frozen 1; have z2 := HM1.out.res.has.frozen 2; have z3 := HM1.out.res.has.frozen 3; have z4 := HM1.out.res.has.frozen 4; have z5 := HM1.out.res.has.frozen 5; clear b1 q1 is1)
  obtain ⟨W, hW, hX, hb6⟩ := Jr.six HM1.out.res (.int .i64 kd) (.int .i64 0) (.int .u64 0) (.string ⟨#[]⟩) (.slice none 0 0) (.slice none 0 0)
  rw [hW]
  obtain ⟨x0, x1, x2, x3, x4, x5⟩ := hX.cells
  refine bodyPost_ret (v := .agg #[.int .i64 kd, .int .i64 0, .int .u64 0, .string ⟨#[]⟩, .slice none 0 0, .slice none 0 0]) (by simp [results, Tryz.results53, go_sem, x0, x1, x2, x3, x4, x5]) rfl ?_
  have hoth : ∀ q, q ≠ w.heap.size + 1 → W.heap[q]? = w1.heap[q]? := fun q hq => by rw [← hW]; exact Jr.six_other w1 (w.heap.size + 1) 0 _ _ _ _ _ _ q hq
  have hsz : W.heap.size = w1.heap.size := by rw [← hW]; simp only [Jr.set_size]
  exact ⟨Jr.grown_more HM1.out.grown hb6 (by omega), kd, 0, 0, ⟨#[]⟩, none, 0, 0, none, 0, 0, rfl, .inl ⟨_, r, rfl, HR1.out.below hb6 (by omega), HM1.out.tree W (fun q h1 h2 => hoth q (by omega)) (by omega)⟩⟩
end Go.Proofs.YtboalkfagfgnpaaGreatDoor
/-
  THE REFERENCE's list under way: what a statement of it needs.
-/
namespace Go.Proofs.YtboalkfagfgnpaaGreatDoor
open Go.RowKit
/-- 'append(row, x)' of one element at a step of a region that draws -/
theorem Jp.stepA {w : World} {ops : Array Oper} {o : Oper} {a : Act} {K : Act → World → Prop} {E : Prop} {Z : Exit → Act → World → Prop} (hgd : o.guard = none) (t e : TypeId) (z : Value) (size bytes : Nat) (ht : Tryz.prog.underlying t = some (.slice e)) (hinfo : (Tryz.prog.info? e).map (fun i => (i.zero, i.size, i.bytes)) = some (some z, size, bytes)) (hsz : 0 < size) (hz : z.cells.size = size) (s x : Operand)
    (ho : o.op = .call { callee := .builtin .append, args := #[s, x], argTypes := #[t, t] })
    {base n : Nat} {xs : List Value} (v : Value) (hs : a.eval s = v) (hown : w.ownsRow base e size v n xs) (g1 : Nat) (news : List Value) (hx : a.eval x = .slice (some ⟨g1, 0, none⟩) 1 1) (hl : news.length = size)
    (hnews : ∀ j u, news[j]? = some u → w.cell? ((⟨g1, 0, none⟩ : Addr).add j) = some u) (hone : ∀ u ∈ news, u.oneCell' = true) (hn : (n + 1) * bytes ≤ 140737488355328) (h63 : n + 1 ≤ maxLen) (hbase : base ≤ w.heap.size)
    (h : ∀ v' w', w'.ownsRow base e size v' (n + 1) (xs ++ news) → w.grownBy w' v.ownBlock → (v'.ownBlock = v.ownBlock ∨ v'.ownBlock = some w.heap.size) → K (a.put o.dst v') w') : if Region.wanted o (yielded ops a.tmps) = true then Oper.wp Tryz.prog o a w K Z else E := by
  rw [if_pos (by simp [Region.wanted, hgd])]
  exact Jr.wp_app t e z size bytes ht hinfo hsz hz s x ho v hs hown g1 news hx hl hnews hone hn h63 hbase h
theorem Jp.infoS : (Tryz.prog.info? 9).map (fun i => (i.zero, i.size, i.bytes)) = some (some (.string ⟨#[]⟩), 1, 16) := Vc.infoS
theorem Jp.infoV : (Tryz.prog.info? 26).map (fun i => (i.zero, i.size, i.bytes)) = some (some (.agg #[.int .i64 0, .int .i64 0, .int .u64 0, .string ⟨#[]⟩, .slice none 0 0, .slice none 0 0]), 6, 88) := by kernel_rfl
/-- one key more, whatever it is -/
theorem Jp.MemB.key {w : World} {g : Nat} {kd : Int} {n m : Nat} {vi vk vk' : Value} {u u' : World} {ys zs : List Value} (h : Jp.MemB w g kd n m vi vk u) (hy : u.ownsRow (w.heap.size + 2) 9 1 vk m ys) (ho : u'.ownsRow (w.heap.size + 2) 9 1 vk' (m + 1) zs) (hgr : u.grownBy u' vk.ownBlock) : Jp.MemB w g kd n (m + 1) vi vk' (u'.setCell ⟨w.heap.size, 5, none⟩ vk') := by
  have hg := h.glt
  have hs := h.size
  have hus := hgr.size
  have hlt : ∀ k, vk.ownBlock = some k → w.heap.size + 2 ≤ k := fun k hk => (hy.lt k hk).1
  have low : ∀ k, k < u.heap.size → k < w.heap.size + 2 → u'.heap[k]? = u.heap[k]? := fun k h1 h2 => hgr.block k h1 (fun q => by have := hlt k q.symm; omega)
  have hsz : (u'.setCell ⟨w.heap.size, 5, none⟩ vk').heap.size = u'.heap.size := by simp [World.setCell]
  obtain ⟨xs, hx⟩ := h.items
  have hap : ∀ k, vi.ownBlock = some k → vk.ownBlock ≠ some k := by
    intro k hk hk2
    rcases hx.2 with ⟨rfl, _⟩ | ⟨g1, cap, cur, rfl, hb1, hg1, _⟩
    · cases hk
    · rcases hy.2 with ⟨e, _⟩ | ⟨g2, cap2, cur2, e, hb2, hg2, _⟩
      · rw [e] at hk2; cases hk2
      · rw [e] at hk2
        simp only [Value.ownBlock, Option.some.injEq] at hk hk2
        subst hk hk2
        rw [hg1] at hg2
        injection hg2 with hg2
        injection hg2 with _ q _
        exact absurd q (by decide)
  refine ⟨⟨?_, ?_, ?_, by have := h.grown.size; omega, fun k hk hne => ?_⟩, hg, by omega, ⟨(Below.heap_setCell _ _ _ _ (by simp)).trans ((low _ (by omega) (by omega)).trans h.res.all)⟩, ⟨Vm.setAt ((low _ (by omega) (by omega)).trans h.var.all) 5 vk'⟩, ⟨xs, Jr.own_kept hx fun k hk => ?_⟩, ⟨zs, Jr.own_kept ho fun k hk => Below.heap_setCell _ _ _ _ (by have := (ho.lt k hk).1; show k ≠ w.heap.size; omega)⟩⟩
  · rw [show (u'.setCell ⟨w.heap.size, 5, none⟩ vk').os = u'.os from rfl, hgr.os, h.grown.os]
  · rw [show (u'.setCell ⟨w.heap.size, 5, none⟩ vk').tape = u'.tape from rfl, hgr.tape, h.grown.tape]
  · rw [show (u'.setCell ⟨w.heap.size, 5, none⟩ vk').output = u'.output from rfl, hgr.output, h.grown.output]
  · rw [Below.heap_setCell _ _ _ _ (show k ≠ w.heap.size by omega), low k (by omega) (by omega)]
    exact h.grown.block k hk hne
  · rw [Below.heap_setCell _ _ _ _ (by have := (hx.lt k hk).1; show k ≠ w.heap.size; omega)]
    exact hgr.block k (hx.lt k hk).2 (fun q => hap k hk q.symm)
/-- one item more, whatever it is -/
theorem Jp.MemB.item {w : World} {g : Nat} {kd : Int} {n m : Nat} {vi vk vi' : Value} {u u' : World} {ys zs : List Value} (h : Jp.MemB w g kd n m vi vk u) (hx : u.ownsRow (w.heap.size + 2) 26 6 vi n ys) (ho : u'.ownsRow (w.heap.size + 2) 26 6 vi' (n + 1) zs) (hgr : u.grownBy u' vi.ownBlock) : Jp.MemB w g kd (n + 1) m vi' vk (u'.setCell ⟨w.heap.size, 4, none⟩ vi') := by
  have hg := h.glt
  have hs := h.size
  have hus := hgr.size
  have hlt : ∀ k, vi.ownBlock = some k → w.heap.size + 2 ≤ k := fun k hk => (hx.lt k hk).1
  have low : ∀ k, k < u.heap.size → k < w.heap.size + 2 → u'.heap[k]? = u.heap[k]? := fun k h1 h2 => hgr.block k h1 (fun q => by have := hlt k q.symm; omega)
  have hsz : (u'.setCell ⟨w.heap.size, 4, none⟩ vi').heap.size = u'.heap.size := by simp [World.setCell]
  obtain ⟨xs, hy⟩ := h.keys
  have hap : ∀ k, vi.ownBlock = some k → vk.ownBlock ≠ some k := by
    intro k hk hk2
    rcases hx.2 with ⟨rfl, _⟩ | ⟨g1, cap, cur, rfl, hb1, hg1, _⟩
    · cases hk
    · rcases hy.2 with ⟨e, _⟩ | ⟨g2, cap2, cur2, e, hb2, hg2, _⟩
      · rw [e] at hk2; cases hk2
      · rw [e] at hk2
        simp only [Value.ownBlock, Option.some.injEq] at hk hk2
        subst hk hk2
        rw [hg1] at hg2
        injection hg2 with hg2
        injection hg2 with _ q _
        exact absurd q (by decide)
  refine ⟨⟨?_, ?_, ?_, by have := h.grown.size; omega, fun k hk hne => ?_⟩, hg, by omega, ⟨(Below.heap_setCell _ _ _ _ (by simp)).trans ((low _ (by omega) (by omega)).trans h.res.all)⟩, ⟨Vm.setAt ((low _ (by omega) (by omega)).trans h.var.all) 4 vi'⟩, ⟨zs, Jr.own_kept ho fun k hk => Below.heap_setCell _ _ _ _ (by have := (ho.lt k hk).1; show k ≠ w.heap.size; omega)⟩, ⟨xs, Jr.own_kept hy fun k hk => ?_⟩⟩
  · rw [show (u'.setCell ⟨w.heap.size, 4, none⟩ vi').os = u'.os from rfl, hgr.os, h.grown.os]
  · rw [show (u'.setCell ⟨w.heap.size, 4, none⟩ vi').tape = u'.tape from rfl, hgr.tape, h.grown.tape]
  · rw [show (u'.setCell ⟨w.heap.size, 4, none⟩ vi').output = u'.output from rfl, hgr.output, h.grown.output]
  · rw [Below.heap_setCell _ _ _ _ (show k ≠ w.heap.size by omega), low k (by omega) (by omega)]
    exact h.grown.block k hk hne
  · rw [Below.heap_setCell _ _ _ _ (by have := (hy.lt k hk).1; show k ≠ w.heap.size; omega)]
    exact hgr.block k (hy.lt k hk).2 (fun q => hap k q.symm hk)
end Go.Proofs.YtboalkfagfgnpaaGreatDoor
/-
  PLAIN: the reference's list, round by round.
-/
namespace Go.Proofs.YtboalkfagfgnpaaGreatDoor
open Go.RowKit
/-- what is left to be read where a round begins -/
def Jp.hd (val : List UInt8 → Option (Vt × List UInt8)) (rec : Bool) (en : UInt8) (kd : Int) (s : Jr.St) (l : List UInt8) : Option (Vt × List UInt8) :=
  (Js.itemsF val rec en (l.length + 1) l).map fun p => (Js.node kd (s.1 ++ p.1.1) (s.2 ++ p.1.2), p.2)
/-- and behind an item -/
def Jp.tl (val : List UInt8 → Option (Vt × List UInt8)) (rec : Bool) (en : UInt8) (kd : Int) (s : Jr.St) (r2 : List UInt8) : Option (Vt × List UInt8) :=
  match Js.is en r2 with
  | some r3 => some (Js.node kd s.1 s.2, r3)
  | none => match Js.is 44 r2 with
    | none => none
    | some r3 => Jp.hd val rec en kd s r3
/-- and behind a key -/
def Jp.md (val : List UInt8 → Option (Vt × List UInt8)) (rec : Bool) (en : UInt8) (kd : Int) (s : Jr.St) (r1 : List UInt8) : Option (Vt × List UInt8) :=
  match val r1 with
  | none => none
  | some (t, r2) => Jp.tl val rec en kd (s.1, s.2 ++ [t]) r2
theorem Jp.hd_eq {val : List UInt8 → Option (Vt × List UInt8)} (hv : ∀ l t r, val l = some (t, r) → r.length < l.length) (rec : Bool) (en : UInt8) (kd : Int) (s : Jr.St) (l : List UInt8) :
    Jp.hd val rec en kd s l = match Js.key rec l with | none => none | some (ks, r1) => Jp.md val rec en kd (s.1 ++ ks, s.2) r1 := by
  unfold Jp.hd
  rw [Js.itemsF]
  cases hk : Js.key rec l with
  | none => rfl
  | some q =>
    obtain ⟨ks, r1⟩ := q
    simp only
    unfold Jp.md
    cases ht : val r1 with
    | none => rfl
    | some q =>
      obtain ⟨t, r2⟩ := q
      simp only
      unfold Jp.tl
      cases hi : Js.is en r2 with
      | some r3 => rfl
      | none =>
        simp only
        cases hc : Js.is 44 r2 with
        | none => rfl
        | some r3 =>
          simp only
          have h1 := (Js.key_len hk).1
          have h2 := hv _ _ _ ht
          have h3 := Js.is_len hc
          unfold Jp.hd
          rw [Js.itemsF_fuel hv rec en l.length (r3.length + 1) r3 (by omega) (by omega)]
          cases Js.itemsF val rec en (r3.length + 1) r3 <;> simp
theorem Jp.hd_wide {val : List UInt8 → Option (Vt × List UInt8)} (_hv : ∀ l t r, val l = some (t, r) → r.length < l.length) {rec : Bool} {en : UInt8} {kd : Int} {s : Jr.St} {l : List UInt8} (hs : 64 < s.2.length) : ∀ t r, Jp.hd val rec en kd s l = some (t, r) → Js.wide t := by
  intro t r h
  unfold Jp.hd at h
  obtain ⟨⟨p, q⟩, hp, e⟩ := Option.map_eq_some_iff.1 h
  simp only [Prod.mk.injEq] at e
  rw [← e.1]
  exact .inl (by rw [List.length_append]; omega)
/-- the list, where no end stands at once -/
theorem Jp.list_hd {val : List UInt8 → Option (Vt × List UInt8)} (hv : ∀ l t r, val l = some (t, r) → r.length < l.length) {rec : Bool} {en : UInt8} (kd : Int) {l : List UInt8} (hi : Js.is en l = none) : (Js.list val rec en l).map (fun p => (Js.node kd p.1.1 p.1.2, p.2)) = Jp.hd val rec en kd ([], []) l := by
  unfold Js.list Jp.hd
  rw [hi]
  simp only [List.nil_append]
  rw [Js.itemsF_fuel hv rec en l.length (l.length + 1) l (by omega) (by omega)]
theorem Jp.key_ws_rec (l : List UInt8) : Js.key true (Js.ws l) = Js.key true l := by
  unfold Js.key
  rw [Jr.is_ws, if_pos rfl, if_pos rfl]
/-- blanks at a round's begin -/
theorem Jp.hd_ws {val : List UInt8 → Option (Vt × List UInt8)} (hv : ∀ l t r, val l = some (t, r) → r.length < l.length) (hw : ∀ l, val (Js.ws l) = val l) (rec : Bool) (en : UInt8) (kd : Int) (s : Jr.St) (l : List UInt8) : Jp.hd val rec en kd s (Js.ws l) = Jp.hd val rec en kd s l := by
  rw [Jp.hd_eq hv, Jp.hd_eq hv]
  cases rec with
  | true => rw [Jp.key_ws_rec]
  | false =>
    show Jp.md val false en kd (s.1 ++ [], s.2) (Js.ws l) = Jp.md val false en kd (s.1 ++ [], s.2) l
    unfold Jp.md
    rw [hw]
end Go.Proofs.YtboalkfagfgnpaaGreatDoor
/-
  PLAIN: the reference's list where an item is wide; what a cut in its round says.
-/
namespace Go.Proofs.YtboalkfagfgnpaaGreatDoor
open Go.RowKit
theorem Jp.node_wide {kd : Int} {ks : List ByteArray} {L : List Vt} {t : Vt} (ht : t ∈ L) (hw : Js.wide t) : Js.wide (Js.node kd ks L) := by
  obtain ⟨i, hi, e⟩ := List.getElem_of_mem ht
  refine .inr ⟨i, hi, ?_⟩
  show Js.wide (L.getD i .nil)
  rw [List.getD_eq_getElem?_getD, List.getElem?_eq_getElem hi, Option.getD_some, e]
  exact hw
theorem Jp.hd_item {val : List UInt8 → Option (Vt × List UInt8)} {rec : Bool} {en : UInt8} {kd : Int} {s : Jr.St} {l : List UInt8} {x : Vt} (hx : x ∈ s.2) (hw : Js.wide x) : ∀ t r, Jp.hd val rec en kd s l = some (t, r) → Js.wide t := by
  intro t r h
  unfold Jp.hd at h
  obtain ⟨⟨p, q⟩, hp, e⟩ := Option.map_eq_some_iff.1 h
  simp only [Prod.mk.injEq] at e
  rw [← e.1]
  exact Jp.node_wide (List.mem_append_left _ hx) hw
theorem Jp.tl_item {val : List UInt8 → Option (Vt × List UInt8)} {rec : Bool} {en : UInt8} {kd : Int} {s : Jr.St} {l : List UInt8} {x : Vt} (hx : x ∈ s.2) (hw : Js.wide x) : ∀ t r, Jp.tl val rec en kd s l = some (t, r) → Js.wide t := by
  intro t r h
  unfold Jp.tl at h
  split at h
  · simp only [Option.some.injEq, Prod.mk.injEq] at h
    rw [← h.1]
    exact Jp.node_wide hx hw
  · split at h
    · cases h
    · exact Jp.hd_item hx hw t r h
theorem Jp.md_wide {val : List UInt8 → Option (Vt × List UInt8)} {rec : Bool} {en : UInt8} {kd : Int} {s : Jr.St} {l : List UInt8} (hv : ∀ t r, val l = some (t, r) → Js.wide t) : ∀ t r, Jp.md val rec en kd s l = some (t, r) → Js.wide t := by
  intro t r h
  unfold Jp.md at h
  split at h
  · cases h
  · rename_i x r2 hx
    exact Jp.tl_item (List.mem_append_right _ (List.mem_singleton.2 rfl)) (hv x r2 hx) t r h
/-- a list or record under way: good, and what is left to be read is X; or bad -/
def Jp.At (w : World) (g : Nat) (T : ByteArray) (kd : Int) (O : Option (Vt × List UInt8)) (X : Jr.St → List UInt8 → Option (Vt × List UInt8)) (a b M : Nat) (u : World) : Prop :=
  (∃ s l vi vk, Jp.Mem w g kd s vi vk u ∧ Jp.Rd u g T l false ∧ O = X s l ∧ s.2.length ≤ a ∧ s.1.length ≤ s.2.length + b ∧ l.length < M) ∨
  (∃ n m vi vk r, Jp.MemB w g kd n m vi vk u ∧ Jp.Rd u g T r true ∧ (∀ t r, O = some (t, r) → Js.wide t) ∧ n ≤ a ∧ m ≤ 100)
/-- a return of what has been read where the reader is bad -/
theorem Jp.badRet {w u W : World} {g : Nat} {T : ByteArray} {kd : Int} {O : Option (Vt × List UInt8)} {n m : Nat} {ai ak : Option Addr} {ci ck : Nat} {r : List UInt8} (h : Jp.MemB w g kd n m (.slice ai n ci) (.slice ak m ck) u) (hr : Jp.Rd u g T r true) (hO : ∀ t r, O = some (t, r) → Js.wide t) (hW : Below (w.heap.size + 1) u W) :
    Jp.VOut O w g T (.returned (.agg #[.int .i64 kd, .int .i64 0, .int .u64 ((0 : Nat) : Int), .string ⟨#[]⟩, .slice ai n ci, .slice ak m ck])) W :=
  ⟨Jr.grown_more h.grown hW (by omega), kd, 0, 0, ⟨#[]⟩, ai, n, ci, ak, m, ck, rfl, .inr ⟨hO, r, hr.below hW (by have := h.glt; omega)⟩⟩
end Go.Proofs.YtboalkfagfgnpaaGreatDoor

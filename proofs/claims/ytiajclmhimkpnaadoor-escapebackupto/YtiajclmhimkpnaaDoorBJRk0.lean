/-
  THE LANDED READER's list in memory: one item more.
-/
import Derived.Test.YtiajclmhimkpnaaDoorBVRowtoJRj
import Derived.Deep.RegionHeldLaw
namespace Go.Proofs.YtiajclmhimkpnaaDoor
open Go.RowKit
def Jr.VOut (o : Option (Vt × List UInt8)) (u : World) (g : Nat) (T : ByteArray) (e : Ending) (u' : World) : Prop :=
  match o with
  | none => e = .panicked Jr.fault ∧ u.grownBy u' (some g)
  | some (t, r) => ∃ v, e = .returned v ∧ t.Lies u' (fun k => u.heap.size ≤ k ∧ k < u'.heap.size) v ∧ u.grownBy u' (some g) ∧ Jr.Rd u' g T r
def Jr.Val (d e : Nat) (g : Nat) (T : ByteArray) : Prop := ∀ l u, Jr.Rd u g T l → Calls Tryd.prog 31 #[.pointer (some ⟨g, 0, none⟩), .int .i64 ((e : Int) + 1)] u (Jr.VOut (Jr.value d l) u g T)
theorem Jr.Mem.newTree {w : World} {g e : Nat} {kd : Int} {s : Jr.St} {vi vk : Value} {u u' : World} (h : Jr.Mem w g e kd s vi vk u) {t : Vt} {v : Value} (hl : t.Lies u' (fun k => u.heap.size ≤ k ∧ k < u'.heap.size) v) : t.Lies u' (Jr.Free (w.heap.size + 4) vi vk u') v := by
  obtain ⟨xs, hx, -⟩ := h.items
  exact hl.on fun k hk => ⟨⟨Nat.le_trans h.size hk.1, hk.2, fun q => by have := (hx.lt k q).2; omega, fun q => by have := (h.keys.lt k q).2; omega⟩, rfl⟩
theorem Jr.freeAlloc {base : Nat} {vi vk : Value} {u : World} {t : Vt} {v : Value} (h : t.Lies u (Jr.Free base vi vk u) v) (o : Obj) : t.Lies (u.alloc o) (Jr.Free base vi vk (u.alloc o)) v :=
  h.on fun k hk => ⟨⟨hk.1, Nat.lt_of_lt_of_le hk.2.1 (by simp), hk.2.2⟩, Below.heap_alloc _ _ _ hk.2.1⟩
theorem Jr.hasG {u u' : World} {g1 g : Nat} {o : Obj} (h : Vm.Has u g1 o) (hb : u.grownBy u' (some g)) (hg : g1 ≠ g) : Vm.Has u' g1 o := (hb.block g1 h.lt (fun q => hg (by injection q))).trans h
theorem Jr.zero_cells {u : World} {g1 : Nat} (h : Vm.Has u g1 (.cells #[.int .i64 0, .int .i64 0, .int .u64 0, .string ⟨#[]⟩, .slice none 0 0, .slice none 0 0] 29)) : ∀ (j : Nat) (x : Value), ([.int .i64 0, .int .i64 0, .int .u64 0, .string ⟨#[]⟩, .slice none 0 0, .slice none 0 0] : List Value)[j]? = some x → u.cell? ((⟨g1, 0, none⟩ : Addr).add j) = some x := by
  intro j x hj
  rw [Vc.add, Nat.zero_add]
  refine h.cell j ?_
  rw [← hj]
  simp
theorem Jr.zero_one : ∀ x ∈ ([.int .i64 0, .int .i64 0, .int .u64 0, .string ⟨#[]⟩, .slice none 0 0, .slice none 0 0] : List Value), x.oneCell' = true := by
  intro x hx
  simp only [List.mem_cons, List.not_mem_nil, or_false] at hx
  rcases hx with rfl | rfl | rfl | rfl | rfl | rfl <;> rfl
/-- the new place at the row's end -/
theorem Jr.new_cells {u : World} {base n : Nat} {v : Value} {xs : List Value} {z0 z1 z2 z3 z4 z5 : Value} (hl : xs.length = n * 6) (h : u.ownsRow base 29 6 v (n + 1) (xs ++ [z0, z1, z2, z3, z4, z5])) :
    ∃ G cap, v = .slice (some ⟨G, 0, none⟩) (n + 1) cap ∧ base ≤ G ∧ u.cell? ⟨G, n * 6, none⟩ = some z0 ∧ u.cell? ⟨G, n * 6 + 1, none⟩ = some z1 ∧ u.cell? ⟨G, n * 6 + 2, none⟩ = some z2 ∧ u.cell? ⟨G, n * 6 + 3, none⟩ = some z3 ∧ u.cell? ⟨G, n * 6 + 4, none⟩ = some z4 ∧ u.cell? ⟨G, n * 6 + 5, none⟩ = some z5 ∧ ∀ j, u.frozen? ⟨G, j, none⟩ = false := by
  obtain ⟨a, dd, rfl, h1, h2, h3, h4⟩ := Vc.row_form h
  obtain ⟨G, cur, rfl, hb, hlt, hg, hc, hj⟩ := h4 (by omega)
  have at6 : ∀ r, (xs ++ [z0, z1, z2, z3, z4, z5])[n * 6 + r]? = ([z0, z1, z2, z3, z4, z5] : List Value)[r]? := fun r => by
    rw [List.getElem?_append_right (by omega), hl, Nat.add_sub_cancel_left]
  exact ⟨G, dd, rfl, hb, Vm.boxCell hg _ (hj _ _ (at6 0)), Vm.boxCell hg _ (hj _ _ (at6 1)), Vm.boxCell hg _ (hj _ _ (at6 2)), Vm.boxCell hg _ (hj _ _ (at6 3)), Vm.boxCell hg _ (hj _ _ (at6 4)), Vm.boxCell hg _ (hj _ _ (at6 5)), fun j => Vc.row_frozen hg j⟩
theorem Jr.Mem.under {w : World} {g e : Nat} {kd : Int} {s : Jr.St} {vi vk : Value} {u u' : World} {n : Nat} {xs : List Value} {row : Value} {ty : TypeId} {sz : Nat} (h : Jr.Mem w g e kd s vi vk u) (hx : u.ownsRow (w.heap.size + 4) ty sz row n xs) (hgr : u.grownBy u' row.ownBlock) (k : Nat) (hk : k < w.heap.size + 4) : u'.heap[k]? = u.heap[k]? :=
  hgr.block k (by have := h.size; omega) (fun q => by have := (hx.lt k q.symm).1; omega)
theorem Jr.Mem.box4 {w : World} {g e : Nat} {kd : Int} {s : Jr.St} {vi vk : Value} {u u' : World} {n : Nat} {xs : List Value} {row : Value} {ty : TypeId} {sz : Nat} (h : Jr.Mem w g e kd s vi vk u) (hx : u.ownsRow (w.heap.size + 4) ty sz row n xs) (hgr : u.grownBy u' row.ownBlock) : Vm.Box u' (w.heap.size + 1 + 1 + 1) (.int .i64 kd) (.int .i64 0) (.int .u64 0) (.string ⟨#[]⟩) vi vk := ⟨(h.under hx hgr _ (by omega)).trans h.var.all⟩
theorem Jr.Mem.low4 {w : World} {g e : Nat} {kd : Int} {s : Jr.St} {vi vk : Value} {u u' : World} {n : Nat} {xs : List Value} {row : Value} {ty : TypeId} {sz : Nat} (h : Jr.Mem w g e kd s vi vk u) (hx : u.ownsRow (w.heap.size + 4) ty sz row n xs) (hgr : u.grownBy u' row.ownBlock) : u'.cell? ⟨w.heap.size, 0, none⟩ = some (.pointer (some ⟨g, 0, none⟩)) ∧ u'.cell? ⟨w.heap.size + 1, 0, none⟩ = some (.int .i64 (e : Int)) :=
  ⟨Bs.Box.cell ((h.under hx hgr _ (by omega)).trans h.rp) 0 rfl, Bs.Box.cell ((h.under hx hgr _ (by omega)).trans h.dp) 0 rfl⟩
theorem Jr.share {P F : World → Nat → Int → Int → Nat → ByteArray → Option Addr → Nat → Nat → Option Addr → Nat → Nat → Prop} {G : Prop} (h1 : (∀ x g1 k3 x3 y3 s3 ai3 n3 c3 ak3 m3 d3, F x g1 k3 x3 y3 s3 ai3 n3 c3 ak3 m3 d3 → P x g1 k3 x3 y3 s3 ai3 n3 c3 ak3 m3 d3) → G) (h2 : ∀ x g1 k3 x3 y3 s3 ai3 n3 c3 ak3 m3 d3, F x g1 k3 x3 y3 s3 ai3 n3 c3 ak3 m3 d3 → P x g1 k3 x3 y3 s3 ai3 n3 c3 ak3 m3 d3) : G := h1 h2
theorem Jr.listed {P : Program} {md : Region.Mode} {ops : Array Oper} {Q : Exit → Act → World → Prop} {S : World → Prop} {fuel : Nat} {l L : Array Bool} {a : Act} {w : World} (h : l = L) (k : wpAnyH P md ops Q S fuel L a w) : wpAnyH P md ops Q S fuel l a w := h ▸ k
theorem Jr.frozen_set (w : World) (p : Addr) (v : Value) (a : Addr) : (w.setCell p v).frozen? a = w.frozen? a := by simp
theorem Jr.set_os (w : World) (a : Addr) (v : Value) : (w.setCell a v).os = w.os := rfl
theorem Jr.set_tape (w : World) (a : Addr) (v : Value) : (w.setCell a v).tape = w.tape := rfl
theorem Jr.set_output (w : World) (a : Addr) (v : Value) : (w.setCell a v).output = w.output := rfl
theorem Jr.set_size (w : World) (a : Addr) (v : Value) : (w.setCell a v).heap.size = w.heap.size := by simp [World.setCell]
/-- six stores turn one block -/
theorem Jr.six_other (w : World) (G o : Nat) (v0 v1 v2 v3 v4 v5 : Value) (k : Nat) (hk : k ≠ G) : ((((((w.setCell ⟨G, o, none⟩ v0).setCell ⟨G, o + 1, none⟩ v1).setCell ⟨G, o + 2, none⟩ v2).setCell ⟨G, o + 3, none⟩ v3).setCell ⟨G, o + 4, none⟩ v4).setCell ⟨G, o + 5, none⟩ v5).heap[k]? = w.heap[k]? := by
  rw [Below.heap_setCell _ _ _ _ hk, Below.heap_setCell _ _ _ _ hk, Below.heap_setCell _ _ _ _ hk, Below.heap_setCell _ _ _ _ hk, Below.heap_setCell _ _ _ _ hk, Below.heap_setCell _ _ _ _ hk]
theorem Vm.Box.cellQ {w W : World} {G b : Nat} {v0 v1 v2 v3 v4 v5 : Value} (h : Vm.Box w b v0 v1 v2 v3 v4 v5) (hQ : ∀ k, k ≠ G → W.heap[k]? = w.heap[k]?) (hb : b ≠ G) (i : Nat) : W.cell? ⟨b, i, none⟩ = (#[v0, v1, v2, v3, v4, v5] : Array Value)[i]? := by
  unfold World.cell?
  rw [(hQ b hb).trans h.all]
  rfl
theorem Vm.Box.frozenQ {w W : World} {G b : Nat} {v0 v1 v2 v3 v4 v5 : Value} (h : Vm.Box w b v0 v1 v2 v3 v4 v5) (hQ : ∀ k, k ≠ G → W.heap[k]? = w.heap[k]?) (hb : b ≠ G) (i : Nat) : W.frozen? ⟨b, i, none⟩ = false := Vc.row_frozen ((hQ b hb).trans h.all) i
theorem Jr.lowQ {w W : World} {G a b : Nat} {x y : Value} (h : w.cell? ⟨a, 0, none⟩ = some x ∧ w.cell? ⟨b, 0, none⟩ = some y) (hQ : ∀ k, k ≠ G → W.heap[k]? = w.heap[k]?) (ha : a ≠ G) (hb : b ≠ G) : W.cell? ⟨a, 0, none⟩ = some x ∧ W.cell? ⟨b, 0, none⟩ = some y :=
  ⟨(World.cell?_of_block (hQ a ha)).trans h.1, (World.cell?_of_block (hQ b hb)).trans h.2⟩
theorem Jr.lowS {w : World} {a b : Nat} {x y : Value} (h : w.cell? ⟨a, 0, none⟩ = some x ∧ w.cell? ⟨b, 0, none⟩ = some y) (G i : Nat) (v : Value) (ha : a ≠ G) (hb : b ≠ G) : (w.setCell ⟨G, i, none⟩ v).cell? ⟨a, 0, none⟩ = some x ∧ (w.setCell ⟨G, i, none⟩ v).cell? ⟨b, 0, none⟩ = some y :=
  Jr.lowQ (G := G) h (fun _ hk => Below.heap_setCell _ _ _ _ hk) ha hb
theorem Jr.six_row {u : World} {base n G cap : Nat} {xs : List Value} {z0 z1 z2 z3 z4 z5 : Value} (hl : xs.length = n * 6) (h : u.ownsRow base 29 6 (.slice (some ⟨G, 0, none⟩) (n + 1) cap) (n + 1) (xs ++ [z0, z1, z2, z3, z4, z5])) (v0 v1 v2 v3 v4 v5 : Value) :
    ((((((u.setCell ⟨G, n * 6, none⟩ v0).setCell ⟨G, n * 6 + 1, none⟩ v1).setCell ⟨G, n * 6 + 2, none⟩ v2).setCell ⟨G, n * 6 + 3, none⟩ v3).setCell ⟨G, n * 6 + 4, none⟩ v4).setCell ⟨G, n * 6 + 5, none⟩ v5).ownsRow base 29 6 (.slice (some ⟨G, 0, none⟩) (n + 1) cap) (n + 1) (xs ++ [v0, v1, v2, v3, v4, v5]) := by
  have h6 := ((((((h.stored (n * 6) v0).1.stored (n * 6 + 1) v1).1.stored (n * 6 + 2) v2).1.stored (n * 6 + 3) v3).1.stored (n * 6 + 4) v4).1.stored (n * 6 + 5) v5).1
  have e : ∀ (r : Nat) (l : List Value) (x : Value), (xs ++ l).set (n * 6 + r) x = xs ++ l.set r x := fun r l x => by
    rw [List.set_append_right _ _ (by omega), hl, Nat.add_sub_cancel_left]
  have e0 : ∀ (l : List Value) (x : Value), (xs ++ l).set (n * 6) x = xs ++ l.set 0 x := fun l x => e 0 l x
  rw [e0, e, e, e, e, e] at h6
  exact h6
theorem Jr.Mem.fin {w : World} {g e : Nat} {kd : Int} {s : Jr.St} {vi vk vi' : Value} {u u' W : World} {xs : List Value} {G cap : Nat} (h : Jr.Mem w g e kd s vi vk u) (t : Vt) {v0 v1 v2 v3 v4 v5 : Value} (ht : t.Lies u (Jr.Free (w.heap.size + 4) vi vk u) (.agg #[v0, v1, v2, v3, v4, v5]))
    (hxs : u.ownsRow (w.heap.size + 4) 29 6 vi s.2.length xs) (hi : ∀ i, i < s.2.length → ∃ u0 u1 u2 u3 u4 u5, xs[i * 6]? = some u0 ∧ xs[i * 6 + 1]? = some u1 ∧ xs[i * 6 + 2]? = some u2 ∧ xs[i * 6 + 3]? = some u3 ∧ xs[i * 6 + 4]? = some u4 ∧ xs[i * 6 + 5]? = some u5 ∧ (s.2.getD i .nil).Lies u (Jr.Free (w.heap.size + 4) vi vk u) (.agg #[u0, u1, u2, u3, u4, u5]))
    (hv : vi' = .slice (some ⟨G, 0, none⟩) (s.2.length + 1) cap) (hgr : u.grownBy u' vi.ownBlock) (hf : vi'.ownBlock = vi.ownBlock ∨ vi'.ownBlock = some u.heap.size)
    (hW : W.ownsRow (w.heap.size + 4) 29 6 vi' (s.2.length + 1) (xs ++ [v0, v1, v2, v3, v4, v5])) (hbx : Vm.Box W (w.heap.size + 1 + 1 + 1) (.int .i64 kd) (.int .i64 0) (.int .u64 0) (.string ⟨#[]⟩) vi' vk)
    (hos : W.os = u'.os) (htp : W.tape = u'.tape) (hout : W.output = u'.output) (hsz : u'.heap.size ≤ W.heap.size) (hoth : ∀ k, k < u'.heap.size → k ≠ G → k ≠ w.heap.size + 1 + 1 + 1 → W.heap[k]? = u'.heap[k]?) {T : ByteArray} {r : List UInt8} (hR : Jr.Rd u g T r) :
    Jr.Mem w g e kd (s.1, s.2 ++ [t]) vi' vk W ∧ Jr.Rd W g T r := by
  refine ⟨h.item t v0 v1 v2 v3 v4 v5 ht hxs hi hv hgr hf hW hbx hos htp hout hsz hoth, ?_⟩
  have hg := h.glt
  have hG : w.heap.size + 4 ≤ G := (hW.lt G (by rw [hv]; rfl)).1
  have hu := h.size
  have hus := hgr.size
  obtain ⟨i, h1, h2, h3, hB⟩ := hR
  refine ⟨i, h1, h2, h3, ?_⟩
  show W.heap[g]? = _
  rw [hoth g (by omega) (by omega) (by omega), hgr.block g (by omega) (fun q => by have := (hxs.lt g q.symm).1; omega)]
  exact hB
theorem Jr.Mem.fin1 {w : World} {g e : Nat} {kd : Int} {s : Jr.St} {vi vk : Value} {u u' : World} {xs : List Value} {G cap : Nat} {z0 z1 z2 z3 z4 z5 : Value} (h : Jr.Mem w g e kd s vi vk u) (t : Vt) {v0 v1 v2 v3 v4 v5 : Value} (ht : t.Lies u (Jr.Free (w.heap.size + 4) vi vk u) (.agg #[v0, v1, v2, v3, v4, v5]))
    (hxs : u.ownsRow (w.heap.size + 4) 29 6 vi s.2.length xs) (hi : ∀ i, i < s.2.length → ∃ u0 u1 u2 u3 u4 u5, xs[i * 6]? = some u0 ∧ xs[i * 6 + 1]? = some u1 ∧ xs[i * 6 + 2]? = some u2 ∧ xs[i * 6 + 3]? = some u3 ∧ xs[i * 6 + 4]? = some u4 ∧ xs[i * 6 + 5]? = some u5 ∧ (s.2.getD i .nil).Lies u (Jr.Free (w.heap.size + 4) vi vk u) (.agg #[u0, u1, u2, u3, u4, u5]))
    (hgr : u.grownBy u' vi.ownBlock) (hf : (Value.slice (some ⟨G, 0, none⟩) (s.2.length + 1) cap).ownBlock = vi.ownBlock ∨ (Value.slice (some ⟨G, 0, none⟩) (s.2.length + 1) cap).ownBlock = some u.heap.size)
    (ho : u'.ownsRow (w.heap.size + 4) 29 6 (.slice (some ⟨G, 0, none⟩) (s.2.length + 1) cap) (s.2.length + 1) (xs ++ [z0, z1, z2, z3, z4, z5])) {T : ByteArray} {r : List UInt8} (hR : Jr.Rd u g T r) :
    Jr.Mem w g e kd (s.1, s.2 ++ [t]) (.slice (some ⟨G, 0, none⟩) (s.2.length + 1) cap) vk (((((((u'.setCell ⟨G, s.2.length * 6, none⟩ v0).setCell ⟨G, s.2.length * 6 + 1, none⟩ v1).setCell ⟨G, s.2.length * 6 + 2, none⟩ v2).setCell ⟨G, s.2.length * 6 + 3, none⟩ v3).setCell ⟨G, s.2.length * 6 + 4, none⟩ v4).setCell ⟨G, s.2.length * 6 + 5, none⟩ v5).setCell ⟨w.heap.size + 1 + 1 + 1, 4, none⟩ (.slice (some ⟨G, 0, none⟩) (s.2.length + 1) cap)) ∧
      Jr.Rd (((((((u'.setCell ⟨G, s.2.length * 6, none⟩ v0).setCell ⟨G, s.2.length * 6 + 1, none⟩ v1).setCell ⟨G, s.2.length * 6 + 2, none⟩ v2).setCell ⟨G, s.2.length * 6 + 3, none⟩ v3).setCell ⟨G, s.2.length * 6 + 4, none⟩ v4).setCell ⟨G, s.2.length * 6 + 5, none⟩ v5).setCell ⟨w.heap.size + 1 + 1 + 1, 4, none⟩ (.slice (some ⟨G, 0, none⟩) (s.2.length + 1) cap)) g T r := by
  have hG : w.heap.size + 4 ≤ G := (ho.lt G rfl).1
  have h6 := Jr.six_row hxs.1 ho v0 v1 v2 v3 v4 v5
  have hq := Jr.six_other u' G (s.2.length * 6) v0 v1 v2 v3 v4 v5
  have hb6 : Vm.Box (((((((u'.setCell ⟨G, s.2.length * 6, none⟩ v0).setCell ⟨G, s.2.length * 6 + 1, none⟩ v1).setCell ⟨G, s.2.length * 6 + 2, none⟩ v2).setCell ⟨G, s.2.length * 6 + 3, none⟩ v3).setCell ⟨G, s.2.length * 6 + 4, none⟩ v4).setCell ⟨G, s.2.length * 6 + 5, none⟩ v5)) (w.heap.size + 1 + 1 + 1) (.int .i64 kd) (.int .i64 0) (.int .u64 0) (.string ⟨#[]⟩) vi vk := ⟨(hq _ (by omega)).trans (h.box4 hxs hgr).all⟩
  refine h.fin t ht hxs hi rfl hgr hf (u' := u') (Jr.own_kept h6 fun k hk => Below.heap_setCell _ _ _ _ ?_) ⟨Vm.setAt hb6.all 4 _⟩ (by simp only [Jr.set_os]) (by simp only [Jr.set_tape]) (by simp only [Jr.set_output]) (by simp only [Jr.set_size]; exact Nat.le_refl _) (fun k hk hkG hkb => ?_) hR
  · have := (h6.lt k hk).1
    show k ≠ w.heap.size + 1 + 1 + 1
    omega
  · rw [Below.heap_setCell _ _ _ _ hkb]
    exact hq k hkG
theorem Jr.Mem.fin2 {w : World} {g e : Nat} {kd : Int} {s : Jr.St} {vi vk : Value} {u u' : World} {xs : List Value} {G cap : Nat} {z0 z1 z2 z3 z4 z5 : Value} (h : Jr.Mem w g e kd s vi vk u) (t : Vt) {v0 v1 v2 v3 v4 v5 : Value} (ht : t.Lies u (Jr.Free (w.heap.size + 4) vi vk u) (.agg #[v0, v1, v2, v3, v4, v5]))
    (hxs : u.ownsRow (w.heap.size + 4) 29 6 vi s.2.length xs) (hi : ∀ i, i < s.2.length → ∃ u0 u1 u2 u3 u4 u5, xs[i * 6]? = some u0 ∧ xs[i * 6 + 1]? = some u1 ∧ xs[i * 6 + 2]? = some u2 ∧ xs[i * 6 + 3]? = some u3 ∧ xs[i * 6 + 4]? = some u4 ∧ xs[i * 6 + 5]? = some u5 ∧ (s.2.getD i .nil).Lies u (Jr.Free (w.heap.size + 4) vi vk u) (.agg #[u0, u1, u2, u3, u4, u5]))
    (hgr : u.grownBy u' vi.ownBlock) (hf : (Value.slice (some ⟨G, 0, none⟩) (s.2.length + 1) cap).ownBlock = vi.ownBlock ∨ (Value.slice (some ⟨G, 0, none⟩) (s.2.length + 1) cap).ownBlock = some u.heap.size)
    (ho : u'.ownsRow (w.heap.size + 4) 29 6 (.slice (some ⟨G, 0, none⟩) (s.2.length + 1) cap) (s.2.length + 1) (xs ++ [z0, z1, z2, z3, z4, z5])) {T : ByteArray} {r : List UInt8} (hR : Jr.Rd u g T r) :
    Jr.Mem w g e kd (s.1, s.2 ++ [t]) (.slice (some ⟨G, 0, none⟩) (s.2.length + 1) cap) vk (((((((u'.setCell ⟨w.heap.size + 1 + 1 + 1, 4, none⟩ (.slice (some ⟨G, 0, none⟩) (s.2.length + 1) cap)).setCell ⟨G, s.2.length * 6, none⟩ v0).setCell ⟨G, s.2.length * 6 + 1, none⟩ v1).setCell ⟨G, s.2.length * 6 + 2, none⟩ v2).setCell ⟨G, s.2.length * 6 + 3, none⟩ v3).setCell ⟨G, s.2.length * 6 + 4, none⟩ v4).setCell ⟨G, s.2.length * 6 + 5, none⟩ v5) ∧
      Jr.Rd (((((((u'.setCell ⟨w.heap.size + 1 + 1 + 1, 4, none⟩ (.slice (some ⟨G, 0, none⟩) (s.2.length + 1) cap)).setCell ⟨G, s.2.length * 6, none⟩ v0).setCell ⟨G, s.2.length * 6 + 1, none⟩ v1).setCell ⟨G, s.2.length * 6 + 2, none⟩ v2).setCell ⟨G, s.2.length * 6 + 3, none⟩ v3).setCell ⟨G, s.2.length * 6 + 4, none⟩ v4).setCell ⟨G, s.2.length * 6 + 5, none⟩ v5) g T r := by
  have hG : w.heap.size + 4 ≤ G := (ho.lt G rfl).1
  have ho5 : (u'.setCell ⟨w.heap.size + 1 + 1 + 1, 4, none⟩ (.slice (some ⟨G, 0, none⟩) (s.2.length + 1) cap)).ownsRow (w.heap.size + 4) 29 6 (.slice (some ⟨G, 0, none⟩) (s.2.length + 1) cap) (s.2.length + 1) (xs ++ [z0, z1, z2, z3, z4, z5]) := Jr.own_kept ho fun k hk => Below.heap_setCell _ _ _ _ (by have := (ho.lt k hk).1; show k ≠ w.heap.size + 1 + 1 + 1; omega)
  have hq := Jr.six_other (u'.setCell ⟨w.heap.size + 1 + 1 + 1, 4, none⟩ (.slice (some ⟨G, 0, none⟩) (s.2.length + 1) cap)) G (s.2.length * 6) v0 v1 v2 v3 v4 v5
  refine h.fin t ht hxs hi rfl hgr hf (u' := u') (Jr.six_row hxs.1 ho5 v0 v1 v2 v3 v4 v5) ⟨(hq _ (by omega)).trans (Vm.setAt (h.box4 hxs hgr).all 4 _)⟩ (by simp only [Jr.set_os]) (by simp only [Jr.set_tape]) (by simp only [Jr.set_output]) (by simp only [Jr.set_size]; exact Nat.le_refl _) (fun k hk hkG hkb => ?_) hR
  rw [hq k hkG]
  exact Below.heap_setCell _ _ _ _ hkb
end Go.Proofs.YtiajclmhimkpnaaDoor

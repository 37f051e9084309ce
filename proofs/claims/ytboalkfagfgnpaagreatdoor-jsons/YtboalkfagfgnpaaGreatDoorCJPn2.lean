/-
  THE REFERENCE's list under way: an item more, good or bad.
-/
import Derived.Test.YtboalkfagfgnpaaGreatDoorCJPjtoJPn1
namespace Go.Proofs.YtboalkfagfgnpaaGreatDoor
open Go.RowKit
/-- what At says, beside the memory that both its ways have -/
def Jp.Pay (w : World) (g : Nat) (kd : Int) (O : Option (Vt × List UInt8)) (X : Jr.St → List UInt8 → Option (Vt × List UInt8)) (a b M : Nat) (u : World) (n m : Nat) (vi vk : Value) (bad : Bool) (l : List UInt8) (xs : List Value) : Prop :=
  (bad = true ∧ ∀ t r, O = some (t, r) → Js.wide t) ∨
  (bad = false ∧ ∃ s : Jr.St, n = s.2.length ∧ m = s.1.length ∧ Jp.Mem w g kd s vi vk u ∧ O = X s l ∧ s.2.length ≤ a ∧ s.1.length ≤ s.2.length + b ∧ l.length < M ∧ ∀ i, i < s.2.length → ∃ u0 u1 u2 u3 u4 u5, xs[i * 6]? = some u0 ∧ xs[i * 6 + 1]? = some u1 ∧ xs[i * 6 + 2]? = some u2 ∧ xs[i * 6 + 3]? = some u3 ∧ xs[i * 6 + 4]? = some u4 ∧ xs[i * 6 + 5]? = some u5 ∧ (s.2.getD i .nil).Lies u (Jr.Free (w.heap.size + 2) vi vk u) (.agg #[u0, u1, u2, u3, u4, u5]))
theorem Jp.At.open {w : World} {g : Nat} {T : ByteArray} {kd : Int} {O : Option (Vt × List UInt8)} {X : Jr.St → List UInt8 → Option (Vt × List UInt8)} {a b M : Nat} {u : World} (h : Jp.At w g T kd O X a b M u) (ha : a ≤ 65) (hb : b ≤ 1) :
    ∃ n m ai ci ak ck bad l xs, Jp.MemB w g kd n m (.slice ai n ci) (.slice ak m ck) u ∧ Jp.Rd u g T l bad ∧ n ≤ a ∧ m ≤ 100 ∧ u.ownsRow (w.heap.size + 2) 26 6 (.slice ai n ci) n xs ∧ Jp.Pay w g kd O X a b M u n m (.slice ai n ci) (.slice ak m ck) bad l xs := by
  rcases h with ⟨s, l, vi, vk, hM, hR, hO, h1, h2, h3⟩ | ⟨n, m, vi, vk, r, hM, hR, hO, h1, h2⟩
  · obtain ⟨ai, ci, ak, ck, rfl, rfl⟩ := hM.forms
    obtain ⟨xs, hx, hi⟩ := hM.items
    exact ⟨_, _, ai, ci, ak, ck, false, l, xs, hM.bad, hR, h1, by omega, hx, .inr ⟨rfl, s, rfl, rfl, hM, hO, h1, h2, h3, hi⟩⟩
  · obtain ⟨ai, ci, ak, ck, rfl, rfl⟩ := hM.forms
    obtain ⟨xs, hx⟩ := hM.items
    exact ⟨_, _, ai, ci, ak, ck, true, r, xs, hM, hR, h1, h2, hx, .inl ⟨rfl, hO⟩⟩
theorem Jp.Rd.bad {u : World} {g : Nat} {T : ByteArray} {l : List UInt8} {b : Bool} (h : Jp.Rd u g T l b) : u.cell? ⟨g, 2, none⟩ = some (.bool b) := by
  obtain ⟨i, h1, h2, h3, hB⟩ := h
  exact hB.cell 2 rfl
theorem Jp.Rd.froz {u : World} {g : Nat} {T : ByteArray} {l : List UInt8} {b : Bool} (h : Jp.Rd u g T l b) : u.frozen? ⟨g, 2, none⟩ = false := by
  obtain ⟨i, h1, h2, h3, hB⟩ := h
  exact hB.frozen 2
theorem Jp.box4 {w : World} {g : Nat} {kd : Int} {n m : Nat} {vi vk v : Value} {u u' : World} {ty : TypeId} {sz k : Nat} {xs : List Value} (h : Jp.MemB w g kd n m vi vk u) (hr : u.ownsRow (w.heap.size + 2) ty sz v k xs) (hgr : u.grownBy u' v.ownBlock) : Vm.Box u' w.heap.size (.int .i64 kd) (.int .i64 0) (.int .u64 0) (.string ⟨#[]⟩) vi vk :=
  ⟨(hgr.block _ (by have := h.size; omega) (fun q => by have := (hr.lt _ q.symm).1; omega)).trans h.var.all⟩
theorem Jp.keyRd {w : World} {g : Nat} {kd : Int} {n m : Nat} {vi vk v : Value} {u u' : World} {ty : TypeId} {sz k : Nat} {xs : List Value} {T : ByteArray} {l : List UInt8} {b : Bool} (h : Jp.MemB w g kd n m vi vk u) (hR : Jp.Rd u g T l b) (hr : u.ownsRow (w.heap.size + 2) ty sz v k xs) (hgr : u.grownBy u' v.ownBlock) (j : Nat) (x : Value) : Jp.Rd (u'.setCell ⟨w.heap.size, j, none⟩ x) g T l b :=
  (hR.row hr hgr (by have := h.glt; omega)).other (by have := h.glt; omega)
/-- the row where an item has been made -/
theorem Jp.rowTo {w : World} {g : Nat} {kd : Int} {n m : Nat} {vi vk v : Value} {u w3 : World} {ty : TypeId} {sz k : Nat} {xs : List Value} (h : Jp.MemB w g kd n m vi vk u) (hr : u.ownsRow (w.heap.size + 2) ty sz v k xs) (hb : u.grownBy w3 (some g)) (o : Obj) : (w3.alloc o).ownsRow (w.heap.size + 2) ty sz v k xs :=
  Jb.row_alloc (Jp.row_grown hr hb (by have := h.glt; omega)) o
theorem Jp.sixCells {u : World} {g1 : Nat} {v0 v1 v2 v3 v4 v5 : Value} (h : Vm.Has u g1 (.cells #[v0, v1, v2, v3, v4, v5] 26)) : ∀ (j : Nat) (x : Value), ([v0, v1, v2, v3, v4, v5] : List Value)[j]? = some x → u.cell? ((⟨g1, 0, none⟩ : Addr).add j) = some x := by
  intro j x hj
  rw [Vc.add, Nat.zero_add]
  refine h.cell j ?_
  rw [← hj]
  simp
theorem Jp.sixOne {k x y : Int} {s : ByteArray} {ai ak : Option Addr} {n c m d : Nat} : ∀ z ∈ ([.int .i64 k, .int .i64 x, .int .u64 y, .string s, .slice ai n c, .slice ak m d] : List Value), z.oneCell' = true := by
  intro z hz
  simp only [List.mem_cons, List.not_mem_nil, or_false] at hz
  rcases hz with rfl | rfl | rfl | rfl | rfl | rfl <;> rfl
/-- 'is' of a bad reader -/
theorem Jp.isBad (c : UInt8) (l : List UInt8) (g : Nat) (T : ByteArray) (w : World) (h : Jp.Rd w g T l true) :
    Calls Tryz.prog 77 #[.pointer (some ⟨g, 0, none⟩), .int .u8 (c.toNat : Int)] w fun e w' => ∃ (B : Bool) (r : List UInt8), e = .returned (.bool B) ∧ w.grownBy w' (some g) ∧ Jp.Rd w' g T r true :=
  (Jp.is c l true g T w h).mono fun _ _ ⟨h1, h2, h3⟩ => ⟨_, _, h1, h2, h3⟩
/-- an item more, good or bad -/
theorem Jp.itemEnd {w : World} {g : Nat} {T : ByteArray} {kd : Int} {O : Option (Vt × List UInt8)} {val : List UInt8 → Option (Vt × List UInt8)} (hv : ∀ l t r, val l = some (t, r) → r.length < l.length) {rec : Bool} {en : UInt8} {M : Nat} {u w3 w4 : World} {n m : Nat} {ai ak : Option Addr} {ci ck : Nat} {bad : Bool} {l : List UInt8} {xs : List Value} {o : Obj}
    (hP : Jp.Pay w g kd O (fun s l => Jp.md val rec en kd s l) 64 1 (M + 1) u n m (.slice ai n ci) (.slice ak m ck) bad l xs) (hB : Jp.MemB w g kd n m (.slice ai n ci) (.slice ak m ck) u) (hx : u.ownsRow (w.heap.size + 2) 26 6 (.slice ai n ci) n xs) (hn : n ≤ 64) (hm : m ≤ 100)
    (b3 : u.grownBy w3 (some g)) {v0 v1 v2 v3 v4 v5 : Value}
    (M3 : (∃ t r, (if bad = true then none else val l) = some (t, r) ∧ Jp.Rd w3 g T r false ∧ t.Lies w3 (fun q => u.heap.size ≤ q ∧ q < w3.heap.size) (.agg #[v0, v1, v2, v3, v4, v5])) ∨ ((∀ t r, (if bad = true then none else val l) = some (t, r) → Js.wide t) ∧ ∃ r, Jp.Rd w3 g T r true))
    {vi' : Value} (R4 : w4.ownsRow (w.heap.size + 2) 26 6 vi' (n + 1) (xs ++ [v0, v1, v2, v3, v4, v5])) (G4 : (w3.alloc o).grownBy w4 (Value.slice ai n ci).ownBlock) (F4 : vi'.ownBlock = (Value.slice ai n ci).ownBlock ∨ vi'.ownBlock = some (w3.alloc o).heap.size) :
    Jp.At w g T kd O (fun s l => Jp.tl val rec en kd s l) 65 0 M (w4.setCell ⟨w.heap.size, 4, none⟩ vi') := by
  have b4 : u.grownBy (w3.alloc o) (some g) := Jr.grown_trans b3 (Jp.grown_alloc _ _ _)
  have hB4 := hB.still b4
  have hx4 := Jp.rowTo hB hx b3 o
  rcases hP with ⟨hb, hO⟩ | ⟨hb, s, e1, e2, hM, hO, h1, h2, h3, hi⟩
  · subst hb
    rcases M3 with ⟨t, r, q, -⟩ | ⟨-, r, hR⟩
    · cases q
    · exact .inr ⟨_, _, _, _, r, hB4.item hx4 R4 G4, Jp.keyRd hB4 (hR.on (Jp.grown_alloc _ _ _)) hx4 G4 4 vi', hO, by omega, hm⟩
  · subst hb
    rw [if_neg (by decide)] at M3
    rcases M3 with ⟨t, r, q, hR, ht⟩ | ⟨hw, r, hR⟩
    · refine .inl ⟨(s.1, s.2 ++ [t]), r, vi', .slice ak m ck, ?_, Jp.keyRd hB4 (hR.on (Jp.grown_alloc _ _ _)) hx4 G4 4 vi', ?_, by simp; omega, by simp; omega, by have := hv _ _ _ q; omega⟩
      · subst e1 e2
        have hg := hM.glt
        have hs := hM.size
        have hb4 := b4.size
        rcases R4.2 with ⟨_, q0⟩ | ⟨G, cap, cur, e, _⟩
        · omega
        · refine (hM.still b4).item t v0 v1 v2 v3 v4 v5 ?_ hx4 ?_ e G4 F4 (Jr.own_kept R4 fun k hk => Below.heap_setCell _ _ _ _ (by have := (R4.lt k hk).1; show k ≠ w.heap.size; omega)) ⟨Vm.setAt (Jp.box4 hB4 hx4 G4).all 4 vi'⟩ rfl rfl rfl (by simp [World.setCell]) (fun k _ _ hk => Below.heap_setCell _ _ _ _ hk)
          · refine ht.on fun k hk => ⟨⟨by have := hk.1; omega, by have := hk.2; simp; omega, fun q => ?_, fun q => ?_⟩, ?_⟩
            · exact (Jp.grown_alloc w3 o none).block k hk.2 (by simp)
            · have := (hx.lt k q).2; have := hk.1; omega
            · have := (hM.keys.lt k q).2; have := hk.1; omega
          · intro i hin
            obtain ⟨u0, u1, u2, u3, u4, u5, x0, x1, x2, x3, x4, x5, hl⟩ := hi i hin
            exact ⟨u0, u1, u2, u3, u4, u5, x0, x1, x2, x3, x4, x5, hl.on fun k hk => ⟨⟨hk.1, Nat.lt_of_lt_of_le hk.2.1 hb4, hk.2.2⟩, b4.block k hk.2.1 (fun q => by injection q with q; have := hk.1; omega)⟩⟩
      · rw [hO]
        show Jp.md val rec en kd s l = Jp.tl val rec en kd (s.1, s.2 ++ [t]) r
        unfold Jp.md
        rw [q]
    · exact .inr ⟨_, _, _, _, r, hB4.item hx4 R4 G4, Jp.keyRd hB4 (hR.on (Jp.grown_alloc _ _ _)) hx4 G4 4 vi', by rw [hO]; exact Jp.md_wide hw, by omega, hm⟩
end Go.Proofs.YtboalkfagfgnpaaGreatDoor

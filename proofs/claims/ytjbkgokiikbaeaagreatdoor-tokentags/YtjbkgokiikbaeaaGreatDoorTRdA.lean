/-
  THE WALK of the reader's readAttr.
-/
import Derived.Test.YtjbkgokiikbaeaaGreatDoorTAdd
import Derived.Test.YtjbkgokiikbaeaaGreatDoorTText2
import Derived.Deep.RegionHeld
namespace Go.Proofs.YtjbkgokiikbaeaaGreatDoor
open Go.RowKit
theorem Ak.snoc {al : List (ByteArray × ByteArray)} {m : Nat} (h : al.length = m + 1) : ∃ init x, al = init ++ [x] ∧ init.length = m := by
  refine ⟨al.dropLast, al.getLast (by intro e; rw [e] at h; simp at h), (List.dropLast_concat_getLast _).symm, ?_⟩
  rw [List.length_dropLast]; omega
theorem Ak.setLast_snoc (init : List (ByteArray × ByteArray)) (x : ByteArray × ByteArray) (D : ByteArray) : Rd.setLast (init ++ [x]) D = init ++ [(x.1, D)] := by
  unfold Rd.setLast
  rw [List.length_append]
  simp only [List.length_cons, List.length_nil, Nat.zero_add, Nat.add_sub_cancel]
  induction init with
  | nil => rfl
  | cons a l ih => simpa using ih
theorem Ak.cells_set {al : List (ByteArray × ByteArray)} {m : Nat} (h : al.length = m + 1) (D : ByteArray) : (Ak.cells al).set (m * 2 + 1) (.string D) = Ak.cells (Rd.setLast al D) ∧ (Rd.setLast al D).length = m + 1 := by
  obtain ⟨init, x, rfl, hl⟩ := Ak.snoc h
  rw [Ak.setLast_snoc, Ak.cells_append, Ak.cells_append]
  have h2 := Ak.cells_length init
  rw [hl] at h2
  refine ⟨?_, by simp [hl]⟩
  rw [List.set_append_right _ _ (by omega), h2, Nat.add_sub_cancel_left]
  rfl
set_option maxHeartbeats 4000000 in
theorem Rm.readVal (r : Rd) (was now : Ts) (i : Nat) (w : World) (g : Nat) (P : ByteArray) (tv av : Value) (h : Rm.At w g P r tv av) (hP : P.size ≤ 65536) (hi : i ≤ P.size) (hv : r.value ≤ i) (ht : r.taken = true) (m : Nat) (hm : r.attrs.length = m + 1) (hm32 : m ≤ 32) (ne : was.pl ≠ now.pl) (h8 : was.pl = 8 ∨ was.pl = 9 ∨ was.pl = 10) :
    Calls Tryz.prog 76 #[.pointer (some ⟨g, 0, none⟩), .agg #[.int .i64 was.pl, .string was.name, .bool was.fin, .string was.attr, .string was.held, .int .i64 was.read], .agg #[.int .i64 now.pl, .string now.name, .bool now.fin, .string now.attr, .string now.held, .int .i64 now.read], .int .i64 (i : Int)] w fun e w' => e = .returned (.tuple #[]) ∧ ∃ tv' av', Rm.At w' g P { r with attrs := Rd.setLast r.attrs (Rd.dec (P.extract r.value i)) } tv' av' ∧ Rm.Kept w w' g tv av tv' av' := by
  obtain ⟨b, ad, rfl⟩ : ∃ b ad, av = .slice (some ⟨b, 0, none⟩) (m + 1) ad := by
    rcases h.attrs.2 with ⟨_, e⟩ | ⟨b, cap, cur, e, _⟩
    · omega
    · exact ⟨b, cap, by rw [e, hm]⟩
  have HH := Lib.hid h
  have hb0 : g < b := (h.avLt rfl).1
  have hb1 : b < w.heap.size := (h.avLt rfl).2
  obtain ⟨W, hW⟩ : ∃ W, (w.alloc (.cells #[.int .i64 was.pl, .string was.name, .bool was.fin, .string was.attr, .string was.held, .int .i64 was.read] 23)).alloc (.cells #[.int .i64 now.pl, .string now.name, .bool now.fin, .string now.attr, .string now.held, .int .i64 now.read] 23) = W := ⟨_, rfl⟩
  have hbW : Below w.heap.size w W := by rw [← hW]; exact Tp.two _ _ _
  have hA := h.on hbW
  have HA := Lib.hid hA
  have HB := Lib.hid hbW
  have x0 := hA.box.page
  have x33 := hA.box.value
  have x34 := hA.box.attrs
  have x35 := hA.box.taken
  have hW0 : W.cell? ⟨w.heap.size, 0, none⟩ = some (.int .i64 was.pl) := by rw [← hW]; simp
  have hW1 : W.cell? ⟨w.heap.size + 1, 0, none⟩ = some (.int .i64 now.pl) := by rw [← hW]; simp
  rw [ht] at x35
  have hcut := Rm.text_cut P r.value i hv hi
  have hsz := Rm.cut_size P r.value i
  have hD : ∀ u : World, Calls Tryz.prog 81 #[.string (P.extract r.value i)] u fun e w' => e = .returned (.string (Rd.dec (P.extract r.value i))) ∧ Below u.heap.size u w' := fun u => Rr.decode (P.extract r.value i) u (by omega)
  generalize Rd.dec (P.extract r.value i) = D at *
  generalize P.extract r.value i = E at *
  have t0 : (was.pl == now.pl) = false := beq_eq_false_iff_ne.2 ne
  have t5 : (was.pl == 5) = false := beq_eq_false_iff_ne.2 (by omega)
  have t7 : (was.pl == 7) = false := beq_eq_false_iff_ne.2 (by omega)
  have hgb : g ≠ b := by omega
  have hw1 : IntKind.i64.wrap ((m : Int) + 1 - 1) = (m : Int) := by rw [IntKind.wrap_i64]; omega
  have hw2 : IntKind.i64.wrap (m : Int) = (m : Int) := by rw [IntKind.wrap_i64]; omega
  have hl1 : (m : Int) < (m : Int) + 1 := by omega
  have hl2 : (0 : Int) ≤ (m : Int) := by omega
  have hbg : b ≠ g := by omega
  obtain ⟨vold, hvold⟩ : ∃ vold, W.cell? ⟨b, m * 2 + 1, none⟩ = some vold := by
    have hl := Ak.cells_length r.attrs
    rw [hm] at hl
    obtain ⟨y, hy⟩ : ∃ y, r.attrs[m]? = some y := ⟨_, List.getElem?_eq_getElem (by omega)⟩
    have := HA.out.attrs.cells (g := b) rfl _ _ (Ak.cells_get r.attrs m y hy).2
    rw [Ro.add, Nat.zero_add] at this
    exact ⟨_, this⟩
  have hvf : ∀ j, W.frozen? ⟨b, j, none⟩ = false := fun j => by
    have := HA.out.attrs
    rw [hm] at this
    exact this.frozenAt j
  clear ne h hbW hA hv hi
  rcases h8 with e8 | e8 | e8
  all_goals
    try (have q8 : (was.pl == 8) = true := beq_iff_eq.2 e8)
    try (have q9 : (was.pl == 9) = true := beq_iff_eq.2 e8)
    try (have q10 : (was.pl == 10) = true := beq_iff_eq.2 e8)
    try (have q8 : (was.pl == 8) = false := beq_eq_false_iff_ne.2 (by omega))
    try (have q9 : (was.pl == 9) = false := beq_eq_false_iff_ne.2 (by omega))
    clear e8
    go_enter Tryz.func76, Tryz.ntmps76
    go_wp2_with (refine Vm.stop 8 ?_)
    try rw [hW]
    refine ⟨?_⟩
    go_wp2_with fail
    go_region_held (fun u => u.cell? ⟨g, 0, none⟩ = some (.string P) ∧ u.cell? ⟨g, 33, none⟩ = some (.int .i64 (r.value : Int)) ∧ u.cell? ⟨g, 34, none⟩ = some (.slice (some ⟨b, 0, none⟩) (m + 1) ad)) (go_keep) (first | (go_at_call 81; refine (hD _).mono ?_; rintro e w1 ⟨rfl, hb1⟩; have y0 := Tp.keep hb1 x0; have y33 := Tp.keep hb1 x33; have y34 := Tp.keep hb1 x34; have yv := Tp.keep hb1 hvold; have yf := Tp.keepF hb1 (b := b) (by first | omega | (simp; omega) | exact World.block_lt_of_cell? _ _ hvold) hvf; have HB1 := Lib.hid hb1; clear hb1))
    all_goals go_wp2
    all_goals go_end0
    all_goals
      have hb1 : Below W.heap.size W w1 := (Below.refl W.heap.size W).drew.trans HB1.out
      have hq := HA.out.on hb1
      have hne : ∀ k, k ≠ b → (w1.setCell ⟨b, m * 2 + 1, none⟩ (.string D)).heap[k]? = w1.heap[k]? := fun k hk => Below.heap_setCell _ _ _ _ hk
      refine ⟨rfl, tv, .slice (some ⟨b, 0, none⟩) (m + 1) ad, ⟨hq.box.on (by simp) (fun k hk => hne k (by omega)), hq.toks.on (by simp) (fun k hk => hne k (fun e => hq.apart k hk (by rw [e]; rfl))) (fun k _ _ _ hn => ⟨hn, hne k (fun e => hn (by rw [e]; rfl))⟩), ?_, hq.apart⟩, (Rm.Kept.of g _ _ (HB.out.trans (hb1.mono HB.out.size))).trans ⟨rfl, rfl, rfl, by simp, fun k _ hf => ⟨hne k (fun e => hf.2.2 (by rw [e]; rfl)), hf⟩⟩⟩
      have ho := hq.attrs
      rw [hm] at ho
      have hst := (ho.stored (m * 2 + 1) (.string D)).1
      obtain ⟨h1, h2⟩ := Ak.cells_set hm D
      rw [h1] at hst
      rw [h2]
      exact hst
end Go.Proofs.YtjbkgokiikbaeaaGreatDoor

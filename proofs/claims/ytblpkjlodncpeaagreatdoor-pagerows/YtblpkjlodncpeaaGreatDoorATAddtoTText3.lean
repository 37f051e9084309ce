/-
  THE WALK of the reader's addAttr.
-/
import Derived.Test.YtblpkjlodncpeaaGreatDoorAKShifttoTAny
import Derived.Test.YtblpkjlodncpeaaGreatDoorATBoxtoTTell
import Derived.Test.YtblpkjlodncpeaaGreatDoorATSimtoShelf8
import Derived.Deep.RegionHeld
namespace Go.Proofs.YtblpkjlodncpeaaGreatDoor
open Go.RowKit
theorem Rm.kept_pushA {W W1 w4 : World} {tv av v' : Value} {g : Nat} (hb : Below W.heap.size W W1) (hg : W1.grownBy w4 av.ownBlock) (hf : v'.ownBlock = av.ownBlock ∨ v'.ownBlock = some W1.heap.size) : Rm.Kept W w4 g tv av tv v' :=
  ⟨hg.os.trans hb.os, hg.tape.trans hb.tape, hg.output.trans hb.output, Nat.le_trans hb.size hg.size, fun k hk hfr =>
    ⟨(hg.block k (Nat.lt_of_lt_of_le hk hb.size) (fun e => hfr.2.2 e.symm)).trans (hb.block k hk), hfr.1, hfr.2.1, fun e => by
      rcases hf with e' | e'
      · rw [e'] at e; exact hfr.2.2 e
      · rw [e'] at e; have := Option.some.inj e; have := hb.size; omega⟩⟩
theorem Rm.two_cells (W : World) (n : ByteArray) (g1 : Nat) (h : g1 = W.heap.size) : ∀ j u, (Ak.cells [(n, Ts.e)])[j]? = some u → (W.alloc (.cells #[.string n, .string ⟨#[]⟩] 50)).cell? ⟨g1, j, none⟩ = some u := by
  subst h
  intro j u hj
  unfold World.cell?
  rw [show (W.alloc (.cells #[.string n, .string ⟨#[]⟩] 50)).heap[W.heap.size]? = some _ from heap_alloc_new W _]
  simpa [Ak.cells, Ts.e] using hj
set_option maxHeartbeats 4000000 in
theorem Rm.addAttr (r : Rd) (nm : ByteArray) (w : World) (g : Nat) (P : ByteArray) (tv av : Value) (h : Rm.At w g P r tv av) (hn : r.attrs.length ≤ 32) :
    Calls Tryz.prog 109 #[.pointer (some ⟨g, 0, none⟩), .string nm] w fun e w' => e = .returned (.tuple #[]) ∧ ∃ tv' av', Rm.At w' g P (r.addAttr nm) tv' av' ∧ Rm.Kept w w' g tv av tv' av' := by
  obtain ⟨aa, ad, rfl⟩ := Rm.form h.attrs
  have HH := Lib.hid h
  have c34 := h.box.attrs
  have c35 := h.box.taken
  have cf := h.box.fz
  have hlt := h.lt
  have n1 : w.heap.size ≠ g := by omega
  have n2 : g ≠ w.heap.size := by omega
  have hbA : Below w.heap.size w (w.alloc (.cells #[.string nm] 9)) := (Below.refl _ _).alloc (Nat.le_refl _) _
  have HA := Lib.hid hbA
  have hlies : Ak.Lies w (· < w.heap.size) r.attrs (.slice aa r.attrs.length ad) := (Ak.Lies.own h.attrs).on fun k hk => ⟨(h.avLt hk).2, rfl⟩
  have HL := Lib.hid hlies
  by_cases h32 : r.attrs.length < 32
  · have t32 : decide ((r.attrs.length : Int) < 32) = true := decide_eq_true (by omega)
    have hc := fun (u : World) (hu : Below (w.alloc (.cells #[.string nm] 9)).heap.size (w.alloc (.cells #[.string nm] 9)) u) => Rm.containsFunc r.attrs aa ad nm w.heap.size u (HL.out.on fun k hk => ⟨by have := hu.size; simp at this; omega, (hu.block k (by simp; omega)).trans (HA.out.block k hk)⟩) (Tp.keep hu (by simp))
    cases hany : r.attrs.any (fun x => decide (x.1 = nm)) with
    | true =>
      rw [hany] at hc
      have HR : Hid (r.addAttr nm = { r with taken := false }) := by unfold Rd.addAttr Hid; rw [if_neg (by rw [hany]; simp)]
      clear h hlies
      go_enter Tryz.func109, Tryz.ntmps109
      go_wp2_with (go_at_call 116; refine (hc _ (Below.refl _ _)).mono ?_; rintro e w1 ⟨rfl, hb1⟩; have q1 : Below w.heap.size w w1 := hbA.trans (hb1.mono (by simp)); have hq := HH.out.on q1; have d34 := hq.box.attrs; have d35 := hq.box.taken; have df := hq.box.fz; have dq := Tp.keep hb1 (b := w.heap.size) (o := 0) (v := .string nm) (by simp); have hs1 : w.heap.size < w1.heap.size := (by have hs := hb1.size; simp at hs; omega); have HQ := Lib.hid hq; clear hb1 hc hq)
      go_end0
      refine ⟨rfl, tv, .slice aa r.attrs.length ad, ?_, (Rm.Kept.of g _ _ q1).trans (Rm.Kept.set _ _ _ _ _ _)⟩
      rw [HR.out]
      have hq := HQ.out
      have hne : ∀ k, g + 1 ≤ k → (w1.setCell ⟨g, 35, none⟩ (.bool false)).heap[k]? = w1.heap[k]? := fun k hk => Rm.set_ne _ _ _ _ hk
      exact ⟨hq.box.setTaken false, hq.toks.on (by simp) (fun k hk => hne k (hq.tvLt hk).1) (fun k hk _ _ hn => ⟨hn, hne k hk⟩), Rm.own_on hq.attrs (fun k hk => hne k (hq.avLt hk).1), hq.apart⟩
    | false =>
      rw [hany] at hc
      have HR : Hid (r.addAttr nm = { r with attrs := r.attrs ++ [(nm, Ts.e)], taken := true }) := by unfold Rd.addAttr Hid; rw [if_pos ⟨h32, hany⟩]
      clear h hlies
      go_enter Tryz.func109, Tryz.ntmps109
      go_wp2_with (go_at_call 116; refine (hc _ (Below.refl _ _)).mono ?_; rintro e w1 ⟨rfl, hb1⟩; have q1 : Below w.heap.size w w1 := hbA.trans (hb1.mono (by simp)); have hq := HH.out.on q1; have d34 := hq.box.attrs; have d35 := hq.box.taken; have df := hq.box.fz; have dq := Tp.keep hb1 (b := w.heap.size) (o := 0) (v := .string nm) (by simp); have hs1 : w.heap.size < w1.heap.size := (by have hs := hb1.size; simp at hs; omega); have HQ := Lib.hid hq; clear hb1 hc hq)
      obtain ⟨W, hW⟩ : ∃ W, w1.setCell ⟨g, 35, none⟩ (.bool true) = W := ⟨_, rfl⟩
      have hAt : Rm.At W g P { r with taken := true } tv (.slice aa r.attrs.length ad) := by
        rw [← hW]
        have hq := HQ.out
        have hne : ∀ k, g + 1 ≤ k → (w1.setCell ⟨g, 35, none⟩ (.bool true)).heap[k]? = w1.heap[k]? := fun k hk => Rm.set_ne _ _ _ _ hk
        exact ⟨hq.box.setTaken true, hq.toks.on (by simp) (fun k hk => hne k (hq.tvLt hk).1) (fun k hk _ _ hn => ⟨hn, hne k hk⟩), Rm.own_on hq.attrs (fun k hk => hne k (hq.avLt hk).1), hq.apart⟩
      have hKW : Rm.Kept w W g tv (.slice aa r.attrs.length ad) tv (.slice aa r.attrs.length ad) := by rw [← hW]; exact (Rm.Kept.of g _ _ q1).trans (Rm.Kept.set _ _ _ _ _ _)
      have hqW : W.cell? ⟨w.heap.size, 0, none⟩ = some (.string nm) := by rw [← hW, Rm.out _ _ _ _ n1]; exact dq
      have hsW : W.heap.size = w1.heap.size := by rw [← hW]; simp
      rw [hW]
      have e34 := hAt.box.attrs
      have ef := hAt.box.fz
      have e34' : ∀ o, (W.alloc o).cell? ⟨g, 34, none⟩ = some (.slice aa r.attrs.length ad) := fun o => (World.cell?_alloc_lt _ _ _ hAt.lt).trans e34
      have HAt := Lib.hid hAt
      have HK := Lib.hid hKW
      have HO := Lib.hid hAt.attrs
      have n5 : w1.heap.size ≠ g := by omega
      have n6 : w1.heap.size ≠ w.heap.size := by omega
      have n7 : g ≠ w1.heap.size := by omega
      have n8 : w.heap.size ≠ w1.heap.size := by omega
      have HN : Hid (r.attrs.length + 1 ≤ maxLen ∧ (r.attrs.length + 1) * 32 ≤ 140737488355328) := ⟨by unfold maxLen; omega, by omega⟩
      clear hW d34 d35 df dq hAt hKW HQ q1 hbA c34 c35 cf HL hn h32 hany
      go_region_law (first | (refine Ro.step_push rfl (.tmp 32) (.tmp 35) 46 50 2 32 _ rfl Tryz.underlying46 Rm.infoA rfl (by decide) (.slice aa r.attrs.length ad) (by simp [Act.eval]) (HO.out.alloc _) w1.heap.size (Ak.cells [(nm, Ts.e)]) (by simp [Act.eval]) (Rm.two_cells _ nm _ (by first | omega | (simp; omega))) rfl (Ak.cells_one _) HN.out.1 HN.out.2 (by first | omega | (simp; omega)) ?_; intro v' w4 R4 hg4 hf4; obtain ⟨a4, d4, rfl⟩ := Rm.form R4; have HR4 := Lib.hid R4; have HG4 := Lib.hid hg4; have HF4 := Lib.hid hf4; have B4 := HAt.out.box.on (w' := w4) (by have hq := hg4.size; first | omega | (simp at hq; omega)) (fun k hk => (hg4.block k (by first | omega | (simp; omega)) (fun e => by have := (HO.out.lt k e.symm).1; omega)).trans (Below.heap_alloc _ _ _ (by first | omega | (simp; omega)))); have d34 := B4.attrs; have df := B4.fz; have HB4 := Lib.hid B4; clear R4 hg4 hf4 B4))
      all_goals go_wp2
      all_goals go_end0
      all_goals
        have hq : Below W.heap.size W (W.drew.alloc (.cells #[.string nm, .string ⟨#[]⟩] 50)) := (Below.refl _ _).drew.alloc (Nat.le_refl _) _
        have hk4 : Rm.Kept W w4 g tv (.slice aa r.attrs.length ad) tv (.slice a4 (r.attrs.length + 1) d4) := Rm.kept_pushA hq HG4.out HF4.out
        refine ⟨rfl, tv, .slice a4 (r.attrs.length + 1) d4, ?_, HK.out.trans (hk4.trans (Rm.Kept.set _ _ _ _ _ _))⟩
        rw [HR.out]
        have hne : ∀ k, g + 1 ≤ k → (w4.setCell ⟨g, 34, none⟩ (.slice a4 (r.attrs.length + 1) d4)).heap[k]? = w4.heap[k]? := fun k hk => Rm.set_ne _ _ _ _ hk
        have hold : ∀ k, k < W.heap.size → (Value.slice aa r.attrs.length ad).ownBlock ≠ some k → w4.heap[k]? = W.heap[k]? ∧ (Value.slice a4 (r.attrs.length + 1) d4).ownBlock ≠ some k := fun k hk hn => ⟨(HG4.out.block k (Nat.lt_of_lt_of_le hk hq.size) (fun e => hn e.symm)).trans (hq.block k hk), fun e => by
          rcases HF4.out with e' | e'
          · rw [e'] at e; exact hn e
          · rw [e'] at e; have hh := Option.some.inj e; simp only [World.size_alloc, World.size_drew] at hh; omega⟩
        refine ⟨HB4.out.setAttrs _, HAt.out.toks.on (by have h1 := HG4.out.size; simp only [World.size_alloc, World.size_drew, World.size_setCell] at h1 ⊢; omega) (fun k hk => (hne k (HAt.out.tvLt hk).1).trans (hold k (HAt.out.tvLt hk).2 (HAt.out.apart k hk)).1) (fun k hk hk2 _ hn => ⟨(hold k hk2 hn).2, (hne k hk).trans (hold k hk2 hn).1⟩), ?_, fun k hk => (hold k (HAt.out.tvLt hk).2 (HAt.out.apart k hk)).2⟩
        have := Rm.own_on HR4.out (w' := w4.setCell ⟨g, 34, none⟩ (.slice a4 (r.attrs.length + 1) d4)) (fun k hk => hne k (HR4.out.lt k hk).1)
        rw [← Ak.cells_append] at this
        simpa using this
  · have t32 : decide ((r.attrs.length : Int) < 32) = false := decide_eq_false (by omega)
    have HR : Hid (r.addAttr nm = { r with taken := false }) := by unfold Rd.addAttr Hid; rw [if_neg (fun e => h32 e.1)]
    clear h hlies h32
    go_enter Tryz.func109, Tryz.ntmps109
    go_wp2
    go_end0
    refine ⟨rfl, tv, .slice aa r.attrs.length ad, ?_, (Rm.Kept.set w g 35 _ _ _).trans (Rm.Kept.of g _ _ ((Below.refl _ _).alloc (Nat.le_refl _) _))⟩
    rw [HR.out]
    have hq := HH.out
    have hne : ∀ k, g + 1 ≤ k → (w.setCell ⟨g, 35, none⟩ (.bool false)).heap[k]? = w.heap[k]? := fun k hk => Rm.set_ne _ _ _ _ hk
    have hs : Rm.At (w.setCell ⟨g, 35, none⟩ (.bool false)) g P { r with taken := false } tv (.slice aa r.attrs.length ad) := ⟨hq.box.setTaken false, hq.toks.on (by simp) (fun k hk => hne k (hq.tvLt hk).1) (fun k hk _ _ hn => ⟨hn, hne k hk⟩), Rm.own_on hq.attrs (fun k hk => hne k (hq.avLt hk).1), hq.apart⟩
    exact hs.on ((Below.refl _ _).alloc (Nat.le_refl _) _)
end Go.Proofs.YtblpkjlodncpeaaGreatDoor
/-
  THE WALK of the reader's readAttr.
-/
namespace Go.Proofs.YtblpkjlodncpeaaGreatDoor
open Go.RowKit
theorem Ak.snoc {al : List (ByteArray × ByteArray)} {m : Nat} (h : al.length = m + 1) : ∃ init x, al = init ++ [x] ∧ init.length = m := by
  refine ⟨al.dropLast, al.getLast (by intro e; rw [e] at h; simp at h), (List.dropLast_concat_getLast _).symm, ?_⟩
  rw [List.length_dropLast]; omega
theorem Ak.setLast_snoc (init : List (ByteArray × ByteArray)) (x : ByteArray × ByteArray) (D : ByteArray) : Rd.setLast (init ++ [x]) D = init ++ [(x.1, D)] := by
  unfold Rd.setLast
  rw [List.length_append]
  simp only [List.length_cons, List.length_nil, Nat.zero_add, Nat.add_sub_cancel]
  induction init with
  | nil => rfl
  | cons a l ih => simpa using ih
theorem Ak.cells_set {al : List (ByteArray × ByteArray)} {m : Nat} (h : al.length = m + 1) (D : ByteArray) : (Ak.cells al).set (m * 2 + 1) (.string D) = Ak.cells (Rd.setLast al D) ∧ (Rd.setLast al D).length = m + 1 := by
  obtain ⟨init, x, rfl, hl⟩ := Ak.snoc h
  rw [Ak.setLast_snoc, Ak.cells_append, Ak.cells_append]
  have h2 := Ak.cells_length init
  rw [hl] at h2
  refine ⟨?_, by simp [hl]⟩
  rw [List.set_append_right _ _ (by omega), h2, Nat.add_sub_cancel_left]
  rfl
set_option maxHeartbeats 4000000 in
theorem Rm.readVal (r : Rd) (was now : Ts) (i : Nat) (w : World) (g : Nat) (P : ByteArray) (tv av : Value) (h : Rm.At w g P r tv av) (hP : P.size ≤ 65536) (hi : i ≤ P.size) (hv : r.value ≤ i) (ht : r.taken = true) (m : Nat) (hm : r.attrs.length = m + 1) (hm32 : m ≤ 32) (ne : was.pl ≠ now.pl) (h8 : was.pl = 8 ∨ was.pl = 9 ∨ was.pl = 10) :
    Calls Tryz.prog 77 #[.pointer (some ⟨g, 0, none⟩), .agg #[.int .i64 was.pl, .string was.name, .bool was.fin, .string was.attr, .string was.held, .int .i64 was.read], .agg #[.int .i64 now.pl, .string now.name, .bool now.fin, .string now.attr, .string now.held, .int .i64 now.read], .int .i64 (i : Int)] w fun e w' => e = .returned (.tuple #[]) ∧ ∃ tv' av', Rm.At w' g P { r with attrs := Rd.setLast r.attrs (Rd.dec (P.extract r.value i)) } tv' av' ∧ Rm.Kept w w' g tv av tv' av' := by
  obtain ⟨b, ad, rfl⟩ : ∃ b ad, av = .slice (some ⟨b, 0, none⟩) (m + 1) ad := by
    rcases h.attrs.2 with ⟨_, e⟩ | ⟨b, cap, cur, e, _⟩
    · omega
    · exact ⟨b, cap, by rw [e, hm]⟩
  have HH := Lib.hid h
  have hb0 : g < b := (h.avLt rfl).1
  have hb1 : b < w.heap.size := (h.avLt rfl).2
  obtain ⟨W, hW⟩ : ∃ W, (w.alloc (.cells #[.int .i64 was.pl, .string was.name, .bool was.fin, .string was.attr, .string was.held, .int .i64 was.read] 76)).alloc (.cells #[.int .i64 now.pl, .string now.name, .bool now.fin, .string now.attr, .string now.held, .int .i64 now.read] 76) = W := ⟨_, rfl⟩
  have hbW : Below w.heap.size w W := by rw [← hW]; exact Tp.two _ _ _
  have hA := h.on hbW
  have HA := Lib.hid hA
  have HB := Lib.hid hbW
  have x0 := hA.box.page
  have x33 := hA.box.value
  have x34 := hA.box.attrs
  have x35 := hA.box.taken
  have hW0 : W.cell? ⟨w.heap.size, 0, none⟩ = some (.int .i64 was.pl) := by rw [← hW]; simp
  have hW1 : W.cell? ⟨w.heap.size + 1, 0, none⟩ = some (.int .i64 now.pl) := by rw [← hW]; simp
  rw [ht] at x35
  have hcut := Rm.text_cut P r.value i hv hi
  have hsz := Rm.cut_size P r.value i
  have hD : ∀ u : World, Calls Tryz.prog 81 #[.string (P.extract r.value i)] u fun e w' => e = .returned (.string (Rd.dec (P.extract r.value i))) ∧ Below u.heap.size u w' := fun u => Rr.decode (P.extract r.value i) u (by omega)
  generalize Rd.dec (P.extract r.value i) = D at *
  generalize P.extract r.value i = E at *
  have t0 : (was.pl == now.pl) = false := beq_eq_false_iff_ne.2 ne
  have t5 : (was.pl == 5) = false := beq_eq_false_iff_ne.2 (by omega)
  have t7 : (was.pl == 7) = false := beq_eq_false_iff_ne.2 (by omega)
  have hgb : g ≠ b := by omega
  have hw1 : IntKind.i64.wrap ((m : Int) + 1 - 1) = (m : Int) := by rw [IntKind.wrap_i64]; omega
  have hw2 : IntKind.i64.wrap (m : Int) = (m : Int) := by rw [IntKind.wrap_i64]; omega
  have hl1 : (m : Int) < (m : Int) + 1 := by omega
  have hl2 : (0 : Int) ≤ (m : Int) := by omega
  have hbg : b ≠ g := by omega
  obtain ⟨vold, hvold⟩ : ∃ vold, W.cell? ⟨b, m * 2 + 1, none⟩ = some vold := by
    have hl := Ak.cells_length r.attrs
    rw [hm] at hl
    obtain ⟨y, hy⟩ : ∃ y, r.attrs[m]? = some y := ⟨_, List.getElem?_eq_getElem (by omega)⟩
    have := HA.out.attrs.cells (g := b) rfl _ _ (Ak.cells_get r.attrs m y hy).2
    rw [Ro.add, Nat.zero_add] at this
    exact ⟨_, this⟩
  have hvf : ∀ j, W.frozen? ⟨b, j, none⟩ = false := fun j => by
    have := HA.out.attrs
    rw [hm] at this
    exact this.frozenAt j
  clear ne h hbW hA hv hi
  rcases h8 with e8 | e8 | e8
  all_goals
    try (have q8 : (was.pl == 8) = true := beq_iff_eq.2 e8)
    try (have q9 : (was.pl == 9) = true := beq_iff_eq.2 e8)
    try (have q10 : (was.pl == 10) = true := beq_iff_eq.2 e8)
    try (have q8 : (was.pl == 8) = false := beq_eq_false_iff_ne.2 (by omega))
    try (have q9 : (was.pl == 9) = false := beq_eq_false_iff_ne.2 (by omega))
    clear e8
    go_enter Tryz.func77, Tryz.ntmps77
    go_wp2_with (refine Vm.stop 8 ?_)
    try rw [hW]
    refine ⟨?_⟩
    go_wp2_with fail
    go_region_held (fun u => u.cell? ⟨g, 0, none⟩ = some (.string P) ∧ u.cell? ⟨g, 33, none⟩ = some (.int .i64 (r.value : Int)) ∧ u.cell? ⟨g, 34, none⟩ = some (.slice (some ⟨b, 0, none⟩) (m + 1) ad)) (go_keep) (first | (go_at_call 81; refine (hD _).mono ?_; rintro e w1 ⟨rfl, hb1⟩; have y0 := Tp.keep hb1 x0; have y33 := Tp.keep hb1 x33; have y34 := Tp.keep hb1 x34; have yv := Tp.keep hb1 hvold; have yf := Tp.keepF hb1 (b := b) (by first | omega | (simp; omega) | exact World.block_lt_of_cell? _ _ hvold) hvf; have HB1 := Lib.hid hb1; clear hb1))
    all_goals go_wp2
    all_goals go_end0
    all_goals
      have hb1 : Below W.heap.size W w1 := (Below.refl W.heap.size W).drew.trans HB1.out
      have hq := HA.out.on hb1
      have hne : ∀ k, k ≠ b → (w1.setCell ⟨b, m * 2 + 1, none⟩ (.string D)).heap[k]? = w1.heap[k]? := fun k hk => Below.heap_setCell _ _ _ _ hk
      refine ⟨rfl, tv, .slice (some ⟨b, 0, none⟩) (m + 1) ad, ⟨hq.box.on (by simp) (fun k hk => hne k (by omega)), hq.toks.on (by simp) (fun k hk => hne k (fun e => hq.apart k hk (by rw [e]; rfl))) (fun k _ _ _ hn => ⟨hn, hne k (fun e => hn (by rw [e]; rfl))⟩), ?_, hq.apart⟩, (Rm.Kept.of g _ _ (HB.out.trans (hb1.mono HB.out.size))).trans ⟨rfl, rfl, rfl, by simp, fun k _ hf => ⟨hne k (fun e => hf.2.2 (by rw [e]; rfl)), hf⟩⟩⟩
      have ho := hq.attrs
      rw [hm] at ho
      have hst := (ho.stored (m * 2 + 1) (.string D)).1
      obtain ⟨h1, h2⟩ := Ak.cells_set hm D
      rw [h1] at hst
      rw [h2]
      exact hst
end Go.Proofs.YtblpkjlodncpeaaGreatDoor
/-
  THE WALK of the reader's readAttr, whole.
-/
namespace Go.Proofs.YtblpkjlodncpeaaGreatDoor
open Go.RowKit
theorem Rm.At.setValue {w : World} {g : Nat} {P : ByteArray} {r : Rd} {tv av : Value} (h : Rm.At w g P r tv av) (n : Nat) : Rm.At (w.setCell ⟨g, 33, none⟩ (.int .i64 (n : Int))) g P { r with value := n } tv av := by
  have hne : ∀ k, g + 1 ≤ k → (w.setCell ⟨g, 33, none⟩ (.int .i64 (n : Int))).heap[k]? = w.heap[k]? := fun k hk => Rm.set_ne _ _ _ _ hk
  exact ⟨h.box.setValue n, h.toks.on (by simp) (fun k hk => hne k (h.tvLt hk).1) (fun k hk _ _ hn => ⟨hn, hne k hk⟩), Rm.own_on h.attrs (fun k hk => hne k (h.avLt hk).1), h.apart⟩
set_option maxHeartbeats 4000000 in
theorem Rm.readAttr (r : Rd) (was now : Ts) (i : Nat) (w : World) (g : Nat) (P : ByteArray) (tv av : Value) (h : Rm.At w g P r tv av) (hP : P.size ≤ 65536) (hi : i ≤ P.size) (hv : (was.pl = 8 ∨ was.pl = 9 ∨ was.pl = 10) → r.value ≤ i) (ht : (was.pl = 8 ∨ was.pl = 9 ∨ was.pl = 10) → r.taken = true → r.attrs ≠ []) (hn : r.attrs.length ≤ 32) :
    Calls Tryz.prog 77 #[.pointer (some ⟨g, 0, none⟩), .agg #[.int .i64 was.pl, .string was.name, .bool was.fin, .string was.attr, .string was.held, .int .i64 was.read], .agg #[.int .i64 now.pl, .string now.name, .bool now.fin, .string now.attr, .string now.held, .int .i64 now.read], .int .i64 (i : Int)] w fun e w' => e = .returned (.tuple #[]) ∧ ∃ tv' av', Rm.At w' g P (Rd.readAttr P r was now i) tv' av' ∧ Rm.Kept w w' g tv av tv' av' := by
  have HH := Lib.hid h
  obtain ⟨W, hW⟩ : ∃ W, (w.alloc (.cells #[.int .i64 was.pl, .string was.name, .bool was.fin, .string was.attr, .string was.held, .int .i64 was.read] 76)).alloc (.cells #[.int .i64 now.pl, .string now.name, .bool now.fin, .string now.attr, .string now.held, .int .i64 now.read] 76) = W := ⟨_, rfl⟩
  have hbW : Below w.heap.size w W := by rw [← hW]; exact Tp.two _ _ _
  have hA := h.on hbW
  have HA := Lib.hid hA
  have HB := Lib.hid hbW
  have x33 := hA.box.value
  have x35 := hA.box.taken
  have xf := hA.box.fz
  have k0 : W.cell? ⟨w.heap.size, 0, none⟩ = some (.int .i64 was.pl) := by rw [← hW]; simp
  have k3 : W.cell? ⟨w.heap.size, 3, none⟩ = some (.string was.attr) := by rw [← hW]; simp
  have m0 : W.cell? ⟨w.heap.size + 1, 0, none⟩ = some (.int .i64 now.pl) := by rw [← hW]; simp
  have hlt := h.lt
  have n1 : w.heap.size ≠ g := by omega
  have n2 : w.heap.size + 1 ≠ g := by omega
  have n3 : g ≠ w.heap.size := by omega
  have n4 : g ≠ w.heap.size + 1 := by omega
  by_cases e0 : was.pl = now.pl
  · have t0 : (was.pl == now.pl) = true := beq_iff_eq.2 e0
    have HR : Hid (Rd.readAttr P r was now i = r) := by unfold Rd.readAttr Hid; rw [if_pos e0]
    clear e0 h hA hbW hv ht
    go_enter Tryz.func77, Tryz.ntmps77
    go_wp2_with (refine Vm.stop 8 ?_)
    try rw [hW]
    refine ⟨?_⟩
    go_wp2
    refine bodyPost_ret (v := .tuple #[]) (by simp [results, Tryz.results77, go_sem]) rfl ⟨rfl, tv, av, ?_, Rm.Kept.of g _ _ HB.out⟩
    rw [HR.out]
    exact HA.out
  have t0 : (was.pl == now.pl) = false := beq_eq_false_iff_ne.2 e0
  by_cases e5 : was.pl = 5
  · have t5 : (was.pl == 5) = true := beq_iff_eq.2 e5
    have HR : Hid (Rd.readAttr P r was now i = r.addAttr was.attr) := by unfold Rd.readAttr Hid; rw [if_neg e0, if_pos e5]
    have hadd := Rm.addAttr r was.attr W g P tv av HA.out hn
    clear e0 e5 h hA hbW hv ht
    go_enter Tryz.func77, Tryz.ntmps77
    go_wp2_with (refine Vm.stop 8 ?_)
    try rw [hW]
    refine ⟨?_⟩
    go_wp2_with (go_at_call 109; refine hadd.mono ?_; rintro e w1 ⟨rfl, tv1, av1, hA1, hK1⟩)
    go_end0
    refine ⟨rfl, tv1, av1, ?_, (Rm.Kept.of g _ _ HB.out).trans hK1⟩
    rw [HR.out]
    exact hA1
  have t5 : (was.pl == 5) = false := beq_eq_false_iff_ne.2 e5
  by_cases e7 : was.pl = 7
  · have t7 : (was.pl == 7) = true := beq_iff_eq.2 e7
    have hw : IntKind.i64.wrap ((i : Int) + 1) = (i : Int) + 1 := by rw [IntKind.wrap_i64]; omega
    by_cases e10 : now.pl = 10
    · have t10 : (now.pl != 10) = false := by simp [e10]
      have HR : Hid (Rd.readAttr P r was now i = { r with value := i }) := by unfold Rd.readAttr Hid; rw [if_neg e0, if_neg e5, if_pos e7, if_pos e10]
      clear e0 e5 e7 e10 h hA hbW hv ht
      go_enter Tryz.func77, Tryz.ntmps77
      go_wp2_with (refine Vm.stop 8 ?_)
      try rw [hW]
      refine ⟨?_⟩
      go_wp2
      go_end0
      refine ⟨rfl, tv, av, ?_, (Rm.Kept.of g _ _ HB.out).trans (Rm.Kept.set _ _ _ _ _ _)⟩
      rw [HR.out]
      exact HA.out.setValue i
    · have t10 : (now.pl != 10) = true := by simp [e10]
      have HR : Hid (Rd.readAttr P r was now i = { r with value := i + 1 }) := by unfold Rd.readAttr Hid; rw [if_neg e0, if_neg e5, if_pos e7, if_neg e10]
      clear e0 e5 e7 e10 h hA hbW hv ht
      go_enter Tryz.func77, Tryz.ntmps77
      go_wp2_with (first | refine Vm.stop 8 ?_ | refine Vm.stop 27 ?_)
      try rw [hW]
      refine ⟨?_⟩
      go_wp2_with (refine Vm.stop 27 ?_)
      have hV := HA.out.setValue i
      have HV := Lib.hid hV
      have HKV := Lib.hid (Rm.Kept.set W g 33 (.int .i64 (i : Int)) tv av)
      have y33 := hV.box.value
      have yf := hV.box.fz
      have m0' : (W.setCell ⟨g, 33, none⟩ (.int .i64 (i : Int))).cell? ⟨w.heap.size + 1, 0, none⟩ = some (.int .i64 now.pl) := (Rm.out _ _ _ _ n2 _).trans m0
      generalize W.setCell ⟨g, 33, none⟩ (.int .i64 (i : Int)) = W2 at *
      clear hV x33 x35 xf k0 k3 m0 hW
      refine ⟨?_⟩
      go_wp2
      go_end0
      refine ⟨rfl, tv, av, ?_, (Rm.Kept.of g _ _ HB.out).trans (HKV.out.trans (Rm.Kept.set _ _ _ _ _ _))⟩
      rw [HR.out]
      exact HV.out.setValue (i + 1)
  have t7 : (was.pl == 7) = false := beq_eq_false_iff_ne.2 e7
  by_cases e8 : was.pl = 8 ∨ was.pl = 9 ∨ was.pl = 10
  · cases htk : r.taken with
    | true =>
      have hne := ht e8 htk
      obtain ⟨m, hm⟩ : ∃ m, r.attrs.length = m + 1 := ⟨r.attrs.length - 1, by have : r.attrs.length ≠ 0 := (fun q => hne (List.eq_nil_of_length_eq_zero q)); omega⟩
      have hh := Rm.readVal r was now i w g P tv av h hP hi (hv e8) htk m hm (by omega) e0 e8
      have HR : Rd.readAttr P r was now i = { r with attrs := Rd.setLast r.attrs (Rd.dec (P.extract r.value i)) } := by unfold Rd.readAttr; rw [if_neg e0, if_neg e5, if_neg e7, if_pos e8, if_pos htk]
      rw [HR]
      exact hh
    | false =>
      rw [htk] at x35
      have HR : Hid (Rd.readAttr P r was now i = r) := by unfold Rd.readAttr Hid; rw [if_neg e0, if_neg e5, if_neg e7, if_pos e8, if_neg (by rw [htk]; decide)]
      rcases e8 with e8 | e8 | e8
      all_goals
        try (have q8 : (was.pl == 8) = true := beq_iff_eq.2 e8)
        try (have q9 : (was.pl == 9) = true := beq_iff_eq.2 e8)
        try (have q10 : (was.pl == 10) = true := beq_iff_eq.2 e8)
        try (have q8 : (was.pl == 8) = false := beq_eq_false_iff_ne.2 (by omega))
        try (have q9 : (was.pl == 9) = false := beq_eq_false_iff_ne.2 (by omega))
        clear e0 e5 e7 e8 h hA hbW hv ht
        go_enter Tryz.func77, Tryz.ntmps77
        go_wp2_with (refine Vm.stop 8 ?_)
        try rw [hW]
        refine ⟨?_⟩
        go_wp2
        go_end0
        refine ⟨rfl, tv, av, ?_, Rm.Kept.of g _ _ HB.out⟩
        rw [HR.out]
        exact HA.out
  · have q8 : (was.pl == 8) = false := beq_eq_false_iff_ne.2 (fun q => e8 (.inl q))
    have q9 : (was.pl == 9) = false := beq_eq_false_iff_ne.2 (fun q => e8 (.inr (.inl q)))
    have q10 : (was.pl == 10) = false := beq_eq_false_iff_ne.2 (fun q => e8 (.inr (.inr q)))
    have HR : Hid (Rd.readAttr P r was now i = r) := by unfold Rd.readAttr Hid; rw [if_neg e0, if_neg e5, if_neg e7, if_neg e8]
    clear e0 e5 e7 e8 h hA hbW hv ht
    go_enter Tryz.func77, Tryz.ntmps77
    go_wp2_with (refine Vm.stop 8 ?_)
    try rw [hW]
    refine ⟨?_⟩
    go_wp2
    go_end0
    refine ⟨rfl, tv, av, ?_, Rm.Kept.of g _ _ HB.out⟩
    rw [HR.out]
    exact HA.out
end Go.Proofs.YtblpkjlodncpeaaGreatDoor
/-
  THE WALKS of the reader's tellComment and tellTag.
-/
namespace Go.Proofs.YtblpkjlodncpeaaGreatDoor
open Go.RowKit
set_option maxHeartbeats 2000000 in
theorem Rm.tellComment (r : Rd) (s : Ts) (i : Nat) (w : World) (g : Nat) (P : ByteArray) (tv av : Value) (h : Rm.At w g P r tv av) (hP : P.size ≤ 65536) (hi : i ≤ P.size) (h2 : s.pl ≠ 17 → r.opn + 2 ≤ i) (h4 : s.pl = 17 → r.opn + 6 ≤ i) (hn : r.toks.length ≤ 1000000) :
    Calls Tryz.prog 79 #[.pointer (some ⟨g, 0, none⟩), .agg #[.int .i64 s.pl, .string s.name, .bool s.fin, .string s.attr, .string s.held, .int .i64 s.read], .int .i64 (i : Int)] w fun e w' => e = .returned (.tuple #[]) ∧ ∃ tv' av', Rm.At w' g P (Rd.tellComment P r s i) tv' av' ∧ Rm.Kept w w' g tv av tv' av' := by
  have hbA : Below w.heap.size w (w.alloc (.cells #[.int .i64 s.pl, .string s.name, .bool s.fin, .string s.attr, .string s.held, .int .i64 s.read] 76)) := (Below.refl _ _).alloc (Nat.le_refl _) _
  have c0 := h.box.page
  have c32 := h.box.opn
  have hlt := h.lt
  have n1 : w.heap.size ≠ g := by omega
  have n2 : g ≠ w.heap.size := by omega
  have HH := Lib.hid h
  have hw : IntKind.i64.wrap ((i : Int) + 1) = ((i + 1 : Nat) : Int) := by rw [IntKind.wrap_i64]; omega
  by_cases e : s.pl = 17
  · have hle := h4 e
    have t0 : (s.pl == 17) = true := beq_iff_eq.2 e
    have HT : Hid (Rd.tellComment P r s i = r.tell ⟨3, Ts.e, P.extract (r.opn + 4) (i - 2), [], false⟩ (i + 1)) := by unfold Rd.tellComment Hid; rw [if_pos e]
    have hcut := Rm.text_cut P (r.opn + 4) (i - 2) (by omega) (by omega)
    rw [show ((r.opn + 4 : Nat) : Int) = (r.opn : Int) + 4 by omega, show ((i - 2 : Nat) : Int) = (i : Int) - 2 by omega] at hcut
    have hsz := Rm.cut_size P (r.opn + 4) (i - 2)
    generalize P.extract (r.opn + 4) (i - 2) = C at *
    have tell := fun (u : World) (hb : Below w.heap.size w u) => Rm.tell r ⟨3, Ts.e, C, [], false⟩ (.slice none 0 0) (i + 1) u g P tv av (HH.out.on hb) (Ak.Lies.nil _ _) hn
    rw [show ((i + 1 : Nat) : Int) = (i : Int) + 1 by omega] at tell
    have hC := fun u : World => Tp.clone C u (by omega)
    clear h h2 h4 e hw
    go_enter Tryz.func79, Tryz.ntmps79
    go_wp2_with (first | (go_at_call 28; refine (hC _).mono ?_; rintro e w1 ⟨rfl, hb1⟩; have q1 : Below w.heap.size w w1 := hbA.trans (hb1.mono (by first | (simp; done) | omega)); clear hb1) | (go_at_call 75; refine (tell _ q1).mono ?_; rintro e w2 ⟨rfl, tv2, hA, hK⟩))
    go_end0
    refine ⟨rfl, tv2, .slice none 0 0, ?_, (Rm.Kept.of g tv av q1).trans hK⟩
    rw [HT.out]
    exact hA
  · have hle := h2 e
    have t0 : (s.pl == 17) = false := beq_eq_false_iff_ne.2 e
    have HT : Hid (Rd.tellComment P r s i = r.tell ⟨3, Ts.e, P.extract (r.opn + 2) (i), [], false⟩ (i + 1)) := by unfold Rd.tellComment Hid; rw [if_neg e]
    have hcut := Rm.text_cut P (r.opn + 2) (i) (by omega) (by omega)
    rw [show ((r.opn + 2 : Nat) : Int) = (r.opn : Int) + 2 by omega] at hcut
    have hsz := Rm.cut_size P (r.opn + 2) (i)
    generalize P.extract (r.opn + 2) (i) = C at *
    have tell := fun (u : World) (hb : Below w.heap.size w u) => Rm.tell r ⟨3, Ts.e, C, [], false⟩ (.slice none 0 0) (i + 1) u g P tv av (HH.out.on hb) (Ak.Lies.nil _ _) hn
    rw [show ((i + 1 : Nat) : Int) = (i : Int) + 1 by omega] at tell
    have hC := fun u : World => Tp.clone C u (by omega)
    clear h h2 h4 e hw
    go_enter Tryz.func79, Tryz.ntmps79
    go_wp2_with (first | (go_at_call 28; refine (hC _).mono ?_; rintro e w1 ⟨rfl, hb1⟩; have q1 : Below w.heap.size w w1 := hbA.trans (hb1.mono (by first | (simp; done) | omega)); clear hb1) | (go_at_call 75; refine (tell _ q1).mono ?_; rintro e w2 ⟨rfl, tv2, hA, hK⟩))
    go_end0
    refine ⟨rfl, tv2, .slice none 0 0, ?_, (Rm.Kept.of g tv av q1).trans hK⟩
    rw [HT.out]
    exact hA
set_option maxHeartbeats 4000000 in
theorem Rm.tellTag (r : Rd) (s : Ts) (i : Nat) (w : World) (g : Nat) (P : ByteArray) (tv av : Value) (h : Rm.At w g P r tv av) (hi : i ≤ 65536) (hn : r.toks.length ≤ 1000000) :
    Calls Tryz.prog 78 #[.pointer (some ⟨g, 0, none⟩), .agg #[.int .i64 s.pl, .string s.name, .bool s.fin, .string s.attr, .string s.held, .int .i64 s.read], .int .i64 (i : Int)] w fun e w' => e = .returned (.tuple #[]) ∧ ∃ tv' av', Rm.At w' g P (r.tellTag s i) tv' av' ∧ Rm.Kept w w' g tv av tv' av' := by
  obtain ⟨p, n, f, at', he, rd⟩ := s
  simp only
  have hbA : Below w.heap.size w (w.alloc (.cells #[.int .i64 p, .string n, .bool f, .string at', .string he, .int .i64 rd] 76)) := (Below.refl _ _).alloc (Nat.le_refl _) _
  have c34 := h.box.attrs
  have hlt := h.lt
  have n1 : w.heap.size ≠ g := by omega
  have n2 : g ≠ w.heap.size := by omega
  have HH := Lib.hid h
  cases f with
  | true =>
    have HT : Hid (r.tellTag ⟨p, n, true, at', he, rd⟩ i = r.tell ⟨2, n, Ts.e, [], false⟩ (i + 1)) := rfl
    have tell := fun (u : World) (hb : Below w.heap.size w u) => Rm.tell r ⟨2, n, Ts.e, [], false⟩ (.slice none 0 0) (i + 1) u g P tv av (HH.out.on hb) (Ak.Lies.nil _ _) hn
    rw [show ((i + 1 : Nat) : Int) = (i : Int) + 1 by omega] at tell
    clear h
    go_enter Tryz.func78, Tryz.ntmps78
    go_wp2_with (go_at_call 75; refine (tell _ hbA).mono ?_; rintro e w2 ⟨rfl, tv2, hA, hK⟩)
    refine bodyPost_ret (v := .tuple #[]) (by simp [results, Tryz.results78, go_sem]) rfl ⟨rfl, tv2, .slice none 0 0, ?_, (Rm.Kept.of g tv av hbA).trans hK⟩
    rw [HT.out]
    exact hA
  | false =>
    have HT : Hid (r.tellTag ⟨p, n, false, at', he, rd⟩ i = r.tell ⟨1, n, Ts.e, r.attrs, p == 12⟩ (i + 1)) := rfl
    have tell := fun (u : World) (hb : Below w.heap.size w u) => Rm.tell r ⟨1, n, Ts.e, r.attrs, p == 12⟩ av (i + 1) u g P tv av (HH.out.on hb) ((Ak.Lies.own (HH.out.on hb).attrs).on fun k hk => ⟨⟨((HH.out.on hb).avLt hk).1, ((HH.out.on hb).avLt hk).2, fun e => HH.out.apart k e hk, Rm.Ub.own (HH.out.on hb).attrs hk⟩, rfl⟩) hn
    rw [show ((i + 1 : Nat) : Int) = (i : Int) + 1 by omega] at tell
    obtain ⟨aa, ad, rfl⟩ := Rm.form h.attrs
    have hw : IntKind.i64.wrap ((i : Int) + 1) = (i : Int) + 1 := by rw [IntKind.wrap_i64]; omega
    clear h
    go_enter Tryz.func78, Tryz.ntmps78
    go_wp2_with fail
    go_region_with (go_at_call 75; refine (tell _ hbA.drew).mono ?_; rintro e w2 ⟨rfl, tv2, hA, hK⟩)
    all_goals go_wp2
    all_goals go_end0
    all_goals refine ⟨rfl, tv2, .slice none 0 0, ?_, (Rm.Kept.of g tv _ hbA.drew).trans hK⟩
    all_goals rw [HT.out]
    all_goals exact hA
end Go.Proofs.YtblpkjlodncpeaaGreatDoor

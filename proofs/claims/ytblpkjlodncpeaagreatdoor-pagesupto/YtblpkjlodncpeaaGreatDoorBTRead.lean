/-
  THE WALK of the reader's read, up to its switch.
-/
import Derived.Test.YtblpkjlodncpeaaGreatDoorBTRdBtoTText3
import Derived.Deep.RegionHeld
import Derived.Deep.Cut
import Derived.Deep.CutRange
namespace Go.Proofs.YtblpkjlodncpeaaGreatDoor
open Go.RowKit
structure Rm.Six (w : World) (q : Nat) (s : Ts) : Prop where
 c0 : w.cell? ⟨q, 0, none⟩ = some (.int .i64 s.pl)
 c1 : w.cell? ⟨q, 1, none⟩ = some (.string s.name)
 c2 : w.cell? ⟨q, 2, none⟩ = some (.bool s.fin)
 c3 : w.cell? ⟨q, 3, none⟩ = some (.string s.attr)
 c4 : w.cell? ⟨q, 4, none⟩ = some (.string s.held)
 c5 : w.cell? ⟨q, 5, none⟩ = some (.int .i64 s.read)
theorem Rm.Six.lt {w : World} {q : Nat} {s : Ts} (h : Rm.Six w q s) : q < w.heap.size := World.block_lt_of_cell? _ _ h.c0
theorem Rm.Six.of {w w' : World} {q : Nat} {s : Ts} (h : Rm.Six w q s) (hw : w'.heap[q]? = w.heap[q]?) : Rm.Six w' q s := ⟨Rm.cell_of h.c0 hw, Rm.cell_of h.c1 hw, Rm.cell_of h.c2 hw, Rm.cell_of h.c3 hw, Rm.cell_of h.c4 hw, Rm.cell_of h.c5 hw⟩
theorem Rm.Six.on {w w' : World} {q : Nat} {s : Ts} (h : Rm.Six w q s) (hb : Below w.heap.size w w') : Rm.Six w' q s := h.of (hb.block q h.lt)
theorem Rm.Six.new (w : World) (s : Ts) (q : Nat) (hq : q = w.heap.size) : Rm.Six (w.alloc (.cells #[.int .i64 s.pl, .string s.name, .bool s.fin, .string s.attr, .string s.held, .int .i64 s.read] 76)) q s := by
 subst hq
 exact ⟨by simp, by simp, by simp, by simp, by simp, by simp⟩
theorem Rd.tellText_len (P : ByteArray) (r : Rd) (f : Nat) (h : ByteArray) : (Rd.tellText P r f h).toks.length ≤ r.toks.length + 1 := by
 unfold Rd.tellText
 split
 ·
  omega
 ·
  simp [Rd.tell]
theorem Rd.readAttr_toks (P : ByteArray) (r : Rd) (was now : Ts) (i : Nat) : (Rd.readAttr P r was now i).toks = r.toks := by
 unfold Rd.readAttr Rd.addAttr
 repeat' split
 all_goals rfl
theorem Rm.At.setStateAt {w : World} {g : Nat} {P : ByteArray} {r : Rd} {tv av : Value} (h : Rm.At w g P r tv av) (s : Ts) : Rm.At ((((((w.setCell ⟨g, 24, none⟩ (.int .i64 s.pl)).setCell ⟨g, 25, none⟩ (.string s.name)).setCell ⟨g, 26, none⟩ (.bool s.fin)).setCell ⟨g, 27, none⟩ (.string s.attr)).setCell ⟨g, 28, none⟩ (.string s.held)).setCell ⟨g, 29, none⟩ (.int .i64 s.read)) g P { r with st := s } tv av := by
 have hne : ∀ k, g + 1 ≤ k → ((((((w.setCell ⟨g, 24, none⟩ (.int .i64 s.pl)).setCell ⟨g, 25, none⟩ (.string s.name)).setCell ⟨g, 26, none⟩ (.bool s.fin)).setCell ⟨g, 27, none⟩ (.string s.attr)).setCell ⟨g, 28, none⟩ (.string s.held)).setCell ⟨g, 29, none⟩ (.int .i64 s.read)).heap[k]? = w.heap[k]? := fun k hk => by
  rw [Rm.set_ne _ _ _ _ hk, Rm.set_ne _ _ _ _ hk, Rm.set_ne _ _ _ _ hk, Rm.set_ne _ _ _ _ hk, Rm.set_ne _ _ _ _ hk, Rm.set_ne _ _ _ _ hk]
 exact ⟨h.box.setState s, h.toks.on (by simp) (fun k hk => hne k (h.tvLt hk).1) (fun k hk _ _ hn => ⟨hn, hne k hk⟩), Rm.own_on h.attrs (fun k hk => hne k (h.avLt hk).1), h.apart⟩
theorem Rm.Kept.set6 (w : World) (g j0 j1 j2 j3 j4 j5 : Nat) (v0 v1 v2 v3 v4 v5 tv av : Value) : Rm.Kept w ((((((w.setCell ⟨g, j0, none⟩ v0).setCell ⟨g, j1, none⟩ v1).setCell ⟨g, j2, none⟩ v2).setCell ⟨g, j3, none⟩ v3).setCell ⟨g, j4, none⟩ v4).setCell ⟨g, j5, none⟩ v5) g tv av tv av :=
 ((((((Rm.Kept.refl _ _ _ _).trans (Rm.Kept.set _ _ _ _ _ _)).trans (Rm.Kept.set _ _ _ _ _ _)).trans (Rm.Kept.set _ _ _ _ _ _)).trans (Rm.Kept.set _ _ _ _ _ _)).trans (Rm.Kept.set _ _ _ _ _ _)).trans (Rm.Kept.set _ _ _ _ _ _)
theorem Rm.At.setOpn {w : World} {g : Nat} {P : ByteArray} {r : Rd} {tv av : Value} (h : Rm.At w g P r tv av) (n : Nat) : Rm.At (w.setCell ⟨g, 32, none⟩ (.int .i64 (n : Int))) g P { r with opn := n } tv av := by
 have hne : ∀ k, g + 1 ≤ k → (w.setCell ⟨g, 32, none⟩ (.int .i64 (n : Int))).heap[k]? = w.heap[k]? := fun k hk => Rm.set_ne _ _ _ _ hk
 exact ⟨h.box.setOpn n, h.toks.on (by simp) (fun k hk => hne k (h.tvLt hk).1) (fun k hk _ _ hn => ⟨hn, hne k hk⟩), Rm.own_on h.attrs (fun k hk => hne k (h.avLt hk).1), h.apart⟩
set_option maxHeartbeats 4000000 in
theorem Rm.read (r : Rd) (i : Nat) (c : UInt8) (N : Ts) (o : Nat) (w : World) (g : Nat) (P : ByteArray) (tv av : Value) (h : Rm.At w g P r tv av) (hP : P.size ≤ 65536) (hi : i < P.size) (hc : P[i] = c) (hf : r.st.Fits) (hN : r.st.step c = N) (ho : (if N.pl = 1 ∨ N.pl = 20 then i else r.opn) = o)
  (hTx : (r.st.pl = 22 ∧ N.pl = 0) ∨ (Rd.loose r.st.pl = true ∧ Rd.loose N.pl = false) → r.text ≤ o ∧ o ≤ P.size)
  (hCm : Ts.inTag r.st.pl = false → Rd.loose r.st.pl = false → Rd.loose N.pl = true → (r.st.pl ≠ 17 → o + 2 ≤ i) ∧ (r.st.pl = 17 → o + 6 ≤ i))
  (hv : (r.st.pl = 8 ∨ r.st.pl = 9 ∨ r.st.pl = 10) → r.value ≤ i) (ht : (r.st.pl = 8 ∨ r.st.pl = 9 ∨ r.st.pl = 10) → r.taken = true → r.attrs ≠ []) (hna : r.attrs.length ≤ 32) (hnt : r.toks.length ≤ 900000) :
  Calls Tryz.prog 34 #[.pointer (some ⟨g, 0, none⟩), .int .i64 (i : Int)] w fun e w' => e = .returned (.tuple #[]) ∧ ∃ tv' av', Rm.At w' g P (Rd.read P r i c) tv' av' ∧ Rm.Kept w w' g tv av tv' av' := by
 have HH := Lib.hid h
 have x0 := h.box.page
 have x24 := h.box.s0
 have x25 := h.box.s1
 have x26 := h.box.s2
 have x27 := h.box.s3
 have x28 := h.box.s4
 have x29 := h.box.s5
 have hlt := h.lt
 have n1 : w.heap.size ≠ g := by omega
 have n3 : g ≠ w.heap.size := by omega
 have n5 : w.heap.size + 1 ≠ g := by omega
 have n6 : g ≠ w.heap.size + 1 := by omega
 have hcn : P[i].toNat = c.toNat := by rw [hc]
 have hst := fun (u : World) (hb : Below w.heap.size w u) => Tp.step r.st c u g 1 (h.box.tab.on hb) hf
 have HRead : Hid (Rd.read P r i c = if r.st.pl = 22 ∧ N.pl = 0 then (Rd.tellText P ⟨N, r.toks, r.text, o, r.value, r.attrs, r.taken⟩ o r.st.held).tell ⟨2, r.st.held, Ts.e, [], false⟩ (i + 1) else if Rd.loose r.st.pl = true ∧ Rd.loose N.pl = false then Rd.tellText P ⟨N, r.toks, r.text, o, r.value, r.attrs, r.taken⟩ o r.st.held else if Ts.inTag r.st.pl = true then Rd.tags P ⟨N, r.toks, r.text, o, r.value, r.attrs, r.taken⟩ r.st i else if Rd.loose r.st.pl = false ∧ Rd.loose N.pl = true then Rd.tellComment P ⟨N, r.toks, r.text, o, r.value, r.attrs, r.taken⟩ r.st i else ⟨N, r.toks, r.text, o, r.value, r.attrs, r.taken⟩) := by
  unfold Hid Rd.read
  simp only [hN, ho]
 generalize hRR : Rd.read P r i c = RR at *
 clear hRR
 rw [hN] at hst
 have HTx := Lib.hid hTx
 have HCm := Lib.hid hCm
 have HV := Lib.hid hv
 have HTk := Lib.hid ht
 have HOo := Lib.hid ho
 clear hN hc h hf hTx hCm hv ht ho
 go_enter Tryz.func34, Tryz.ntmps34
 go_wp2_with fail
 obtain ⟨W, hW⟩ : ∃ W, w.alloc (.cells #[.int .i64 r.st.pl, .string r.st.name, .bool r.st.fin, .string r.st.attr, .string r.st.held, .int .i64 r.st.read] 76) = W := ⟨_, rfl⟩
 have hbW : Below w.heap.size w W := by rw [← hW]; exact (Below.refl _ _).alloc (Nat.le_refl _) _
 have hS : Rm.Six W w.heap.size r.st := by rw [← hW]; exact Rm.Six.new w r.st _ rfl
 have hsW : W.heap.size = w.heap.size + 1 := by rw [← hW]; simp
 have k0 := hS.c0
 have k1 := hS.c1
 have k2 := hS.c2
 have k3 := hS.c3
 have k4 := hS.c4
 have k5 := hS.c5
 have y0 := Tp.keep hbW x0
 have HB := Lib.hid hbW
 have HS := Lib.hid hS
 rw [hW]
 clear hW hbW hS x0 x24 x25 x26 x27 x28 x29
 go_cut [5] from 10 to 20 (fun s5 wc => ∃ q, s5 = .pointer (some ⟨q, 0, none⟩) ∧ W.heap.size ≤ q ∧ Rm.Six wc q N ∧ Below W.heap.size W wc)
 case first =>
  go_region_held (fun u => u.cell? ⟨w.heap.size, 0, none⟩ = some (.int .i64 r.st.pl) ∧ u.cell? ⟨w.heap.size, 1, none⟩ = some (.string r.st.name) ∧ u.cell? ⟨w.heap.size, 2, none⟩ = some (.bool r.st.fin) ∧ u.cell? ⟨w.heap.size, 3, none⟩ = some (.string r.st.attr) ∧ u.cell? ⟨w.heap.size, 4, none⟩ = some (.string r.st.held) ∧ u.cell? ⟨w.heap.size, 5, none⟩ = some (.int .i64 r.st.read) ∧ u.cell? ⟨g, 0, none⟩ = some (.string P)) (go_keep) (first | (go_at_call 74; refine (hst _ (by first | exact HB.out.drew | exact HB.out.drew.alloc (by first | (simp; omega) | omega) _ | exact (HB.out.alloc (by first | (simp; omega) | omega) _).drew)).mono ?_; rintro e w1 ⟨rfl, hb1⟩; have l0 := Tp.keep hb1 (b := w.heap.size) (o := 0) (v := .int .i64 r.st.pl) (by first | exact k0 | exact (World.cell?_alloc_lt _ _ _ (by first | (simp; omega) | omega)).trans k0); have l1 := Tp.keep hb1 (b := w.heap.size) (o := 1) (v := .string r.st.name) (by first | exact k1 | exact (World.cell?_alloc_lt _ _ _ (by first | (simp; omega) | omega)).trans k1); have l2 := Tp.keep hb1 (b := w.heap.size) (o := 2) (v := .bool r.st.fin) (by first | exact k2 | exact (World.cell?_alloc_lt _ _ _ (by first | (simp; omega) | omega)).trans k2); have l3 := Tp.keep hb1 (b := w.heap.size) (o := 3) (v := .string r.st.attr) (by first | exact k3 | exact (World.cell?_alloc_lt _ _ _ (by first | (simp; omega) | omega)).trans k3); have l4 := Tp.keep hb1 (b := w.heap.size) (o := 4) (v := .string r.st.held) (by first | exact k4 | exact (World.cell?_alloc_lt _ _ _ (by first | (simp; omega) | omega)).trans k4); have l5 := Tp.keep hb1 (b := w.heap.size) (o := 5) (v := .int .i64 r.st.read) (by first | exact k5 | exact (World.cell?_alloc_lt _ _ _ (by first | (simp; omega) | omega)).trans k5); have l6 := Tp.keep hb1 (b := g) (o := 0) (v := .string P) (by first | exact y0 | exact (World.cell?_alloc_lt _ _ _ (by first | (simp; omega) | omega)).trans y0); obtain ⟨hcR, hfR⟩ := Tp.cells hb1; have hs1 := hb1.size; (try simp at hs1); have m1 : w1.heap.size ≠ w.heap.size := (by omega); have m2 : w1.heap.size ≠ g := (by omega); have m3 : w.heap.size ≠ w1.heap.size := (by omega); have m4 : g ≠ w1.heap.size := (by omega); have HB1 := Lib.hid hb1; clear hb1))
  all_goals (try go_wp2_with fail)
  all_goals go_meet
  ·
   exact ⟨_, rfl, by omega, Rm.Six.new w1 N _ rfl, ((Below.refl W.heap.size W).drew.trans HB1.out).alloc (by omega) _⟩
  all_goals
   obtain ⟨V, hV, d0, d1, d2, d3, d4, d5, dr⟩ := Tp.six w1 (w.heap.size + 1) (.int .i64 N.pl) (.string N.name) (.bool N.fin) (.string N.attr) (.string N.held) (.int .i64 N.read) ((hcR (w.heap.size + 1) 0 (by first | (simp; omega) | omega)).trans (by rw [← hsW]; simp; rfl)) ((hcR (w.heap.size + 1) 1 (by first | (simp; omega) | omega)).trans (by rw [← hsW]; simp; rfl)) ((hcR (w.heap.size + 1) 2 (by first | (simp; omega) | omega)).trans (by rw [← hsW]; simp; rfl)) ((hcR (w.heap.size + 1) 3 (by first | (simp; omega) | omega)).trans (by rw [← hsW]; simp; rfl)) ((hcR (w.heap.size + 1) 4 (by first | (simp; omega) | omega)).trans (by rw [← hsW]; simp; rfl)) ((hcR (w.heap.size + 1) 5 (by first | (simp; omega) | omega)).trans (by rw [← hsW]; simp; rfl)) (fun i => (hfR (w.heap.size + 1) i (by first | (simp; omega) | omega)).trans (by rw [← hsW]; simp))
   rw [hV]
   refine ⟨_, rfl, by omega, ⟨d0, d1, d2, d3, d4, d5⟩, ?_⟩
   refine dr.2.2.2.2 _ _ (by omega) ?_
   exact Below.trans (by first | exact (Below.refl W.heap.size W).drew.alloc (Nat.le_refl _) _ | exact ((Below.refl W.heap.size W).alloc (Nat.le_refl _) _).drew) (HB1.out.mono (by first | (simp; omega) | (simp; done) | omega))
 case rest =>
  obtain ⟨q, rfl, hq, hS2, hb2⟩ := hcut
  have HS0 := Lib.hid (HS.out.on hb2)
  have HS2 := Lib.hid hS2
  have hbw : Below w.heap.size w wc := HB.out.trans (hb2.mono HB.out.size)
  have HBW := Lib.hid hbw
  have hA := HH.out.on hbw
  have HA := Lib.hid hA
  have e0 := hS2.c0
  have e1 := hS2.c1
  have e2 := hS2.c2
  have e3 := hS2.c3
  have e4 := hS2.c4
  have e5 := hS2.c5
  have b0 := hA.box.s0
  have b1 := hA.box.s1
  have b2 := hA.box.s2
  have b3 := hA.box.s3
  have b4 := hA.box.s4
  have b5 := hA.box.s5
  have bo := hA.box.opn
  have bf := hA.box.fz
  have nq : q ≠ g := by omega
  have nq' : g ≠ q := by omega
  clear k0 k1 k2 k3 k4 k5 y0 hst hS2 hb2 hbw hA HB HS
  have hfw : Rm.Free tv av g w.heap.size := HH.out.new (Nat.le_refl _)
  have hfq : Rm.Free tv av g q := HH.out.new (by omega)
  have HFW := Lib.hid hfw
  have HFQ := Lib.hid hfq
  have hKc := Rm.Kept.set6 wc g 24 25 26 27 28 29 (.int .i64 N.pl) (.string N.name) (.bool N.fin) (.string N.attr) (.string N.held) (.int .i64 N.read) tv av
  have HSt := Lib.hid (HA.out.setStateAt N)
  have HS02 := Lib.hid (HS0.out.of (hKc.block _ HS0.out.lt hfw).1)
  have HS22 := Lib.hid (HS2.out.of (hKc.block _ HS2.out.lt hfq).1)
  have HKc := Lib.hid hKc
  have f0 := HS22.out.c0
  have f1 := HSt.out.box.opn
  have f2 := HSt.out.box.fz
  clear hfw hfq hKc
  by_cases o1 : N.pl = 1
  all_goals by_cases o2 : N.pl = 20
  all_goals first | (exfalso; omega) | skip
  all_goals
   have HO1 := Lib.hid o1
   have HO2 := Lib.hid o2
   try (have u1 : (N.pl == 1) = true := beq_iff_eq.2 o1)
   try (have u1 : (N.pl == 1) = false := beq_eq_false_iff_ne.2 o1)
   try (have u2 : (N.pl == 20) = true := beq_iff_eq.2 o2)
   try (have u2 : (N.pl == 20) = false := beq_eq_false_iff_ne.2 o2)
   clear o1 o2
   go_wp2_with (refine Vm.stop 25 ?_)
   generalize ((((((wc.setCell ⟨g, 24, none⟩ (.int .i64 N.pl)).setCell ⟨g, 25, none⟩ (.string N.name)).setCell ⟨g, 26, none⟩ (.bool N.fin)).setCell ⟨g, 27, none⟩ (.string N.attr)).setCell ⟨g, 28, none⟩ (.string N.held)).setCell ⟨g, 29, none⟩ (.int .i64 N.read)) = W2 at *
   clear e0 e1 e2 e3 e4 e5 b0 b1 b2 b3 b4 b5 bo bf
   refine ⟨?_⟩
   go_wp2_with (refine Vm.stop 38 ?_)
   first
   | (
     have hA3 : Rm.At (W2.setCell ⟨g, 32, none⟩ (.int .i64 (i : Int))) g P ⟨N, r.toks, r.text, o, r.value, r.attrs, r.taken⟩ tv av := (by have q := HOo.out; rw [if_pos (by first | exact .inl HO1.out | exact .inr HO2.out)] at q; rw [← q]; exact HSt.out.setOpn i)
     have hKd : Rm.Kept W2 (W2.setCell ⟨g, 32, none⟩ (.int .i64 (i : Int))) g tv av tv av := Rm.Kept.set _ _ _ _ _ _
     have hS03 := HS02.out.of (hKd.block _ HS02.out.lt HFW.out).1
     have hS23 := HS22.out.of (hKd.block _ HS22.out.lt HFQ.out).1
     generalize W2.setCell ⟨g, 32, none⟩ (.int .i64 (i : Int)) = W3 at *)
   | (
     have hA3 : Rm.At W2 g P ⟨N, r.toks, r.text, o, r.value, r.attrs, r.taken⟩ tv av := (by have q := HOo.out; rw [if_neg (fun o => o.elim HO1.out HO2.out)] at q; rw [← q]; exact HSt.out)
     have hKd : Rm.Kept W2 W2 g tv av tv av := Rm.Kept.refl _ _ _ _
     have hS03 := HS02.out
     have hS23 := HS22.out
     obtain ⟨W3, hW3⟩ : ∃ W3, W3 = W2 := ⟨_, rfl⟩
     subst hW3)
   have HK3 : Hid (Rm.Kept w W3 g tv av tv av) := (Rm.Kept.of g tv av HBW.out).trans (HKc.out.trans hKd)
   have HA3 := Lib.hid hA3
   have HS03 := Lib.hid hS03
   have HS23 := Lib.hid hS23
   have g0 := hS03.c0
   have g1 := hS03.c1
   have g2 := hS03.c2
   have g3 := hS03.c3
   have g4 := hS03.c4
   have g5 := hS03.c5
   have l0 := hS23.c0
   have l1 := hS23.c1
   have l2 := hS23.c2
   have l3 := hS23.c3
   have l4 := hS23.c4
   have l5 := hS23.c5
   have v32 := hA3.box.opn
   simp only at v32
   have htt := fun (u : World) (hb : Below W3.heap.size W3 u) (hx : r.text ≤ o ∧ o ≤ P.size) => Rm.tellText ⟨N, r.toks, r.text, o, r.value, r.attrs, r.taken⟩ o r.st.held u g P tv av (HA3.out.on hb) hP hx.1 hx.2 (by show r.toks.length ≤ _; omega)
   clear hA3 hKd hS03 hS23 HSt HS02 HS22 HKc HBW HA HO1 HO2 u1 u2 f0 f1 f2 HS0 HS2 HOo
   refine ⟨?_⟩
   by_cases cA : r.st.pl = 22 ∧ N.pl = 0
   ·
    have tA1 : (r.st.pl == 22) = true := beq_iff_eq.2 cA.1
    have tA2 : (N.pl == 0) = true := beq_iff_eq.2 cA.2
    have HRR := Lib.hid (HRead.out.trans (if_pos cA))
    have HX := Lib.hid (HTx.out (.inl cA))
    have hwi : IntKind.i64.wrap ((i : Int) + 1) = (i : Int) + 1 := by rw [IntKind.wrap_i64]; omega
    have tl := fun (u : World) (tv1 av1 : Value) (hA1 : Rm.At u g P (Rd.tellText P ⟨N, r.toks, r.text, o, r.value, r.attrs, r.taken⟩ o r.st.held) tv1 av1) => Rm.tell (Rd.tellText P ⟨N, r.toks, r.text, o, r.value, r.attrs, r.taken⟩ o r.st.held) ⟨2, r.st.held, Ts.e, [], false⟩ (.slice none 0 0) (i + 1) u g P tv1 av1 hA1 (Ak.Lies.nil _ _) (Nat.le_trans (Rd.tellText_len _ _ _ _) (by show r.toks.length + 1 ≤ _; omega))
    rw [show ((i + 1 : Nat) : Int) = (i : Int) + 1 by omega] at tl
    clear cA HRead HTx HCm HV HTk
    go_wp2_with fail
    go_region_with (go_at_call 36; refine (htt _ (Below.refl _ _).drew HX.out).mono ?_; rintro e w1 ⟨rfl, tv1, av1, hA1, hK1⟩; have g4' := hK1.cell HFW.out g4; have HA1 := Lib.hid hA1; have HK1 := Lib.hid hK1; clear hA1 hK1)
    all_goals go_wp2_with (go_at_call 75; refine (tl _ _ _ HA1.out).mono ?_; rintro e w2 ⟨rfl, tv2, hA2, hK2⟩)
    all_goals go_end0
    all_goals refine ⟨rfl, tv2, .slice none 0 0, ?_, (HK3.out.trans (Rm.Kept.of g tv av (Below.refl _ _).drew)).trans (HK1.out.trans hK2)⟩
    all_goals rw [HRR.out]
    all_goals exact hA2
   have HRB := Lib.hid (HRead.out.trans (if_neg cA))
   clear HRead
   have hpr : Rd.loose r.st.pl = true → Ts.inTag r.st.pl = false := fun q => by unfold Rd.loose at q; unfold Ts.inTag; simp only [Bool.or_eq_true, decide_eq_true_eq] at q; rw [Bool.and_eq_false_iff, decide_eq_false_iff_not, decide_eq_false_iff_not]; omega
   cases lw : Rd.loose r.st.pl
   all_goals cases ln : Rd.loose N.pl
   all_goals cases it : Ts.inTag r.st.pl
   all_goals first | (exfalso; have q := hpr lw; rw [it] at q; exact absurd q (by decide)) | skip
   all_goals cases t22 : (r.st.pl == 22)
   all_goals first | (exfalso; have q := beq_iff_eq.1 t22; rw [q] at lw; exact absurd lw (by decide)) | skip
   all_goals try (have tN0 : (N.pl == 0) = false := beq_eq_false_iff_ne.2 (fun q => cA ⟨beq_iff_eq.1 t22, q⟩))
   all_goals clear cA hpr
   ·
    have HRR : Hid (RR = ⟨N, r.toks, r.text, o, r.value, r.attrs, r.taken⟩) := by have q := HRB.out; rw [lw, ln, it] at q; unfold Hid; simpa using q
    clear HRB HTx HCm HV HTk htt
    go_wp2_with (first | (go_at_call 35; refine (Tp.isLoose _ _).mono ?_; rintro e w' ⟨rfl, rfl⟩) | (go_at_call 76; refine (Tp.inTag _ _).mono ?_; rintro e w' ⟨rfl, rfl⟩))
    go_end0
    refine ⟨rfl, tv, av, ?_, HK3.out⟩
    rw [HRR.out]
    exact HA3.out
   ·
    have HRR : Hid (RR = Rd.readAttr P ⟨N, r.toks, r.text, o, r.value, r.attrs, r.taken⟩ r.st N i) := by have q := HRB.out; unfold Rd.tags at q; rw [lw, ln, it] at q; unfold Hid; simpa using q
    have hra := Rm.readAttr ⟨N, r.toks, r.text, o, r.value, r.attrs, r.taken⟩ r.st N i W3 g P tv av HA3.out hP (by omega) HV.out HTk.out hna
    clear HRB HTx HCm HV HTk htt
    go_wp2_with (first | (go_at_call 35; refine (Tp.isLoose _ _).mono ?_; rintro e w' ⟨rfl, rfl⟩) | (go_at_call 76; refine (Tp.inTag _ _).mono ?_; rintro e w' ⟨rfl, rfl⟩) | (go_at_call 77; refine hra.mono ?_; rintro e w1 ⟨rfl, tv1, av1, hA1, hK1⟩; have g0' := hK1.cell HFW.out g0; have g1' := hK1.cell HFW.out g1; have g2' := hK1.cell HFW.out g2; have g3' := hK1.cell HFW.out g3; have g4' := hK1.cell HFW.out g4; have g5' := hK1.cell HFW.out g5; have l0' := hK1.cell HFQ.out l0; have HA1 := Lib.hid hA1; have HK1 := Lib.hid hK1; clear hA1 hK1 hra))
    go_end0
    refine ⟨rfl, tv1, av1, ?_, HK3.out.trans HK1.out⟩
    rw [HRR.out]
    exact HA1.out
   ·
    have HRR : Hid (RR = Rd.tellComment P ⟨N, r.toks, r.text, o, r.value, r.attrs, r.taken⟩ r.st i) := by have q := HRB.out; rw [lw, ln, it] at q; unfold Hid; simpa using q
    have htc := Rm.tellComment ⟨N, r.toks, r.text, o, r.value, r.attrs, r.taken⟩ r.st i W3 g P tv av HA3.out hP (by omega) (HCm.out it lw ln).1 (HCm.out it lw ln).2 (by show r.toks.length ≤ _; omega)
    clear HRB HTx HCm HV HTk htt
    go_wp2_with (first | (go_at_call 35; refine (Tp.isLoose _ _).mono ?_; rintro e w' ⟨rfl, rfl⟩) | (go_at_call 76; refine (Tp.inTag _ _).mono ?_; rintro e w' ⟨rfl, rfl⟩) | (go_at_call 79; refine htc.mono ?_; rintro e w1 ⟨rfl, tv1, av1, hA1, hK1⟩))
    go_end0
    refine ⟨rfl, tv1, av1, ?_, HK3.out.trans hK1⟩
    rw [HRR.out]
    exact hA1
   ·
    have HRR : Hid (RR = (Rd.readAttr P ⟨N, r.toks, r.text, o, r.value, r.attrs, r.taken⟩ r.st N i).tellTag r.st i) := by have q := HRB.out; unfold Rd.tags at q; rw [lw, ln, it] at q; unfold Hid; simpa using q
    have hra := Rm.readAttr ⟨N, r.toks, r.text, o, r.value, r.attrs, r.taken⟩ r.st N i W3 g P tv av HA3.out hP (by omega) HV.out HTk.out hna
    have htg := fun (u : World) (tv1 av1 : Value) (hA1 : Rm.At u g P (Rd.readAttr P ⟨N, r.toks, r.text, o, r.value, r.attrs, r.taken⟩ r.st N i) tv1 av1) => Rm.tellTag (Rd.readAttr P ⟨N, r.toks, r.text, o, r.value, r.attrs, r.taken⟩ r.st N i) r.st i u g P tv1 av1 hA1 (by omega) (by rw [Rd.readAttr_toks]; show r.toks.length ≤ _; omega)
    generalize Rd.readAttr P ⟨N, r.toks, r.text, o, r.value, r.attrs, r.taken⟩ r.st N i = Y at *
    clear HRB HTx HCm HV HTk htt
    go_wp2_with (first | (go_at_call 35; refine (Tp.isLoose _ _).mono ?_; rintro e w' ⟨rfl, rfl⟩) | (go_at_call 76; refine (Tp.inTag _ _).mono ?_; rintro e w' ⟨rfl, rfl⟩) | (go_at_call 77; refine hra.mono ?_; rintro e w1 ⟨rfl, tv1, av1, hA1, hK1⟩; have g0' := hK1.cell HFW.out g0; have g1' := hK1.cell HFW.out g1; have g2' := hK1.cell HFW.out g2; have g3' := hK1.cell HFW.out g3; have g4' := hK1.cell HFW.out g4; have g5' := hK1.cell HFW.out g5; have l0' := hK1.cell HFQ.out l0; have HA1 := Lib.hid hA1; have HK1 := Lib.hid hK1; clear hA1 hK1 hra) | (go_at_call 78; refine (htg _ _ _ HA1.out).mono ?_; rintro e w2 ⟨rfl, tv2, av2, hA2, hK2⟩))
    go_end0
    refine ⟨rfl, tv2, av2, ?_, HK3.out.trans (HK1.out.trans hK2)⟩
    rw [HRR.out]
    exact hA2
   ·
    have HRR : Hid (RR = Rd.tellText P ⟨N, r.toks, r.text, o, r.value, r.attrs, r.taken⟩ o r.st.held) := by have q := HRB.out; rw [lw, ln, it] at q; unfold Hid; simpa using q
    have HX := Lib.hid (HTx.out (.inr ⟨lw, ln⟩))
    clear HRB HTx HCm HV HTk
    go_wp2_with (first | (go_at_call 35; refine (Tp.isLoose _ _).mono ?_; rintro e w' ⟨rfl, rfl⟩) | (go_at_call 76; refine (Tp.inTag _ _).mono ?_; rintro e w' ⟨rfl, rfl⟩))
    go_region_with (go_at_call 36; refine (htt _ (Below.refl _ _).drew HX.out).mono ?_; rintro e w1 ⟨rfl, tv1, av1, hA1, hK1⟩)
    all_goals go_wp2
    all_goals go_end0
    all_goals refine ⟨rfl, tv1, av1, ?_, (HK3.out.trans (Rm.Kept.of g tv av (Below.refl _ _).drew)).trans hK1⟩
    all_goals rw [HRR.out]
    all_goals exact hA1
   ·
    have HRR : Hid (RR = Rd.tellText P ⟨N, r.toks, r.text, o, r.value, r.attrs, r.taken⟩ o r.st.held) := by have q := HRB.out; rw [lw, ln, it] at q; unfold Hid; simpa using q
    have HX := Lib.hid (HTx.out (.inr ⟨lw, ln⟩))
    clear HRB HTx HCm HV HTk
    go_wp2_with (first | (go_at_call 35; refine (Tp.isLoose _ _).mono ?_; rintro e w' ⟨rfl, rfl⟩) | (go_at_call 76; refine (Tp.inTag _ _).mono ?_; rintro e w' ⟨rfl, rfl⟩))
    go_region_with (go_at_call 36; refine (htt _ (Below.refl _ _).drew HX.out).mono ?_; rintro e w1 ⟨rfl, tv1, av1, hA1, hK1⟩)
    all_goals go_wp2
    all_goals go_end0
    all_goals refine ⟨rfl, tv1, av1, ?_, (HK3.out.trans (Rm.Kept.of g tv av (Below.refl _ _).drew)).trans hK1⟩
    all_goals rw [HRR.out]
    all_goals exact hA1
   ·
    have HRR : Hid (RR = ⟨N, r.toks, r.text, o, r.value, r.attrs, r.taken⟩) := by have q := HRB.out; rw [lw, ln, it] at q; unfold Hid; simpa using q
    clear HRB HTx HCm HV HTk htt
    go_wp2_with (first | (go_at_call 35; refine (Tp.isLoose _ _).mono ?_; rintro e w' ⟨rfl, rfl⟩) | (go_at_call 76; refine (Tp.inTag _ _).mono ?_; rintro e w' ⟨rfl, rfl⟩))
    go_end0
    refine ⟨rfl, tv, av, ?_, HK3.out⟩
    rw [HRR.out]
    exact HA3.out
   ·
    have HRR : Hid (RR = ⟨N, r.toks, r.text, o, r.value, r.attrs, r.taken⟩) := by have q := HRB.out; rw [lw, ln, it] at q; unfold Hid; simpa using q
    clear HRB HTx HCm HV HTk htt
    go_wp2_with (first | (go_at_call 35; refine (Tp.isLoose _ _).mono ?_; rintro e w' ⟨rfl, rfl⟩) | (go_at_call 76; refine (Tp.inTag _ _).mono ?_; rintro e w' ⟨rfl, rfl⟩))
    go_end0
    refine ⟨rfl, tv, av, ?_, HK3.out⟩
    rw [HRR.out]
    exact HA3.out
end Go.Proofs.YtblpkjlodncpeaaGreatDoor

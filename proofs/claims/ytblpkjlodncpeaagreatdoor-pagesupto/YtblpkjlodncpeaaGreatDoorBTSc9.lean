/-
  THE WALK of the reference's emit.
-/
import Derived.Test.YtblpkjlodncpeaaGreatDoorBKParsetoTSc8
namespace Go.Proofs.YtblpkjlodncpeaaGreatDoor
open Go.RowKit
theorem Sc.six_cells (W : World) (a b c d e f : Value) (ty : TypeId) : ∀ j u, [a, b, c, d, e, f][j]? = some u → (W.alloc (.cells #[a, b, c, d, e, f] ty)).cell? ⟨W.heap.size, j, none⟩ = some u := by
 intro j u hj
 unfold World.cell?
 rw [show (W.alloc (.cells #[a, b, c, d, e, f] ty)).heap[W.heap.size]? = some _ from heap_alloc_new W _]
 simpa using hj
theorem Sc.At.free {w : World} {g : Nat} {P : ByteArray} {x : Rf} {bv ov av : Value} (h : Sc.At w g P x bv ov av) : Sc.Free bv ov av g w.heap.size :=
 ⟨by have := h.lt; omega, fun e => by have := (h.buf.lt _ e).2; omega, fun e => by have := (h.ovLt e).2; omega, fun e => by have := (h.attrs.lt _ e).2; omega⟩
theorem Rf.commit_buf (x : Rf) : x.commit.buf = x.buf := by unfold Rf.commit; (repeat' split) <;> rfl
theorem Rf.commit_out (x : Rf) : x.commit.out = x.out := by unfold Rf.commit; (repeat' split) <;> rfl
theorem Sc.flush_len (x : Rf) : x.flush.out.length ≤ x.out.length + 1 := by unfold Rf.flush; split <;> simp
theorem Sc.fiveAt (W : World) (t : Tk) (tav : Value) (g1 : Nat) (h : g1 = W.heap.size) : ∀ j u, (Rm.five t tav)[j]? = some u → (W.alloc (.cells #[.int .i64 t.kind, .string t.name, .string t.text, tav, .bool t.self] 84)).cell? ⟨g1, j, none⟩ = some u := by
 subst h
 intro j u hj
 unfold World.cell?
 rw [show (W.alloc (.cells #[.int .i64 t.kind, .string t.name, .string t.text, tav, .bool t.self] 84)).heap[W.heap.size]? = some _ from heap_alloc_new W _]
 simpa [Rm.five] using hj
theorem Sc.fiveOne (t : Tk) (a : Option Addr) (n d : Nat) : ∀ u ∈ Rm.five t (.slice a n d), u.oneCell' = true := by
 intro u hu
 simp only [Rm.five, List.mem_cons, List.not_mem_nil, or_false] at hu
 rcases hu with e | e | e | e | e <;> (rw [e]; rfl)
def Sc.St (w : World) (k : Nat) (s : Ts) : Prop := ∀ j u, [Value.int .i64 s.pl, .string s.name, .bool s.fin, .string s.attr, .string s.held, .int .i64 s.read][j]? = some u → w.cell? ⟨k, j, none⟩ = some u
theorem Sc.St.kept {w w' : World} {k g : Nat} {s : Ts} {bv ov av bv' ov' av' : Value} (h : Sc.St w k s) (hk : Sc.Kept w w' g bv ov av bv' ov' av') (hf : Sc.Free bv ov av g k) : Sc.St w' k s := fun j u hj => hk.cell hf (h j u hj)
set_option maxHeartbeats 4000000 in
theorem Sc.emit (P : ByteArray) (x : Rf) (s : Ts) (w : World) (g : Nat) (bv ov av : Value) (h : Sc.At w g P x bv ov av) (hl : x.pv.size ≤ 65536) (ha : x.attrs.length ≤ 32) (hb : x.buf.length ≤ 65536) (ho : x.out.length ≤ 1000000) :
  Calls Tryz.prog 89 #[.pointer (some ⟨g, 0, none⟩), .agg #[.int .i64 s.pl, .string s.name, .bool s.fin, .string s.attr, .string s.held, .int .i64 s.read]] w fun e w' => e = .returned (.tuple #[]) ∧ ∃ bv' ov' av', Sc.At w' g P (x.emit s) bv' ov' av' ∧ Sc.Kept w w' g bv ov av bv' ov' av' := by
 have hbA : Below w.heap.size w (w.alloc (.cells #[.int .i64 s.pl, .string s.name, .bool s.fin, .string s.attr, .string s.held, .int .i64 s.read] 76)) := (Below.refl _ _).alloc (Nat.le_refl _) _
 have hst : Sc.St (w.alloc (.cells #[.int .i64 s.pl, .string s.name, .bool s.fin, .string s.attr, .string s.held, .int .i64 s.read] 76)) w.heap.size s := Sc.six_cells _ _ _ _ _ _ _ _
 have hfr := h.free
 have h0 := h.on hbA
 have hk0 := Sc.Kept.of g bv ov av hbA
 have com := Sc.commit P x _ g bv ov av h0 hl ha
 have HS := Lib.hid hst
 have HF := Lib.hid hfr
 have HK0 := Lib.hid hk0
 have hlt := h.lt
 have HN : Hid (x.commit.buf.length ≤ 65536 ∧ x.commit.out.length ≤ 1000000) := ⟨by rw [Rf.commit_buf]; exact hb, by rw [Rf.commit_out]; exact ho⟩
 clear h h0 hst hk0 hbA hl ha hb ho hfr
 go_enter Tryz.func89, Tryz.ntmps89
 go_wp2_with (first | (go_at_call 125; refine com.mono ?_; rintro e w1 ⟨rfl, av1, hA1, hK1⟩; have flu := Sc.flush P x.commit w1 g bv ov av1 hA1 HN.out.1 HN.out.2; have HS1 := Lib.hid (HS.out.kept hK1 HF.out); have HF1 := Lib.hid ((hK1.block _ (by simp) HF.out).2); have HK1 := Lib.hid (HK0.out.trans hK1); clear hA1 hK1) | (go_at_call 44; refine flu.mono ?_; rintro e w2 ⟨rfl, bv2, ov2, hA2, hK2⟩; clear com flu))
 have HS2 := HS1.out.kept hK2 HF1.out
 have HK2 := Lib.hid (HK1.out.trans hK2)
 have HNo := Lib.hid (Nat.le_trans (Sc.flush_len x.commit) (Nat.succ_le_succ HN.out.2))
 have HX : Hid (x.emit s = { x.commit.flush with out := x.commit.flush.out ++ [Rf.tag s x.commit.flush.attrs], attrs := [] }) := rfl
 generalize x.commit.flush = y at *
 clear hK2 HK1 HS1 HF1 HS HF HK0 HN
 have s0 := HS2 0 _ rfl
 have s1 := HS2 1 _ rfl
 have s2 := HS2 2 _ rfl
 have s4 := HS2 4 _ rfl
 have hB : w.heap.size < w2.heap.size := World.block_lt_of_cell? _ _ s0
 clear HS2
 obtain ⟨xs, hx⟩ := id hA2.out
 obtain ⟨oa, od, rfl⟩ := Rm.form hx.1
 obtain ⟨aa, ad, rfl⟩ := Rm.form hA2.attrs
 have c10 := hA2.box.cell 10 _ rfl
 have c11 := hA2.box.cell 11 _ rfl
 have fz := hA2.box.fz
 have hlt2 := hA2.lt
 have HA2 := Lib.hid hA2
 have HXS := Lib.hid hx
 clear hA2 hx
 have s0' : ∀ o, (w2.alloc o).cell? ⟨w.heap.size, 0, none⟩ = _ := fun o => (World.cell?_alloc_lt _ _ _ hB).trans s0
 have s1' : ∀ o, (w2.alloc o).cell? ⟨w.heap.size, 1, none⟩ = _ := fun o => (World.cell?_alloc_lt _ _ _ hB).trans s1
 have s2' : ∀ o, (w2.alloc o).cell? ⟨w.heap.size, 2, none⟩ = _ := fun o => (World.cell?_alloc_lt _ _ _ hB).trans s2
 have s4' : ∀ o, (w2.alloc o).cell? ⟨w.heap.size, 4, none⟩ = _ := fun o => (World.cell?_alloc_lt _ _ _ hB).trans s4
 have c11' : ∀ o, (w2.alloc o).cell? ⟨g, 11, none⟩ = _ := fun o => (World.cell?_alloc_lt _ _ _ hlt2).trans c11
 generalize w.heap.size = B at *
 go_region
 clear s0' s1' s2' s4' c11'
 have HN : Hid (y.out.length + 1 ≤ maxLen ∧ (y.out.length + 1) * 72 ≤ 140737488355328) := by have := HNo.out; exact ⟨by unfold maxLen; omega, by omega⟩
 have s4' : ∀ o, (w2.alloc o).cell? ⟨B, 4, none⟩ = _ := fun o => (World.cell?_alloc_lt _ _ _ hB).trans s4
 by_cases he : s.held = Ts.e
 ·
  have te : s.held.toList.isEmpty = true := by rw [he, ByteArray.toList_eq]; rfl
  cases hf : s.fin with
  | false =>
   rw [hf] at s2
   have s2' : ∀ o, (w2.alloc o).cell? ⟨B, 2, none⟩ = _ := fun o => (World.cell?_alloc_lt _ _ _ hB).trans s2
   have HT : Hid (Rf.tag s y.attrs = (⟨1, s.name, Ts.e, y.attrs, s.pl == 12⟩ : Tk)) := by unfold Hid Rf.tag; simp [he, hf, Ts.e]
   have hl : Ak.Lies w2 (fun k => (Value.slice aa y.attrs.length ad).ownBlock = some k) (⟨1, s.name, Ts.e, y.attrs, s.pl == 12⟩ : Tk).attrs (.slice aa y.attrs.length ad) := (Ak.Lies.own HA2.out.attrs)
   have HL := Lib.hid hl
   clear hl he hf
   go_wp2_with fail
   have hq3 : Below w2.heap.size w2 (w2.alloc (.cells #[.int .i64 1, .string s.name, .string ⟨#[]⟩, .slice aa y.attrs.length ad, .bool (s.pl == 12)] 84)).drew := ((Below.refl _ _).alloc (Nat.le_refl _) _).drew
   have t0 : (w2.alloc (.cells #[.int .i64 1, .string s.name, .string ⟨#[]⟩, .slice aa y.attrs.length ad, .bool (s.pl == 12)] 84)).drew.cell? ⟨w2.heap.size, 0, none⟩ = some (.int .i64 1) := Sc.fiveAt w2 (⟨1, s.name, Ts.e, y.attrs, s.pl == 12⟩ : Tk) (.slice aa y.attrs.length ad) _ rfl 0 _ rfl
   have t1 : (w2.alloc (.cells #[.int .i64 1, .string s.name, .string ⟨#[]⟩, .slice aa y.attrs.length ad, .bool (s.pl == 12)] 84)).drew.cell? ⟨w2.heap.size, 1, none⟩ = some (.string s.name) := Sc.fiveAt w2 (⟨1, s.name, Ts.e, y.attrs, s.pl == 12⟩ : Tk) (.slice aa y.attrs.length ad) _ rfl 1 _ rfl
   have t2 : (w2.alloc (.cells #[.int .i64 1, .string s.name, .string ⟨#[]⟩, .slice aa y.attrs.length ad, .bool (s.pl == 12)] 84)).drew.cell? ⟨w2.heap.size, 2, none⟩ = some (.string ⟨#[]⟩) := Sc.fiveAt w2 (⟨1, s.name, Ts.e, y.attrs, s.pl == 12⟩ : Tk) (.slice aa y.attrs.length ad) _ rfl 2 _ rfl
   have t3 : (w2.alloc (.cells #[.int .i64 1, .string s.name, .string ⟨#[]⟩, .slice aa y.attrs.length ad, .bool (s.pl == 12)] 84)).drew.cell? ⟨w2.heap.size, 3, none⟩ = some (.slice aa y.attrs.length ad) := Sc.fiveAt w2 (⟨1, s.name, Ts.e, y.attrs, s.pl == 12⟩ : Tk) (.slice aa y.attrs.length ad) _ rfl 3 _ rfl
   have t4 : (w2.alloc (.cells #[.int .i64 1, .string s.name, .string ⟨#[]⟩, .slice aa y.attrs.length ad, .bool (s.pl == 12)] 84)).drew.cell? ⟨w2.heap.size, 4, none⟩ = some (.bool (s.pl == 12)) := Sc.fiveAt w2 (⟨1, s.name, Ts.e, y.attrs, s.pl == 12⟩ : Tk) (.slice aa y.attrs.length ad) _ rfl 4 _ rfl
   generalize (w2.alloc (.cells #[.int .i64 1, .string s.name, .string ⟨#[]⟩, .slice aa y.attrs.length ad, .bool (s.pl == 12)] 84)).drew = W3 at *
   have k10 := Tp.keep hq3 c10
   have hs3 := hq3.size
   have hg3 : g < W3.heap.size := Nat.lt_of_lt_of_le hlt2 hs3
   have k10' : ∀ o, (W3.alloc o).cell? ⟨g, 10, none⟩ = some (.slice oa y.out.length od) := fun o => (World.cell?_alloc_lt _ _ _ hg3).trans k10
   have HO3 := Lib.hid (Rm.own_on HXS.out.1 (fun k hk => hq3.block k (HXS.out.1.lt k hk).2))
   have HQ3 := Lib.hid hq3
   clear hq3 s0 s1 s2 s4 s2' s4' te c10 c11 fz
   go_region_law (refine Ro.step_push rfl (.tmp 39) (.tmp 41) 55 84 5 72 _ rfl Tryz.underlying55 Rm.infoT rfl (by decide) (.slice oa y.out.length od) (by rfl) (HO3.out.alloc _) W3.heap.size (Rm.five (⟨1, s.name, Ts.e, y.attrs, s.pl == 12⟩ : Tk) (.slice aa y.attrs.length ad)) (by rfl) (Sc.fiveAt _ (⟨1, s.name, Ts.e, y.attrs, s.pl == 12⟩ : Tk) (.slice aa y.attrs.length ad) _ rfl) rfl (Sc.fiveOne _ _ _ _) HN.out.1 HN.out.2 (by first | omega | (simp; omega)) ?_; intro v4 w4 R4 hg4 hf4; obtain ⟨a4, d4, rfl⟩ := Rm.form R4; have hq := (HQ3.out.alloc HQ3.out.size (.cells #[.int .i64 1, .string s.name, .string ⟨#[]⟩, .slice aa y.attrs.length ad, .bool (s.pl == 12)] 84)).drew; obtain ⟨z1, z2⟩ := Sc.At.tagPut (t := (⟨1, s.name, Ts.e, y.attrs, s.pl == 12⟩ : Tk)) HA2.out hq xs HXS.out HL.out R4 hg4 (by simpa using hf4); have B4 := HA2.out.box.on (w' := w4) ((hg4.block g (Nat.lt_of_lt_of_le hlt2 hq.size) (fun e => by have := (HXS.out.1.lt g e.symm).1; omega)).trans (hq.block g hlt2)); have d10 := B4.cell 10 _ rfl; have d11 := B4.cell 11 _ rfl; have df := B4.fz; have HZ := Lib.hid z1; have HZK := Lib.hid z2; clear R4 hg4 hf4 hq z1 z2 B4)
   all_goals go_wp2
   all_goals go_end0
   all_goals exact ⟨rfl, _, _, _, by rw [HX.out, HT.out]; exact HZ.out, HK2.out.trans HZK.out⟩
  | true =>
   rw [hf] at s2
   have s2' : ∀ o, (w2.alloc o).cell? ⟨B, 2, none⟩ = _ := fun o => (World.cell?_alloc_lt _ _ _ hB).trans s2
   have HT : Hid (Rf.tag s y.attrs = (⟨2, s.name, Ts.e, [], false⟩ : Tk)) := by unfold Hid Rf.tag; simp [he, hf, Ts.e]
   have hl : Ak.Lies w2 (fun k => (Value.slice aa y.attrs.length ad).ownBlock = some k) (⟨2, s.name, Ts.e, [], false⟩ : Tk).attrs (.slice none 0 0) := (Ak.Lies.nil _ _)
   have HL := Lib.hid hl
   clear hl he hf
   go_wp2_with fail
   have hq3 : Below w2.heap.size w2 (w2.alloc (.cells #[.int .i64 2, .string s.name, .string ⟨#[]⟩, .slice none 0 0, .bool (false)] 84)).drew := ((Below.refl _ _).alloc (Nat.le_refl _) _).drew
   have t0 : (w2.alloc (.cells #[.int .i64 2, .string s.name, .string ⟨#[]⟩, .slice none 0 0, .bool (false)] 84)).drew.cell? ⟨w2.heap.size, 0, none⟩ = some (.int .i64 2) := Sc.fiveAt w2 (⟨2, s.name, Ts.e, [], false⟩ : Tk) (.slice none 0 0) _ rfl 0 _ rfl
   have t1 : (w2.alloc (.cells #[.int .i64 2, .string s.name, .string ⟨#[]⟩, .slice none 0 0, .bool (false)] 84)).drew.cell? ⟨w2.heap.size, 1, none⟩ = some (.string s.name) := Sc.fiveAt w2 (⟨2, s.name, Ts.e, [], false⟩ : Tk) (.slice none 0 0) _ rfl 1 _ rfl
   have t2 : (w2.alloc (.cells #[.int .i64 2, .string s.name, .string ⟨#[]⟩, .slice none 0 0, .bool (false)] 84)).drew.cell? ⟨w2.heap.size, 2, none⟩ = some (.string ⟨#[]⟩) := Sc.fiveAt w2 (⟨2, s.name, Ts.e, [], false⟩ : Tk) (.slice none 0 0) _ rfl 2 _ rfl
   have t3 : (w2.alloc (.cells #[.int .i64 2, .string s.name, .string ⟨#[]⟩, .slice none 0 0, .bool (false)] 84)).drew.cell? ⟨w2.heap.size, 3, none⟩ = some (.slice none 0 0) := Sc.fiveAt w2 (⟨2, s.name, Ts.e, [], false⟩ : Tk) (.slice none 0 0) _ rfl 3 _ rfl
   have t4 : (w2.alloc (.cells #[.int .i64 2, .string s.name, .string ⟨#[]⟩, .slice none 0 0, .bool (false)] 84)).drew.cell? ⟨w2.heap.size, 4, none⟩ = some (.bool (false)) := Sc.fiveAt w2 (⟨2, s.name, Ts.e, [], false⟩ : Tk) (.slice none 0 0) _ rfl 4 _ rfl
   generalize (w2.alloc (.cells #[.int .i64 2, .string s.name, .string ⟨#[]⟩, .slice none 0 0, .bool (false)] 84)).drew = W3 at *
   have k10 := Tp.keep hq3 c10
   have hs3 := hq3.size
   have hg3 : g < W3.heap.size := Nat.lt_of_lt_of_le hlt2 hs3
   have k10' : ∀ o, (W3.alloc o).cell? ⟨g, 10, none⟩ = some (.slice oa y.out.length od) := fun o => (World.cell?_alloc_lt _ _ _ hg3).trans k10
   have HO3 := Lib.hid (Rm.own_on HXS.out.1 (fun k hk => hq3.block k (HXS.out.1.lt k hk).2))
   have HQ3 := Lib.hid hq3
   clear hq3 s0 s1 s2 s4 s2' s4' te c10 c11 fz
   go_region_law (refine Ro.step_push rfl (.tmp 39) (.tmp 41) 55 84 5 72 _ rfl Tryz.underlying55 Rm.infoT rfl (by decide) (.slice oa y.out.length od) (by rfl) (HO3.out.alloc _) W3.heap.size (Rm.five (⟨2, s.name, Ts.e, [], false⟩ : Tk) (.slice none 0 0)) (by rfl) (Sc.fiveAt _ (⟨2, s.name, Ts.e, [], false⟩ : Tk) (.slice none 0 0) _ rfl) rfl (Sc.fiveOne _ _ _ _) HN.out.1 HN.out.2 (by first | omega | (simp; omega)) ?_; intro v4 w4 R4 hg4 hf4; obtain ⟨a4, d4, rfl⟩ := Rm.form R4; have hq := (HQ3.out.alloc HQ3.out.size (.cells #[.int .i64 2, .string s.name, .string ⟨#[]⟩, .slice none 0 0, .bool (false)] 84)).drew; obtain ⟨z1, z2⟩ := Sc.At.tagPut (t := (⟨2, s.name, Ts.e, [], false⟩ : Tk)) HA2.out hq xs HXS.out HL.out R4 hg4 (by simpa using hf4); have B4 := HA2.out.box.on (w' := w4) ((hg4.block g (Nat.lt_of_lt_of_le hlt2 hq.size) (fun e => by have := (HXS.out.1.lt g e.symm).1; omega)).trans (hq.block g hlt2)); have d10 := B4.cell 10 _ rfl; have d11 := B4.cell 11 _ rfl; have df := B4.fz; have HZ := Lib.hid z1; have HZK := Lib.hid z2; clear R4 hg4 hf4 hq z1 z2 B4)
   all_goals go_wp2
   all_goals go_end0
   all_goals exact ⟨rfl, _, _, _, by rw [HX.out, HT.out]; exact HZ.out, HK2.out.trans HZK.out⟩
 ·
  have te : s.held.toList.isEmpty = false := by
   cases q : s.held.toList.isEmpty with
   | false => rfl
   | true => exact absurd (by apply ByteArray.ext; rw [ByteArray.toList_eq] at q; exact Array.toList_inj.1 (List.isEmpty_iff.1 q)) he
  cases hf : s.fin with
  | false =>
   rw [hf] at s2
   have s2' : ∀ o, (w2.alloc o).cell? ⟨B, 2, none⟩ = _ := fun o => (World.cell?_alloc_lt _ _ _ hB).trans s2
   have HT : Hid (Rf.tag s y.attrs = (⟨2, s.held, Ts.e, [], false⟩ : Tk)) := by unfold Hid Rf.tag; rw [if_pos (Or.inr he), if_pos he]
   have hl : Ak.Lies w2 (fun k => (Value.slice aa y.attrs.length ad).ownBlock = some k) (⟨2, s.held, Ts.e, [], false⟩ : Tk).attrs (.slice none 0 0) := (Ak.Lies.nil _ _)
   have HL := Lib.hid hl
   clear hl he hf
   go_wp2_with fail
   have hq3 : Below w2.heap.size w2 (w2.alloc (.cells #[.int .i64 2, .string s.held, .string ⟨#[]⟩, .slice none 0 0, .bool (false)] 84)).drew := ((Below.refl _ _).alloc (Nat.le_refl _) _).drew
   have t0 : (w2.alloc (.cells #[.int .i64 2, .string s.held, .string ⟨#[]⟩, .slice none 0 0, .bool (false)] 84)).drew.cell? ⟨w2.heap.size, 0, none⟩ = some (.int .i64 2) := Sc.fiveAt w2 (⟨2, s.held, Ts.e, [], false⟩ : Tk) (.slice none 0 0) _ rfl 0 _ rfl
   have t1 : (w2.alloc (.cells #[.int .i64 2, .string s.held, .string ⟨#[]⟩, .slice none 0 0, .bool (false)] 84)).drew.cell? ⟨w2.heap.size, 1, none⟩ = some (.string s.held) := Sc.fiveAt w2 (⟨2, s.held, Ts.e, [], false⟩ : Tk) (.slice none 0 0) _ rfl 1 _ rfl
   have t2 : (w2.alloc (.cells #[.int .i64 2, .string s.held, .string ⟨#[]⟩, .slice none 0 0, .bool (false)] 84)).drew.cell? ⟨w2.heap.size, 2, none⟩ = some (.string ⟨#[]⟩) := Sc.fiveAt w2 (⟨2, s.held, Ts.e, [], false⟩ : Tk) (.slice none 0 0) _ rfl 2 _ rfl
   have t3 : (w2.alloc (.cells #[.int .i64 2, .string s.held, .string ⟨#[]⟩, .slice none 0 0, .bool (false)] 84)).drew.cell? ⟨w2.heap.size, 3, none⟩ = some (.slice none 0 0) := Sc.fiveAt w2 (⟨2, s.held, Ts.e, [], false⟩ : Tk) (.slice none 0 0) _ rfl 3 _ rfl
   have t4 : (w2.alloc (.cells #[.int .i64 2, .string s.held, .string ⟨#[]⟩, .slice none 0 0, .bool (false)] 84)).drew.cell? ⟨w2.heap.size, 4, none⟩ = some (.bool (false)) := Sc.fiveAt w2 (⟨2, s.held, Ts.e, [], false⟩ : Tk) (.slice none 0 0) _ rfl 4 _ rfl
   generalize (w2.alloc (.cells #[.int .i64 2, .string s.held, .string ⟨#[]⟩, .slice none 0 0, .bool (false)] 84)).drew = W3 at *
   have k10 := Tp.keep hq3 c10
   have hs3 := hq3.size
   have hg3 : g < W3.heap.size := Nat.lt_of_lt_of_le hlt2 hs3
   have k10' : ∀ o, (W3.alloc o).cell? ⟨g, 10, none⟩ = some (.slice oa y.out.length od) := fun o => (World.cell?_alloc_lt _ _ _ hg3).trans k10
   have HO3 := Lib.hid (Rm.own_on HXS.out.1 (fun k hk => hq3.block k (HXS.out.1.lt k hk).2))
   have HQ3 := Lib.hid hq3
   clear hq3 s0 s1 s2 s4 s2' s4' te c10 c11 fz
   go_region_law (refine Ro.step_push rfl (.tmp 39) (.tmp 41) 55 84 5 72 _ rfl Tryz.underlying55 Rm.infoT rfl (by decide) (.slice oa y.out.length od) (by rfl) (HO3.out.alloc _) W3.heap.size (Rm.five (⟨2, s.held, Ts.e, [], false⟩ : Tk) (.slice none 0 0)) (by rfl) (Sc.fiveAt _ (⟨2, s.held, Ts.e, [], false⟩ : Tk) (.slice none 0 0) _ rfl) rfl (Sc.fiveOne _ _ _ _) HN.out.1 HN.out.2 (by first | omega | (simp; omega)) ?_; intro v4 w4 R4 hg4 hf4; obtain ⟨a4, d4, rfl⟩ := Rm.form R4; have hq := (HQ3.out.alloc HQ3.out.size (.cells #[.int .i64 2, .string s.held, .string ⟨#[]⟩, .slice none 0 0, .bool (false)] 84)).drew; obtain ⟨z1, z2⟩ := Sc.At.tagPut (t := (⟨2, s.held, Ts.e, [], false⟩ : Tk)) HA2.out hq xs HXS.out HL.out R4 hg4 (by simpa using hf4); have B4 := HA2.out.box.on (w' := w4) ((hg4.block g (Nat.lt_of_lt_of_le hlt2 hq.size) (fun e => by have := (HXS.out.1.lt g e.symm).1; omega)).trans (hq.block g hlt2)); have d10 := B4.cell 10 _ rfl; have d11 := B4.cell 11 _ rfl; have df := B4.fz; have HZ := Lib.hid z1; have HZK := Lib.hid z2; clear R4 hg4 hf4 hq z1 z2 B4)
   all_goals go_wp2
   all_goals go_end0
   all_goals exact ⟨rfl, _, _, _, by rw [HX.out, HT.out]; exact HZ.out, HK2.out.trans HZK.out⟩
  | true =>
   rw [hf] at s2
   have s2' : ∀ o, (w2.alloc o).cell? ⟨B, 2, none⟩ = _ := fun o => (World.cell?_alloc_lt _ _ _ hB).trans s2
   have HT : Hid (Rf.tag s y.attrs = (⟨2, s.held, Ts.e, [], false⟩ : Tk)) := by unfold Hid Rf.tag; rw [if_pos (Or.inr he), if_pos he]
   have hl : Ak.Lies w2 (fun k => (Value.slice aa y.attrs.length ad).ownBlock = some k) (⟨2, s.held, Ts.e, [], false⟩ : Tk).attrs (.slice none 0 0) := (Ak.Lies.nil _ _)
   have HL := Lib.hid hl
   clear hl he hf
   go_wp2_with fail
   have hq3 : Below w2.heap.size w2 (w2.alloc (.cells #[.int .i64 2, .string s.held, .string ⟨#[]⟩, .slice none 0 0, .bool (false)] 84)).drew := ((Below.refl _ _).alloc (Nat.le_refl _) _).drew
   have t0 : (w2.alloc (.cells #[.int .i64 2, .string s.held, .string ⟨#[]⟩, .slice none 0 0, .bool (false)] 84)).drew.cell? ⟨w2.heap.size, 0, none⟩ = some (.int .i64 2) := Sc.fiveAt w2 (⟨2, s.held, Ts.e, [], false⟩ : Tk) (.slice none 0 0) _ rfl 0 _ rfl
   have t1 : (w2.alloc (.cells #[.int .i64 2, .string s.held, .string ⟨#[]⟩, .slice none 0 0, .bool (false)] 84)).drew.cell? ⟨w2.heap.size, 1, none⟩ = some (.string s.held) := Sc.fiveAt w2 (⟨2, s.held, Ts.e, [], false⟩ : Tk) (.slice none 0 0) _ rfl 1 _ rfl
   have t2 : (w2.alloc (.cells #[.int .i64 2, .string s.held, .string ⟨#[]⟩, .slice none 0 0, .bool (false)] 84)).drew.cell? ⟨w2.heap.size, 2, none⟩ = some (.string ⟨#[]⟩) := Sc.fiveAt w2 (⟨2, s.held, Ts.e, [], false⟩ : Tk) (.slice none 0 0) _ rfl 2 _ rfl
   have t3 : (w2.alloc (.cells #[.int .i64 2, .string s.held, .string ⟨#[]⟩, .slice none 0 0, .bool (false)] 84)).drew.cell? ⟨w2.heap.size, 3, none⟩ = some (.slice none 0 0) := Sc.fiveAt w2 (⟨2, s.held, Ts.e, [], false⟩ : Tk) (.slice none 0 0) _ rfl 3 _ rfl
   have t4 : (w2.alloc (.cells #[.int .i64 2, .string s.held, .string ⟨#[]⟩, .slice none 0 0, .bool (false)] 84)).drew.cell? ⟨w2.heap.size, 4, none⟩ = some (.bool (false)) := Sc.fiveAt w2 (⟨2, s.held, Ts.e, [], false⟩ : Tk) (.slice none 0 0) _ rfl 4 _ rfl
   generalize (w2.alloc (.cells #[.int .i64 2, .string s.held, .string ⟨#[]⟩, .slice none 0 0, .bool (false)] 84)).drew = W3 at *
   have k10 := Tp.keep hq3 c10
   have hs3 := hq3.size
   have hg3 : g < W3.heap.size := Nat.lt_of_lt_of_le hlt2 hs3
   have k10' : ∀ o, (W3.alloc o).cell? ⟨g, 10, none⟩ = some (.slice oa y.out.length od) := fun o => (World.cell?_alloc_lt _ _ _ hg3).trans k10
   have HO3 := Lib.hid (Rm.own_on HXS.out.1 (fun k hk => hq3.block k (HXS.out.1.lt k hk).2))
   have HQ3 := Lib.hid hq3
   clear hq3 s0 s1 s2 s4 s2' s4' te c10 c11 fz
   go_region_law (refine Ro.step_push rfl (.tmp 39) (.tmp 41) 55 84 5 72 _ rfl Tryz.underlying55 Rm.infoT rfl (by decide) (.slice oa y.out.length od) (by rfl) (HO3.out.alloc _) W3.heap.size (Rm.five (⟨2, s.held, Ts.e, [], false⟩ : Tk) (.slice none 0 0)) (by rfl) (Sc.fiveAt _ (⟨2, s.held, Ts.e, [], false⟩ : Tk) (.slice none 0 0) _ rfl) rfl (Sc.fiveOne _ _ _ _) HN.out.1 HN.out.2 (by first | omega | (simp; omega)) ?_; intro v4 w4 R4 hg4 hf4; obtain ⟨a4, d4, rfl⟩ := Rm.form R4; have hq := (HQ3.out.alloc HQ3.out.size (.cells #[.int .i64 2, .string s.held, .string ⟨#[]⟩, .slice none 0 0, .bool (false)] 84)).drew; obtain ⟨z1, z2⟩ := Sc.At.tagPut (t := (⟨2, s.held, Ts.e, [], false⟩ : Tk)) HA2.out hq xs HXS.out HL.out R4 hg4 (by simpa using hf4); have B4 := HA2.out.box.on (w' := w4) ((hg4.block g (Nat.lt_of_lt_of_le hlt2 hq.size) (fun e => by have := (HXS.out.1.lt g e.symm).1; omega)).trans (hq.block g hlt2)); have d10 := B4.cell 10 _ rfl; have d11 := B4.cell 11 _ rfl; have df := B4.fz; have HZ := Lib.hid z1; have HZK := Lib.hid z2; clear R4 hg4 hf4 hq z1 z2 B4)
   all_goals go_wp2
   all_goals go_end0
   all_goals exact ⟨rfl, _, _, _, by rw [HX.out, HT.out]; exact HZ.out, HK2.out.trans HZK.out⟩
end Go.Proofs.YtblpkjlodncpeaaGreatDoor

/-
  THE WALK of refs.reference: it returns what 'Pl.refL' gives of the bytes behind an '&', and turns nothing that was there.
-/
import Derived.Test.YtblpkjlodncpeaaGreatDoorBRToktoRKit5
import Derived.Test.YtblpkjlodncpeaaGreatDoorBTKittoLower
import Derived.Deep.QuietTactic
import Derived.BigQuiet
import Derived.Deep.RegionWith
import Derived.Deep.Cut
import Derived.Deep.CutRange
import Derived.Test.YtblpkjlodncpeaaGreatDoorBTFittoRefTok
namespace Go.Proofs.YtblpkjlodncpeaaGreatDoor
open Go.RowKit
theorem Wk.below_drews {B : Nat} {w wr : World} (h : Below B w wr) : ∀ n, Below B w (wr.drewN n)
 | 0 => h
 | n + 1 => (Wk.below_drews h n).drew
theorem Rr.hasPre (s p : ByteArray) (l : List UInt8) (b : Bool) (hl : p.data.toList = l) (hb : Pl.pre l s.data.toList = b) (w : World) :
  Calls Tryz.prog 137 #[.string s, .string p] w fun e w' => e = .returned (.bool b) ∧ w' = w := by
 have h := Sh.strings_HasPrefix s p w
 rw [hl] at h
 have e : Lib.hasPrefix s.data.toList l = b := hb
 rwa [e] at h
theorem Rr.size_pre (s : ByteArray) (p : List UInt8) (h : Pl.pre p s.data.toList = true) : p.length ≤ s.size := by
 obtain ⟨r, hr⟩ := (Pl.pre_iff _ _).1 h
 have := congrArg List.length hr
 rw [Wk.len_data, List.length_append] at this
 omega
def Rr.table : Array Value := #[.string ⟨#[97, 109, 112, 59]⟩, .string ⟨#[38]⟩, .string ⟨#[108, 116, 59]⟩, .string ⟨#[60]⟩, .string ⟨#[103, 116, 59]⟩, .string ⟨#[62]⟩, .string ⟨#[113, 117, 111, 116, 59]⟩, .string ⟨#[34]⟩, .string ⟨#[97, 112, 111, 115, 59]⟩, .string ⟨#[39]⟩, .string ⟨#[110, 98, 115, 112, 59]⟩, .string ⟨#[194, 160]⟩, .string ⟨#[99, 111, 112, 121, 59]⟩, .string ⟨#[194, 169]⟩]
theorem Rr.cells (w : World) (a j : Nat) (hj : j < 7) (h : w.heap[a]? = some (.cells Rr.table 121 (0, 0))) :
  ∃ (t g : List UInt8), w.cell? ⟨a, j * 2, none⟩ = some (.string ⟨t.toArray⟩) ∧ w.cell? ⟨a, j * 2 + 1, none⟩ = some (.string ⟨g.toArray⟩) ∧ Pl.names.drop j = (t, g) :: Pl.names.drop (j + 1) ∧ t.length ≤ 6 := by
 have hc : ∀ i, w.cell? ⟨a, i, none⟩ = Rr.table[i]? := fun i => by rw [Lib.cell_of_heap h]
 rw [hc, hc]
 have : j = 0 ∨ j = 1 ∨ j = 2 ∨ j = 3 ∨ j = 4 ∨ j = 5 ∨ j = 6 := by omega
 rcases this with rfl | rfl | rfl | rfl | rfl | rfl | rfl
 all_goals exact ⟨_, _, rfl, rfl, rfl, by decide⟩
set_option maxRecDepth 100000 in
set_option maxHeartbeats 1000000 in
theorem Rr.reference (s : ByteArray) (a : Nat) (w : World) (hn : w.heap[a]? = some (.cells Rr.table 121 (0, 0))) :
  Calls Tryz.prog 111 #[.string s, .slice (some ⟨a, 0, none⟩) 7 7] w fun e w' => e = .returned (.tuple #[.string ⟨(Pl.refL s.data.toList).1.toArray⟩, .int .i64 ((Pl.refL s.data.toList).2 : Nat)]) ∧ Below w.heap.size w w' := by
 obtain ⟨b1, h1⟩ : ∃ b, Pl.pre [35, 120] s.data.toList = b := ⟨_, rfl⟩
 obtain ⟨b2, h2⟩ : ∃ b, Pl.pre [35, 88] s.data.toList = b := ⟨_, rfl⟩
 obtain ⟨b3, h3⟩ : ∃ b, Pl.pre [35] s.data.toList = b := ⟨_, rfl⟩
 have c1 := Rr.hasPre s ⟨#[35, 120]⟩ [35, 120] b1 rfl h1 w
 have c2 := Rr.hasPre s ⟨#[35, 88]⟩ [35, 88] b2 rfl h2 w
 have c3 := Rr.hasPre s ⟨#[35]⟩ [35] b3 rfl h3 w
 have HR : Hid (Pl.refL s.data.toList = if b1 || b2 then Pl.numL s.data.toList 2 16 6 else if b3 then Pl.numL s.data.toList 1 10 7 else Pl.nameL Pl.names s.data.toList) := by
  show _ = _
  rw [Pl.refL, h1, h2, h3]
 have H1 : Hid (b1 = true → 2 ≤ s.size) := fun h => Rr.size_pre s _ (h1.trans h)
 have H2 : Hid (b2 = true → 2 ≤ s.size) := fun h => Rr.size_pre s _ (h2.trans h)
 have H3 : Hid (b3 = true → 1 ≤ s.size) := fun h => Rr.size_pre s _ (h3.trans h)
 clear h1 h2 h3
 cases b1 with
 | true =>
  have c4 := Rd.hexed s w (H1.out rfl)
  rw [show Pl.refL s.data.toList = Pl.numL s.data.toList 2 16 6 from HR.out]
  generalize Pl.numL s.data.toList 2 16 6 = q at *
  go_enter Tryz.func111, Tryz.ntmps111
  go_wp2_with (first | (go_at_call 137; refine c1.mono ?_; rintro e w1 ⟨rfl, rfl⟩) | (go_at_call 138; refine c4.mono ?_; rintro e w1 ⟨rfl, rfl⟩))
  go_ret2
  exact ⟨rfl, Below.refl _ _⟩
 | false =>
  cases b2 with
  | true =>
   have c4 := Rd.hexed s w (H2.out rfl)
   rw [show Pl.refL s.data.toList = Pl.numL s.data.toList 2 16 6 from HR.out]
   generalize Pl.numL s.data.toList 2 16 6 = q at *
   go_enter Tryz.func111, Tryz.ntmps111
   go_wp2_with fail
   refine c1.mono ?_
   rintro e w1 ⟨rfl, rfl⟩
   go_wp2_with fail
   refine c2.mono ?_
   rintro e w1 ⟨rfl, rfl⟩
   go_wp2_with fail
   refine c4.mono ?_
   rintro e w1 ⟨rfl, rfl⟩
   go_wp2
   go_ret2
   exact ⟨rfl, Below.refl _ _⟩
  | false =>
   cases b3 with
   | true =>
    have c4 := Rd.tens s w (H3.out rfl)
    rw [show Pl.refL s.data.toList = Pl.numL s.data.toList 1 10 7 from HR.out]
    generalize Pl.numL s.data.toList 1 10 7 = q at *
    go_enter Tryz.func111, Tryz.ntmps111
    go_wp2_with fail
    refine c1.mono ?_
    rintro e w1 ⟨rfl, rfl⟩
    go_wp2_with fail
    refine c2.mono ?_
    rintro e w1 ⟨rfl, rfl⟩
    go_wp2_with fail
    refine c3.mono ?_
    rintro e w1 ⟨rfl, rfl⟩
    go_wp2_with fail
    refine c4.mono ?_
    rintro e w1 ⟨rfl, rfl⟩
    go_wp2
    go_ret2
    exact ⟨rfl, Below.refl _ _⟩
   | false =>
    rw [show Pl.refL s.data.toList = Pl.nameL Pl.names s.data.toList from HR.out]
    clear HR H1 H2 H3
    go_enter Tryz.func111, Tryz.ntmps111
    go_wp2_with fail
    refine c1.mono ?_
    rintro e w1 ⟨rfl, rfl⟩
    go_wp2_with fail
    refine c2.mono ?_
    rintro e w1 ⟨rfl, rfl⟩
    go_wp2_with fail
    refine c3.mono ?_
    rintro e w1 ⟨rfl, rfl⟩
    go_wp2_with fail
    clear c1 c2 c3
    go_loopw [26] (fun i wr => ∃ j : Nat, j ≤ 7 ∧ i = .int .i64 j ∧ Hid (Pl.nameL (Pl.names.drop j) s.data.toList = Pl.nameL Pl.names s.data.toList) ∧ Below w1.heap.size w1 wr) (fun i _ => 7 - (intOf i).toNat)
    case atStart => exact ⟨0, Nat.zero_le _, rfl, rfl, Below.refl _ _⟩
    case round =>
     obtain ⟨j, hj, rfl, HN, hb⟩ := hrel
     by_cases hlt : j < 7
     ·
      have ha : a < w1.heap.size := by obtain ⟨h, _⟩ := Array.getElem?_eq_some_iff.1 hn; exact h
      obtain ⟨t, g, hc0, hc1, hd, htl⟩ := Rr.cells wr a j hlt ((hb.block a ha).trans hn)
      have HD : Hid (Pl.names.drop j = (t, g) :: Pl.names.drop (j + 1)) := hd
      clear hd
      have hb' := hb.alloc hb.size (.cells #[.string ⟨t.toArray⟩, .string ⟨g.toArray⟩] 120)
      obtain ⟨b, hp⟩ : ∃ b, Pl.pre t s.data.toList = b := ⟨_, rfl⟩
      have c4 := Rr.hasPre s ⟨t.toArray⟩ t b rfl hp (wr.alloc (.cells #[.string ⟨t.toArray⟩, .string ⟨g.toArray⟩] 120))
      have HS : Hid (Pl.nameL Pl.names s.data.toList = if b then (g, t.length) else Pl.nameL (Pl.names.drop (j + 1)) s.data.toList) := by
       show _ = _
       rw [← HN.out, HD.out, Pl.nameL, hp]
      have htn : (⟨t.toArray⟩ : ByteArray).size = t.length := by rw [← Wk.len_data]
      clear hp HD
      cases b with
      | true =>
       clear HN
       go_wp2_with fail
       refine c4.mono ?_
       rintro e w2 ⟨rfl, hw2⟩
       subst hw2
       clear c4
       go_wp2_with fail
       go_quiet (fail)
       go_wp2
       go_ret2
       refine ⟨?_, Wk.below_drews hb' nq⟩
       rw [HS.out]
       rfl
      | false =>
       go_wp2_with fail
       refine c4.mono ?_
       rintro e w2 ⟨rfl, hw2⟩
       subst hw2
       clear c4
       go_wp2_with fail
       go_roundw
       case rel => exact ⟨j + 1, by omega, by go_num, HS.out.symm, hb'⟩
       case measure => simp [intOf]; omega
     ·
      have hj7 : j = 7 := by omega
      have HS : Hid (Pl.nameL Pl.names s.data.toList = ([], 0)) := by
       show _ = _
       rw [← HN.out, hj7]; rfl
      clear HN hj7
      go_wp2_with fail
      go_ret2
      refine ⟨?_, hb⟩
      rw [HS.out]
      rfl
def Rr.obj : Obj := .cells Rr.table 121 (0, 0)
theorem Rr.ref_at (s : ByteArray) (k a : Nat) (w : World) (q : List UInt8 × Nat) (hq : Pl.refL (s.data.toList.drop (k + 1)) = q) (hn : w.heap[a]? = some Rr.obj) :
  Calls Tryz.prog 111 #[.string (s.extract (k + 1) s.size), .slice (some ⟨a, 0, none⟩) 7 7] w fun e w' => e = .returned (.tuple #[.string ⟨q.1.toArray⟩, .int .i64 (q.2 : Nat)]) ∧ Below w.heap.size w w' := by
 have h := Rr.reference (s.extract (k + 1) s.size) a w hn
 rw [Wk.rest_data, hq] at h
 exact h
theorem Rr.run_from (w : World) (s : ByteArray) (l : Int) (h0 : 0 ≤ l) (h1 : l ≤ s.size) :
  (Instr.slice 9 (.string s) (some (.int .i64 l)) none none).run Tryz.prog w = .ok (.string (s.extract l.toNat s.size)) w := by
 simp [Instr.slice, run_underlying Tryz.underlying9, Instr.sliceBounds, run_sliceBound, h0, h1]
set_option maxRecDepth 100000 in
set_option maxHeartbeats 2000000 in
theorem Rr.decode (s : ByteArray) (w : World) (hs : s.size ≤ 35184372088832) :
  Calls Tryz.prog 81 #[.string s] w fun e w' => e = .returned (.string ⟨(Pl.decL s.data.toList).toArray⟩) ∧ Below w.heap.size w w' := by
 obtain ⟨WA, hWA⟩ : ∃ WA, w.alloc Rr.obj = WA := ⟨_, rfl⟩
 have hsz : WA.heap.size = w.heap.size + 1 := by rw [← hWA]; simp
 have hta : WA.heap[w.heap.size]? = some Rr.obj := by rw [← hWA]; exact heap_alloc_new w _
 have hbA : Below w.heap.size w WA := by rw [← hWA]; exact (Below.refl _ _).alloc (Nat.le_refl _) _
 have c0 := Sh.Builder_Grow_fresh (w.heap.size + 1) (w.heap.size + 1) s.size (WA.alloc (.cells #[.pointer none, .slice none 0 0] 124)) (Nat.le_refl _) (by rw [← hsz]; exact heap_alloc_new WA _) (by simp; omega) (by omega)
 rw [← hWA] at c0
 go_enter Tryz.func81, Tryz.ntmps81
 go_wp2_with fail
 refine c0.mono ?_
 rintro e w0 ⟨rfl, hB0, hb0⟩
 have hbw0 : Below (w.heap.size + 1) WA w0 := by
  rw [hWA] at hb0
  exact ((Below.refl _ _).alloc (by omega) _).trans hb0
 have hI0 : Lib.IsBuilderF 124 5 (w.heap.size + 1) (w.heap.size + 1) (Lib.byteCells []) w0 := .inr (Lib.BuilderAtF.of hB0)
 clear c0 hB0 hb0 hWA
 go_wp2_with fail
 go_loopw [5] (fun i wr => ∃ (k : Nat) (acc : List UInt8), k ≤ s.size ∧ i = .int .i64 k ∧ Lib.IsBuilderF 124 5 (w.heap.size + 1) (w.heap.size + 1) (Lib.byteCells acc) wr ∧ Below (w.heap.size + 1) WA wr ∧ Hid (acc ++ Pl.decL (s.data.toList.drop k) = Pl.decL s.data.toList) ∧ acc.length ≤ 4 * k) (fun i _ => s.size - (intOf i).toNat)
 case atStart => exact ⟨0, [], Nat.zero_le _, rfl, hI0, hbw0, rfl, Nat.le_refl _⟩
 case round =>
  clear hI0 hbw0
  obtain ⟨k, acc, hk, rfl, hI, hb, hn, hal⟩ := hrel
  have hsr := hb.size
  by_cases hlt : k < s.size
  ·
   obtain ⟨c, hc⟩ : ∃ c, s[k] = c := ⟨_, rfl⟩
   have HD : Hid (s.data.toList.drop k = c :: s.data.toList.drop (k + 1)) := by rw [← hc]; exact Rd.drop_cons s k hlt
   have hcn : s[k].toNat = c.toNat := by rw [hc]
   clear hc
   by_cases h38 : c = 38
   ·
    have b0 : ((c.toNat : Int) == 38) = true := by rw [h38]; rfl
    have H38 : Hid (c = 38) := h38
    clear h38
    obtain ⟨q, hq⟩ : ∃ q, Pl.refL (s.data.toList.drop (k + 1)) = q := ⟨_, rfl⟩
    have cr : ∀ u : World, Below wr.heap.size wr u → Calls Tryz.prog 111 #[.string (s.extract (k + 1) s.size), .slice (some ⟨w.heap.size, 0, none⟩) 7 7] u fun e w' => e = .returned (.tuple #[.string ⟨q.1.toArray⟩, .int .i64 (q.2 : Nat)]) ∧ Below u.heap.size u w' :=
     fun u hu => Rr.ref_at s k w.heap.size u q hq ((hu.block _ (by omega)).trans ((hb.block _ (by omega)).trans hta))
    have HQ : Hid (Pl.refL (s.data.toList.drop (k + 1)) = q) := hq
    clear hq
    have hwr : IntKind.i64.wrap ((k : Int) + 1) = (k : Int) + 1 := by rw [IntKind.wrap_i64]; omega
    have hcut : ∀ u : World, (Instr.slice 9 (.string s) (some (.int .i64 ((k : Int) + 1))) none none).run Tryz.prog u = .ok (.string (s.extract (k + 1) s.size)) u := fun u => by
     have h := Rr.run_from u s ((k : Int) + 1) (by omega) (by omega)
     rwa [show ((k : Int) + 1).toNat = k + 1 by omega] at h
    go_wp2_with fail
    go_cut [6, 7] from 19 to 49 (fun sg nn wx => sg = .string ⟨q.1.toArray⟩ ∧ nn = .int .i64 (q.2 : Nat) ∧ Below wr.heap.size wr wx)
    case first =>
     go_region_with (go_at_call 111; refine (cr _ (Below.refl _ _).drew).mono ?_; rintro e w1 ⟨rfl, hb1⟩)
     all_goals (try go_wp2_with fail)
     all_goals go_meet
     all_goals exact ⟨rfl, rfl, ⟨hb1.os, hb1.tape, hb1.output, hb1.size, hb1.block⟩⟩
    case rest =>
     obtain ⟨rfl, rfl, hb1⟩ := hcut
     clear cr hwr
     have hle := Pl.refL_le (s.data.toList.drop (k + 1))
     have hsg := Pl.refL_sign (s.data.toList.drop (k + 1))
     rw [HQ.out, List.length_drop, Wk.len_data] at hle
     rw [HQ.out] at hsg
     have hI1 := Wk.isF_below hI hb1
     have hbB : Below (w.heap.size + 1) WA wc := hb.trans (hb1.mono (by omega))
     have hsc := hbB.size
     by_cases hz : q.2 = 0
     ·
      have z0 : ((q.2 : Int) == 0) = true := beq_iff_eq.2 (by omega)
      have HZ : Hid (q.2 = 0) := hz
      clear hz
      go_wp2_with fail
      refine (Sh.Builder_WriteByte_k (w.heap.size + 1) (w.heap.size + 1) _ _ wc hI1 (by rw [Lib.byteCells_length]; omega) (by omega)).mono ?_
      rintro e w2 ⟨rfl, hI2, hb2, _⟩
      have hb' : Below (w.heap.size + 1) WA w2 := hbB.trans hb2
      have hI' : Lib.IsBuilderF 124 5 (w.heap.size + 1) (w.heap.size + 1) (Lib.byteCells (acc ++ [c])) w2 := by
       rw [Lib.byteCells_append]; exact .inr hI2
      have HN : Hid ((acc ++ [c]) ++ Pl.decL (s.data.toList.drop (k + 1)) = Pl.decL s.data.toList) := by
       show _ = _
       rw [← hn.out, HD.out, Pl.decL_none c _ (by rw [HQ.out]; exact HZ.out)]
       simp
      clear hI hI1 hI2 hb1 hb2 hn HD HQ HZ H38 hb hbB
      go_wp2
      go_roundw
      case rel => exact ⟨k + 1, acc ++ [c], by omega, by go_num, hI', hb', HN, by simp; omega⟩
      case measure => simp [intOf]; omega
     ·
      have z0 : ((q.2 : Int) == 0) = false := beq_eq_false_iff_ne.2 (by omega)
      have hps : (⟨q.1.toArray⟩ : ByteArray).size = q.1.length := by rw [← Wk.len_data]
      go_wp2_with fail
      refine (Sh.Builder_WriteString_k (w.heap.size + 1) (w.heap.size + 1) _ _ wc hI1 (by rw [Lib.byteCells_length, hps]; omega) (by omega)).mono ?_
      rintro e w2 ⟨rfl, hI2, hb2, _⟩
      have hb' : Below (w.heap.size + 1) WA w2 := hbB.trans hb2
      have hI' : Lib.IsBuilderF 124 5 (w.heap.size + 1) (w.heap.size + 1) (Lib.byteCells (acc ++ q.1)) w2 := by
       rw [Lib.byteCells_append]; exact .inr hI2
      have HN : Hid ((acc ++ q.1) ++ Pl.decL (s.data.toList.drop (k + (1 + q.2))) = Pl.decL s.data.toList) := by
       show _ = _
       rw [← hn.out, HD.out, Pl.decL_ref c _ H38.out (by rw [HQ.out]; exact hz), HQ.out, List.drop_drop, List.append_assoc, Nat.add_assoc]
      clear hI hI1 hI2 hb1 hb2 hn HD HQ H38 hb hbB
      go_wp2
      go_roundw
      case rel => exact ⟨k + (1 + q.2), acc ++ q.1, by omega, by go_num, hI', hb', HN, by simp; omega⟩
      case measure => simp [intOf]; omega
   ·
    have b0 : ((c.toNat : Int) == 38) = false := beq_eq_false_iff_ne.2 (fun e => h38 (UInt8.toNat_inj.1 (by simpa using (by omega : c.toNat = 38))))
    go_wp2_with fail
    refine (Sh.Builder_WriteByte_k (w.heap.size + 1) (w.heap.size + 1) _ _ wr hI (by rw [Lib.byteCells_length]; omega) (by omega)).mono ?_
    rintro e w2 ⟨rfl, hI2, hb2, _⟩
    have hb' : Below (w.heap.size + 1) WA w2 := hb.trans hb2
    have hI' : Lib.IsBuilderF 124 5 (w.heap.size + 1) (w.heap.size + 1) (Lib.byteCells (acc ++ [c])) w2 := by
     rw [Lib.byteCells_append]; exact .inr hI2
    have HN : Hid ((acc ++ [c]) ++ Pl.decL (s.data.toList.drop (k + 1)) = Pl.decL s.data.toList) := by
     show _ = _
     rw [← hn.out, HD.out, Pl.decL_other c _ h38]
     simp
    clear hI hI2 hb2 hn HD hb
    go_wp2
    go_roundw
    case rel => exact ⟨k + 1, acc ++ [c], by omega, by go_num, hI', hb', HN, by simp; omega⟩
    case measure => simp [intOf]; omega
  ·
   have hke : k = s.size := by omega
   have HE : Hid (acc = Pl.decL s.data.toList) := by
    have := hn.out
    rw [hke, List.drop_of_length_le (by rw [Wk.len_data]; exact Nat.le_refl _), Pl.decL_nil, List.append_nil] at this
    exact this
   clear hke
   go_wp2_with fail
   refine (Sh.Builder_String_any_k (w.heap.size + 1) (w.heap.size + 1) acc _ hI (by omega)).mono ?_
   rintro e w1 ⟨rfl, _, hb1, _⟩
   go_wp2
   go_ret
   exact ⟨Wk.ret_str HE.out, hbA.trans ((hb.trans hb1).mono (by omega))⟩
def Pl.numP (s : List UInt8) : Nat × Bool := match Pl.numR s with | some v => (v, true) | none => (0, false)
def Pl.allP (base : Nat) (s : List UInt8) (x : Nat) : Nat × Bool := match Pl.numAll base s x with | some v => (v, true) | none => (0, false)
theorem Rt.ret_pair {p q : Nat × Bool} (h : p = q) : Ending.returned (.tuple #[.int .i64 (p.1 : Nat), .bool p.2]) = .returned (.tuple #[.int .i64 (q.1 : Nat), .bool q.2]) := by rw [h]
theorem Rt.all_end (base : Nat) (s : ByteArray) (k x : Nat) (h : s.size ≤ k) : Pl.allP base (s.data.toList.drop k) x = (x, true) := by
 rw [List.drop_of_length_le (by rw [Array.length_toList]; exact h)]; rfl
theorem Rt.all_bad (base : Nat) (s : ByteArray) (k x d : Nat) (h : k < s.size) (hd : Pl.dig s[k] = d) (hb : base ≤ d) : Pl.allP base (s.data.toList.drop k) x = (0, false) := by
 rw [Rd.drop_cons s k h, Pl.allP, Pl.numAll, if_neg (by omega)]
theorem Rt.all_go (base : Nat) (s : ByteArray) (k x d : Nat) (h : k < s.size) (hd : Pl.dig s[k] = d) (hb : d < base) : Pl.allP base (s.data.toList.drop k) x = Pl.allP base (s.data.toList.drop (k + 1)) (x * base + d) := by
 rw [Rd.drop_cons s k h, Pl.allP, Pl.numAll, if_pos (by omega), hd]; rfl
theorem Rt.hex_at (c : UInt8) (d : Nat) (hd : Pl.dig c = d) (z : Int) (hz : z = if d = 16 then -1 else (d : Int)) (w : World) :
  Calls Tryz.prog 163 #[.int .u8 c.toNat] w fun e w' => e = .returned (.int .i64 z) ∧ w' = w := by
 have h := Rt.hex c w
 have e : Pl.hexI c = z := by rw [hz, Pl.hexI, hd]
 rwa [e] at h
theorem Rt.nonempty (s : ByteArray) (h : 0 < s.size) : ¬ s.toList = [] := by
 rw [Lib.toList_data]
 intro e
 have := congrArg List.length e
 rw [Wk.len_data, List.length_nil] at this
 omega
theorem Rt.empty (s : ByteArray) (h : s.size = 0) : s.toList = [] := by
 rw [Lib.toList_data]
 exact List.eq_nil_of_length_eq_zero (by rw [Wk.len_data]; exact h)
theorem Rt.numR_empty (s : ByteArray) (h : s.size = 0) : Pl.numP s.data.toList = (0, false) := by
 have : s.data.toList = [] := List.eq_nil_of_length_eq_zero (by rw [Wk.len_data]; exact h)
 rw [this]; rfl
theorem Rt.numR_hex (s p : ByteArray) (h : 0 < s.size) (hc : (Pl.lowB s[0]).toNat = 120) (hp : p.data.toList = s.data.toList.drop 1) : Pl.numP s.data.toList = if p.size = 0 ∨ 6 < p.size then (0, false) else Pl.allP 16 p.data.toList 0 := by
 have hd := Rd.drop_cons s 0 h
 rw [List.drop_zero, Nat.zero_add, ← hp] at hd
 have hx : s[0] = 120 ∨ s[0] = 88 := by
  rw [Pl.lowB_toNat] at hc
  split at hc
  ·
   right; exact UInt8.toNat_inj.1 (by show _ = 88; omega)
  ·
   left; exact UInt8.toNat_inj.1 (by show _ = 120; omega)
 rw [hd, Pl.numP, Pl.numR, if_pos (by simpa using hx), List.tail_cons]
 have e : (p.data.toList = [] ∨ 6 < p.data.toList.length) ↔ (p.size = 0 ∨ 6 < p.size) := by
  rw [Wk.len_data]
  constructor
  ·
   rintro (h | h)
   ·
    left; rw [← Wk.len_data, h]; rfl
   ·
    exact .inr h
  ·
   rintro (h | h)
   ·
    left; exact List.eq_nil_of_length_eq_zero (by rw [Wk.len_data]; exact h)
   ·
    exact .inr h
 by_cases g : p.size = 0 ∨ 6 < p.size
 ·
  rw [if_pos (e.2 g), if_pos g]
 ·
  rw [if_neg (fun x => g (e.1 x)), if_neg g]; rfl
theorem Rt.numR_ten (s : ByteArray) (h : 0 < s.size) (hc : (Pl.lowB s[0]).toNat ≠ 120) : Pl.numP s.data.toList = if 7 < s.size then (0, false) else Pl.allP 10 s.data.toList 0 := by
 have hd := Rd.drop_cons s 0 h
 rw [List.drop_zero, Nat.zero_add] at hd
 have hx : ¬ (s.data.toList.head? = some 120 ∨ s.data.toList.head? = some 88) := by
  rw [hd]
  rintro (e | e)
  ·
   simp at e; rw [e] at hc; exact hc rfl
  ·
   simp at e; rw [e] at hc; exact hc rfl
 have e : (s.data.toList = [] ∨ 7 < s.data.toList.length) ↔ 7 < s.size := by
  rw [Wk.len_data]
  refine ⟨?_, .inr⟩
  rintro (e | e)
  ·
   rw [hd] at e; cases e
  ·
   exact e
 rw [Pl.numP, Pl.numR, if_neg hx]
 by_cases g : 7 < s.size
 ·
  rw [if_pos (e.2 g), if_pos g]
 ·
  rw [if_neg (fun x => g (e.1 x)), if_neg g]; rfl
set_option maxRecDepth 100000 in
set_option maxHeartbeats 2000000 in
theorem Rt.num0 (s : ByteArray) (w : World) (h : s.size = 0) :
  Calls Tryz.prog 146 #[.string s] w fun e w' => e = .returned (.tuple #[.int .i64 ((Pl.numP s.data.toList).1 : Nat), .bool (Pl.numP s.data.toList).2]) ∧ w' = w := by
 have hs := Rt.empty s h
 have hs' : s.toList.isEmpty = true := by rw [hs]; rfl
 have HR : Hid (Pl.numP s.data.toList = (0, false)) := Rt.numR_empty s h
 clear h
 go_enter Tryz.func146, Tryz.ntmps146
 go_wp2
 go_ret2
 exact ⟨Rt.ret_pair HR.out.symm, rfl⟩
set_option maxRecDepth 100000 in
set_option maxHeartbeats 2000000 in
theorem Rt.numHex (s : ByteArray) (w : World) (h : 0 < s.size) (hc : (Pl.lowB s[0]).toNat = 120) :
  Calls Tryz.prog 146 #[.string s] w fun e w' => e = .returned (.tuple #[.int .i64 ((Pl.numP s.data.toList).1 : Nat), .bool (Pl.numP s.data.toList).2]) ∧ w' = w := by
 obtain ⟨p, hp⟩ : ∃ p, s.extract 1 s.size = p := ⟨_, rfl⟩
 have hpd : p.data.toList = s.data.toList.drop 1 := by rw [← hp]; exact Wk.rest_data s 1
 have hpz : p.size + 1 = s.size := by
  rw [← Wk.len_data p, hpd, List.length_drop, Wk.len_data]; omega
 have hs := Rt.nonempty s h
 have hs' : s.toList.isEmpty = false := by rw [List.isEmpty_eq_false_iff]; exact hs
 have HR0 : Hid (Pl.numP s.data.toList = if p.size = 0 ∨ 6 < p.size then (0, false) else Pl.allP 16 p.data.toList 0) := Rt.numR_hex s p h hc hpd
 have cl := Sz.low s[0] w
 have hc' : ((Pl.lowB s[0]).toNat : Int) = 120 := by rw [hc]; rfl
 rw [hc'] at cl
 clear hc'
 have hcut : ∀ u : World, (Instr.slice 9 (.string s) (some (.int .i64 1)) none none).run Tryz.prog u = .ok (.string p) u := fun u => by
  have h := Rr.run_from u s 1 (by omega) (by omega)
  rw [← hp]; exact h
 clear hp hpd hc
 by_cases h0 : p.size = 0
 ·
  have hpe := Rt.empty p h0
  have hpe' : p.toList.isEmpty = true := by rw [hpe]; rfl
  have HR : Hid (Pl.numP s.data.toList = (0, false)) := by show _ = _; rw [HR0.out, if_pos (.inl h0)]
  clear HR0 h0 hpz
  go_enter Tryz.func146, Tryz.ntmps146
  go_wp2_with (go_at_call 145; refine cl.mono ?_; rintro e w1 ⟨rfl, rfl⟩)
  go_ret2
  exact ⟨Rt.ret_pair HR.out.symm, rfl⟩
 ·
  have hpe := Rt.nonempty p (by omega)
  have hpe' : p.toList.isEmpty = false := by rw [List.isEmpty_eq_false_iff]; exact hpe
  by_cases h6 : 6 < p.size
  ·
   have HR : Hid (Pl.numP s.data.toList = (0, false)) := by show _ = _; rw [HR0.out, if_pos (.inr h6)]
   clear HR0 hpz
   go_enter Tryz.func146, Tryz.ntmps146
   go_wp2_with (go_at_call 145; refine cl.mono ?_; rintro e w1 ⟨rfl, rfl⟩)
   go_ret2
   exact ⟨Rt.ret_pair HR.out.symm, rfl⟩
  ·
   have HR : Hid (Pl.numP s.data.toList = Pl.allP 16 p.data.toList 0) := by show _ = _; rw [HR0.out, if_neg (by omega)]
   clear HR0 hpz
   go_enter Tryz.func146, Tryz.ntmps146
   go_wp2_with (go_at_call 145; refine cl.mono ?_; rintro e w1 ⟨rfl, rfl⟩)
   go_loop [6, 7] (fun v i => ∃ x k : Nat, k ≤ p.size ∧ v = .int .i64 x ∧ i = .int .i64 k ∧ x < 16 ^ k ∧ Hid (Pl.allP 16 (p.data.toList.drop k) x = Pl.allP 16 p.data.toList 0)) (fun _ i => p.size - (intOf i).toNat)
   case atStart => exact ⟨0, 0, Nat.zero_le _, rfl, rfl, by decide, rfl⟩
   case round =>
    obtain ⟨x, k, hk1, rfl, rfl, hx0, HE⟩ := hrel
    have hx : x < 16777216 := Rd.pow_le 16 x k 6 hx0 (by decide) (by omega)
    have HX : Hid (x < 16 ^ k) := hx0
    clear hx0
    by_cases hlt : k < p.size
    ·
     obtain ⟨d, hd⟩ : ∃ d, Pl.dig p[k] = d := ⟨_, rfl⟩
     obtain ⟨n, hn⟩ : ∃ n, p[k].toNat = n := ⟨_, rfl⟩
     have hd16 : d ≤ 16 := by rw [← hd]; exact Pl.dig_le _
     by_cases hb : d < 16
     ·
      have cd := Rt.hex_at p[k] d hd (d : Int) (by rw [if_neg (by omega)]) w1
      rw [hn] at cd
      have hb0 : decide ((d : Int) < 0) = false := decide_eq_false (by omega)
      have hb1 : decide ((16 : Int) ≤ (d : Int)) = false := decide_eq_false (by omega)
      have HP := Rd.pow 16 x k d HX.out hb
      have HG := Rt.all_go 16 p k x d hlt hd hb
      have HN : Hid (Pl.allP 16 (p.data.toList.drop (k + 1)) (x * 16 + d) = Pl.allP 16 p.data.toList 0 ∧ x * 16 + d < 16 ^ (k + 1)) := ⟨by rw [← HG]; exact HE.out, HP⟩
      clear HP HG HX HE hd
      go_wp2_with (go_at_call 163; refine cd.mono ?_; rintro e w2 ⟨rfl, rfl⟩)
      go_round
      case rel => exact ⟨x * 16 + d, k + 1, by omega, by go_num, by go_num, HN.out.2, HN.out.1⟩
      case measure => simp [intOf]; omega
     ·
      have HB : Hid (Pl.numP s.data.toList = (0, false)) := by
       show _ = _
       rw [HR.out, ← HE.out]
       exact Rt.all_bad _ p k x d hlt hd (by omega)
      by_cases h16 : d = 16
      ·
       have cd := Rt.hex_at p[k] d hd (-1) (by rw [if_pos h16]) w1
       rw [hn] at cd
       clear HX HE hd h16 hb
       go_wp2_with (go_at_call 163; refine cd.mono ?_; rintro e w2 ⟨rfl, rfl⟩)
       go_ret2
       exact ⟨Rt.ret_pair HB.out.symm, rfl⟩
      ·
       have cd := Rt.hex_at p[k] d hd (d : Int) (by rw [if_neg h16]) w1
       rw [hn] at cd
       have hb0 : decide ((d : Int) < 0) = false := decide_eq_false (by omega)
       have hb1 : decide ((16 : Int) ≤ (d : Int)) = true := decide_eq_true (by omega)
       clear HX HE hd
       go_wp2_with (go_at_call 163; refine cd.mono ?_; rintro e w2 ⟨rfl, rfl⟩)
       go_ret2
       exact ⟨Rt.ret_pair HB.out.symm, rfl⟩
    ·
     have HB : Hid (Pl.numP s.data.toList = (x, true)) := by
      show _ = _
      rw [HR.out, ← HE.out]
      exact Rt.all_end _ p k x (by omega)
     clear HX HE
     go_wp2
     go_ret2
     exact ⟨Rt.ret_pair HB.out.symm, rfl⟩
set_option maxRecDepth 100000 in
set_option maxHeartbeats 2000000 in
theorem Rt.numTen (s : ByteArray) (w : World) (h : 0 < s.size) (hc : (Pl.lowB s[0]).toNat ≠ 120) :
  Calls Tryz.prog 146 #[.string s] w fun e w' => e = .returned (.tuple #[.int .i64 ((Pl.numP s.data.toList).1 : Nat), .bool (Pl.numP s.data.toList).2]) ∧ w' = w := by
 have hs := Rt.nonempty s h
 have hs' : s.toList.isEmpty = false := by rw [List.isEmpty_eq_false_iff]; exact hs
 have HR0 : Hid (Pl.numP s.data.toList = if 7 < s.size then (0, false) else Pl.allP 10 s.data.toList 0) := Rt.numR_ten s h hc
 have cl := Sz.low s[0] w
 obtain ⟨m, hm⟩ : ∃ m, (Pl.lowB s[0]).toNat = m := ⟨_, rfl⟩
 rw [hm] at cl hc
 have hb : ((m : Int) == 120) = false := beq_eq_false_iff_ne.2 (by omega)
 clear hm hc
 by_cases h7 : 7 < s.size
 ·
  have HR : Hid (Pl.numP s.data.toList = (0, false)) := by show _ = _; rw [HR0.out, if_pos h7]
  clear HR0
  go_enter Tryz.func146, Tryz.ntmps146
  go_wp2_with (go_at_call 145; refine cl.mono ?_; rintro e w1 ⟨rfl, rfl⟩)
  go_ret2
  exact ⟨Rt.ret_pair HR.out.symm, rfl⟩
 ·
  have HR : Hid (Pl.numP s.data.toList = Pl.allP 10 s.data.toList 0) := by show _ = _; rw [HR0.out, if_neg h7]
  clear HR0
  go_enter Tryz.func146, Tryz.ntmps146
  go_wp2_with (go_at_call 145; refine cl.mono ?_; rintro e w1 ⟨rfl, rfl⟩)
  go_loop [6, 7] (fun v i => ∃ x k : Nat, k ≤ s.size ∧ v = .int .i64 x ∧ i = .int .i64 k ∧ x < 10 ^ k ∧ Hid (Pl.allP 10 (s.data.toList.drop k) x = Pl.allP 10 s.data.toList 0)) (fun _ i => s.size - (intOf i).toNat)
  case atStart => exact ⟨0, 0, Nat.zero_le _, rfl, rfl, by decide, rfl⟩
  case round =>
   obtain ⟨x, k, hk1, rfl, rfl, hx0, HE⟩ := hrel
   have hx : x < 10000000 := Rd.pow_le 10 x k 7 hx0 (by decide) (by omega)
   have HX : Hid (x < 10 ^ k) := hx0
   clear hx0
   by_cases hlt : k < s.size
   ·
    obtain ⟨d, hd⟩ : ∃ d, Pl.dig s[k] = d := ⟨_, rfl⟩
    obtain ⟨n, hn⟩ : ∃ n, s[k].toNat = n := ⟨_, rfl⟩
    have hd16 : d ≤ 16 := by rw [← hd]; exact Pl.dig_le _
    by_cases hb : d < 10
    ·
     have cd := Rt.hex_at s[k] d hd (d : Int) (by rw [if_neg (by omega)]) w1
     rw [hn] at cd
     have hb0 : decide ((d : Int) < 0) = false := decide_eq_false (by omega)
     have hb1 : decide ((10 : Int) ≤ (d : Int)) = false := decide_eq_false (by omega)
     have HP := Rd.pow 10 x k d HX.out hb
     have HG := Rt.all_go 10 s k x d hlt hd hb
     have HN : Hid (Pl.allP 10 (s.data.toList.drop (k + 1)) (x * 10 + d) = Pl.allP 10 s.data.toList 0 ∧ x * 10 + d < 10 ^ (k + 1)) := ⟨by rw [← HG]; exact HE.out, HP⟩
     clear HP HG HX HE hd
     go_wp2_with (go_at_call 163; refine cd.mono ?_; rintro e w2 ⟨rfl, rfl⟩)
     go_round
     case rel => exact ⟨x * 10 + d, k + 1, by omega, by go_num, by go_num, HN.out.2, HN.out.1⟩
     case measure => simp [intOf]; omega
    ·
     have HB : Hid (Pl.numP s.data.toList = (0, false)) := by
      show _ = _
      rw [HR.out, ← HE.out]
      exact Rt.all_bad _ s k x d hlt hd (by omega)
     by_cases h16 : d = 16
     ·
      have cd := Rt.hex_at s[k] d hd (-1) (by rw [if_pos h16]) w1
      rw [hn] at cd
      clear HX HE hd h16 hb
      go_wp2_with (go_at_call 163; refine cd.mono ?_; rintro e w2 ⟨rfl, rfl⟩)
      go_ret2
      exact ⟨Rt.ret_pair HB.out.symm, rfl⟩
     ·
      have cd := Rt.hex_at s[k] d hd (d : Int) (by rw [if_neg h16]) w1
      rw [hn] at cd
      have hb0 : decide ((d : Int) < 0) = false := decide_eq_false (by omega)
      have hb1 : decide ((10 : Int) ≤ (d : Int)) = true := decide_eq_true (by omega)
      clear HX HE hd
      go_wp2_with (go_at_call 163; refine cd.mono ?_; rintro e w2 ⟨rfl, rfl⟩)
      go_ret2
      exact ⟨Rt.ret_pair HB.out.symm, rfl⟩
   ·
    have HB : Hid (Pl.numP s.data.toList = (x, true)) := by
     show _ = _
     rw [HR.out, ← HE.out]
     exact Rt.all_end _ s k x (by omega)
    clear HX HE
    go_wp2
    go_ret2
    exact ⟨Rt.ret_pair HB.out.symm, rfl⟩
theorem Rt.number (s : ByteArray) (w : World) :
  Calls Tryz.prog 146 #[.string s] w fun e w' => e = .returned (.tuple #[.int .i64 ((Pl.numP s.data.toList).1 : Nat), .bool (Pl.numP s.data.toList).2]) ∧ w' = w := by
 by_cases h : s.size = 0
 ·
  exact Rt.num0 s w h
 ·
  by_cases hc : (Pl.lowB (s[0]'(by omega))).toNat = 120
  ·
   exact Rt.numHex s w (by omega) hc
  ·
   exact Rt.numTen s w (by omega) hc
def Pl.nameS (b : List UInt8) : List UInt8 := (Pl.nameR Pl.names0 b).getD []
theorem Rt.ret_str {a b : List UInt8} (h : a = b) : Ending.returned (.string ⟨a.toArray⟩) = .returned (.string ⟨b.toArray⟩) := by rw [h]
set_option maxRecDepth 100000 in
theorem Rt.named (s : ByteArray) (w : World) :
  Calls Tryz.prog 148 #[.string s] w fun e w' => e = .returned (.string ⟨(Pl.nameS s.data.toList).toArray⟩) ∧ w' = w := by
 by_cases e0 : s.data.toList = [97, 109, 112]
 ·
  have b0 : (s.toList == [97, 109, 112]) = true := by rw [Lib.toList_data]; exact beq_iff_eq.2 e0
  have HR : Hid ([38] = Pl.nameS s.data.toList) := by show _ = _; rw [e0]; rfl
  clear e0
  go_enter Tryz.func148, Tryz.ntmps148
  go_wp2
  go_ret
  exact ⟨Rt.ret_str HR.out, rfl⟩
 have b0 : (s.toList == [97, 109, 112]) = false := by rw [Lib.toList_data]; exact beq_eq_false_iff_ne.2 e0
 by_cases e1 : s.data.toList = [108, 116]
 ·
  have b1 : (s.toList == [108, 116]) = true := by rw [Lib.toList_data]; exact beq_iff_eq.2 e1
  have HR : Hid ([60] = Pl.nameS s.data.toList) := by show _ = _; rw [e1]; rfl
  clear e1
  go_enter Tryz.func148, Tryz.ntmps148
  go_wp2
  go_ret
  exact ⟨Rt.ret_str HR.out, rfl⟩
 have b1 : (s.toList == [108, 116]) = false := by rw [Lib.toList_data]; exact beq_eq_false_iff_ne.2 e1
 by_cases e2 : s.data.toList = [103, 116]
 ·
  have b2 : (s.toList == [103, 116]) = true := by rw [Lib.toList_data]; exact beq_iff_eq.2 e2
  have HR : Hid ([62] = Pl.nameS s.data.toList) := by show _ = _; rw [e2]; rfl
  clear e2
  go_enter Tryz.func148, Tryz.ntmps148
  go_wp2
  go_ret
  exact ⟨Rt.ret_str HR.out, rfl⟩
 have b2 : (s.toList == [103, 116]) = false := by rw [Lib.toList_data]; exact beq_eq_false_iff_ne.2 e2
 by_cases e3 : s.data.toList = [113, 117, 111, 116]
 ·
  have b3 : (s.toList == [113, 117, 111, 116]) = true := by rw [Lib.toList_data]; exact beq_iff_eq.2 e3
  have HR : Hid ([34] = Pl.nameS s.data.toList) := by show _ = _; rw [e3]; rfl
  clear e3
  go_enter Tryz.func148, Tryz.ntmps148
  go_wp2
  go_ret
  exact ⟨Rt.ret_str HR.out, rfl⟩
 have b3 : (s.toList == [113, 117, 111, 116]) = false := by rw [Lib.toList_data]; exact beq_eq_false_iff_ne.2 e3
 by_cases e4 : s.data.toList = [97, 112, 111, 115]
 ·
  have b4 : (s.toList == [97, 112, 111, 115]) = true := by rw [Lib.toList_data]; exact beq_iff_eq.2 e4
  have HR : Hid ([39] = Pl.nameS s.data.toList) := by show _ = _; rw [e4]; rfl
  clear e4
  go_enter Tryz.func148, Tryz.ntmps148
  go_wp2
  go_ret
  exact ⟨Rt.ret_str HR.out, rfl⟩
 have b4 : (s.toList == [97, 112, 111, 115]) = false := by rw [Lib.toList_data]; exact beq_eq_false_iff_ne.2 e4
 by_cases e5 : s.data.toList = [110, 98, 115, 112]
 ·
  have b5 : (s.toList == [110, 98, 115, 112]) = true := by rw [Lib.toList_data]; exact beq_iff_eq.2 e5
  have HR : Hid ([194, 160] = Pl.nameS s.data.toList) := by show _ = _; rw [e5]; rfl
  clear e5
  go_enter Tryz.func148, Tryz.ntmps148
  go_wp2
  go_ret
  exact ⟨Rt.ret_str HR.out, rfl⟩
 have b5 : (s.toList == [110, 98, 115, 112]) = false := by rw [Lib.toList_data]; exact beq_eq_false_iff_ne.2 e5
 by_cases e6 : s.data.toList = [99, 111, 112, 121]
 ·
  have b6 : (s.toList == [99, 111, 112, 121]) = true := by rw [Lib.toList_data]; exact beq_iff_eq.2 e6
  have HR : Hid ([194, 169] = Pl.nameS s.data.toList) := by show _ = _; rw [e6]; rfl
  clear e6
  go_enter Tryz.func148, Tryz.ntmps148
  go_wp2
  go_ret
  exact ⟨Rt.ret_str HR.out, rfl⟩
 have b6 : (s.toList == [99, 111, 112, 121]) = false := by rw [Lib.toList_data]; exact beq_eq_false_iff_ne.2 e6
 have HR : Hid ([] = Pl.nameS s.data.toList) := by
  show _ = _
  simp [Pl.nameS, Pl.nameR, Pl.names0, e0, e1, e2, e3, e4, e5, e6]
 clear e0 e1 e2 e3 e4 e5 e6
 go_enter Tryz.func148, Tryz.ntmps148
 go_wp2
 go_ret
 exact ⟨Rt.ret_str HR.out, rfl⟩
def Pl.refP (b : List UInt8) : List UInt8 × Bool := match Pl.refR b with | some t => (t, true) | none => ([], false)
theorem Rt.ret_two {p q : List UInt8 × Bool} (h : p = q) : Ending.returned (.tuple #[.string ⟨p.1.toArray⟩, .bool p.2]) = .returned (.tuple #[.string ⟨q.1.toArray⟩, .bool q.2]) := by rw [h]
theorem Rt.refP_num (s p : ByteArray) (h : 0 < s.size) (hc : s[0] = 35) (hp : p.data.toList = s.data.toList.drop 1) : Pl.refP s.data.toList = if (Pl.numP p.data.toList).2 = true then (Pl.runeL (Pl.numP p.data.toList).1, true) else ([], false) := by
 have hd := Rd.drop_cons s 0 h
 rw [List.drop_zero, Nat.zero_add, ← hp, hc] at hd
 rw [hd, Pl.refP, Pl.refR, if_pos (by simp), List.tail_cons, Pl.numP]
 cases Pl.numR p.data.toList <;> rfl
theorem Rt.nameR_ne : ∀ (b g : List UInt8), Pl.nameR Pl.names0 b = some g → g ≠ [] := by
 have key : ∀ ns : List (List UInt8 × List UInt8), (∀ n ∈ ns, n.2 ≠ []) → ∀ b g, Pl.nameR ns b = some g → g ≠ [] := by
  intro ns
  induction ns with
  | nil => intro _ b g h; cases h
  | cons n ns ih =>
   intro hn b g h
   rw [Pl.nameR] at h
   split at h
   ·
    cases h; exact hn n (by simp)
   ·
    exact ih (fun m hm => hn m (by simp [hm])) b g h
 exact key Pl.names0 (by decide)
theorem Rt.refP_name (b : List UInt8) (h : b.head? ≠ some 35) : Pl.refP b = (Pl.nameS b, !(Pl.nameS b).isEmpty) := by
 rw [Pl.refP, Pl.refR, if_neg h, Pl.nameS]
 cases hn : Pl.nameR Pl.names0 b with
 | none => rfl
 | some g =>
  have := Rt.nameR_ne b g hn
  simp [this]
set_option maxRecDepth 100000 in
set_option maxHeartbeats 2000000 in
theorem Rt.refNum (s : ByteArray) (w : World) (h : 0 < s.size) (hc : s[0] = 35) :
  Calls Tryz.prog 128 #[.string s] w fun e w' => e = .returned (.tuple #[.string ⟨(Pl.refP s.data.toList).1.toArray⟩, .bool (Pl.refP s.data.toList).2]) ∧ Below w.heap.size w w' := by
 obtain ⟨p, hp⟩ : ∃ p, s.extract 1 s.size = p := ⟨_, rfl⟩
 have hpd : p.data.toList = s.data.toList.drop 1 := by rw [← hp]; exact Wk.rest_data s 1
 have hs := Rt.nonempty s h
 have hs' : s.toList.isEmpty = false := by rw [List.isEmpty_eq_false_iff]; exact hs
 have HR := Rt.refP_num s p h hc hpd
 have cn := Rt.number p w
 have hcn : (s[0].toNat : Int) = 35 := by rw [hc]; rfl
 have hcut : ∀ u : World, (Instr.slice 9 (.string s) (some (.int .i64 1)) none none).run Tryz.prog u = .ok (.string p) u := fun u => by
  have h := Rr.run_from u s 1 (by omega) (by omega)
  rw [← hp]; exact h
 generalize Pl.numP p.data.toList = q at *
 obtain ⟨x, b⟩ := q
 clear hp hpd hc
 cases b with
 | false =>
  have HR' : Hid (Pl.refP s.data.toList = ([], false)) := HR
  clear HR
  go_enter Tryz.func128, Tryz.ntmps128
  go_wp2_with fail
  refine cn.mono ?_
  rintro e w1 ⟨rfl, hw1⟩
  subst hw1
  go_wp2
  go_ret2
  exact ⟨Rt.ret_two HR'.out.symm, Below.refl _ _⟩
 | true =>
  have HR' : Hid (Pl.refP s.data.toList = (Pl.runeL x, true)) := HR
  clear HR
  have cr := Ru.rune x w
  go_enter Tryz.func128, Tryz.ntmps128
  go_wp2_with fail
  refine cn.mono ?_
  rintro e w1 ⟨rfl, hw1⟩
  subst hw1
  go_wp2_with fail
  refine cr.mono ?_
  rintro e w2 ⟨v, rfl, hown, hb⟩
  have hconv := Rn.conv hown
  clear hown cr cn
  go_wp2
  go_ret2
  exact ⟨Rt.ret_two HR'.out.symm, hb⟩
set_option maxRecDepth 100000 in
set_option maxHeartbeats 2000000 in
theorem Rt.refName (s : ByteArray) (w : World) (hh : s.data.toList.head? ≠ some 35) :
  Calls Tryz.prog 128 #[.string s] w fun e w' => e = .returned (.tuple #[.string ⟨(Pl.refP s.data.toList).1.toArray⟩, .bool (Pl.refP s.data.toList).2]) ∧ Below w.heap.size w w' := by
 have HR : Hid (Pl.refP s.data.toList = (Pl.nameS s.data.toList, !(Pl.nameS s.data.toList).isEmpty)) := Rt.refP_name _ hh
 have cn := Rt.named s w
 generalize Pl.nameS s.data.toList = g at *
 have hT : (⟨g.toArray⟩ : ByteArray).toList = g := by rw [Lib.toList_data]
 by_cases h0 : s.size = 0
 ·
  have hs := Rt.empty s h0
  have hs' : s.toList.isEmpty = true := by rw [hs]; rfl
  clear hh h0
  go_enter Tryz.func128, Tryz.ntmps128
  go_wp2_with fail
  refine cn.mono ?_
  rintro e w1 ⟨rfl, hw1⟩
  subst hw1
  go_wp2
  go_ret2
  refine ⟨Eq.trans ?_ (Rt.ret_two HR.out.symm), Below.refl _ _⟩
  simp
 ·
  have hpos : 0 < s.size := by omega
  have hs := Rt.nonempty s hpos
  have hs' : s.toList.isEmpty = false := by rw [List.isEmpty_eq_false_iff]; exact hs
  have hd := Rd.drop_cons s 0 hpos
  rw [List.drop_zero] at hd
  rw [hd] at hh
  have hc : s[0] ≠ 35 := fun e => hh (by rw [e]; rfl)
  have hb : ((s[0].toNat : Int) == 35) = false := Re.beq_false s[0] 35 35 rfl hc
  clear hh h0 hd hc
  go_enter Tryz.func128, Tryz.ntmps128
  go_wp2_with fail
  refine cn.mono ?_
  rintro e w1 ⟨rfl, hw1⟩
  subst hw1
  go_wp2
  go_ret2
  refine ⟨Eq.trans ?_ (Rt.ret_two HR.out.symm), Below.refl _ _⟩
  simp
theorem Rt.reference (s : ByteArray) (w : World) :
  Calls Tryz.prog 128 #[.string s] w fun e w' => e = .returned (.tuple #[.string ⟨(Pl.refP s.data.toList).1.toArray⟩, .bool (Pl.refP s.data.toList).2]) ∧ Below w.heap.size w w' := by
 by_cases hh : s.data.toList.head? = some 35
 ·
  have h : 0 < s.size := by
   rw [← Wk.len_data]
   cases hl : s.data.toList with
   | nil => rw [hl] at hh; cases hh
   | cons c r => simp
  have hd := Rd.drop_cons s 0 h
  rw [List.drop_zero] at hd
  rw [hd] at hh
  exact Rt.refNum s w h (by simpa using hh)
 ·
  exact Rt.refName s w hh
end Go.Proofs.YtblpkjlodncpeaaGreatDoor

/-
  THE WALK of page.appendLine.
-/
import Derived.Test.YtblpkjlodncpeaaGreatDoorBPlaintoKPlain
import Derived.Test.YtblpkjlodncpeaaGreatDoorBUNdtoUMay
import Derived.Test.YtblpkjlodncpeaaGreatDoorBTSimtoShelf8
import Derived.Lib.BufferKept
import Derived.Lib.OwnKind
namespace Go.Proofs.YtblpkjlodncpeaaGreatDoor
open Go.RowKit
theorem Pl.infoB : (Tryz.prog.info? 5).map (fun i => (i.zero, i.size, i.bytes)) = some (some (.int .u8 0), 1, 1) := by kernel_rfl
theorem Pl.cells_append (a b : List UInt8) : Lib.byteCells (a ++ b) = Lib.byteCells a ++ Lib.byteCells b := by simp [Lib.byteCells]
theorem Pl.str (s : ByteArray) : Lib.strCells s = Lib.byteCells s.data.toList ∧ s.data.toList.length = s.size := ⟨rfl, by rw [Array.length_toList]; rfl⟩
theorem Pl.one_byte (W : World) (c : Int) (g1 : Nat) (h : g1 = W.heap.size) : ∀ j u, [Value.int .u8 c][j]? = some u → (W.alloc (.cells #[.int .u8 c] 5)).cell? ⟨g1, j, none⟩ = some u := by
 subst h
 intro j u hj
 unfold World.cell?
 rw [show (W.alloc (.cells #[.int .u8 c] 5)).heap[W.heap.size]? = some _ from heap_alloc_new W _]
 simpa using hj
def Pl.mid (x : Nd) : List UInt8 := if x.kind = 3 then [32, 99, 32] ++ x.text.data.toList else [32, 101, 32] ++ x.name.data.toList
def Pl.ats (al : List (ByteArray × ByteArray)) : List UInt8 := al.flatMap fun a => 32 :: a.1.data.toList
theorem Pl.line (q : Nat) (x : Nd) : Sk.line q x = Lib.decDigits q ++ (Pl.mid x ++ (Pl.ats x.attrs ++ [10])) := rfl
theorem Pl.ats_take (al : List (ByteArray × ByteArray)) (j : Nat) (y : ByteArray × ByteArray) (hj : al[j]? = some y) : Pl.ats (al.take (j + 1)) = Pl.ats (al.take j) ++ (32 :: y.1.data.toList) := by
 have hl := (List.getElem?_eq_some_iff.1 hj).1
 have hx : al[j] = y := (List.getElem?_eq_some_iff.1 hj).2
 unfold Pl.ats
 rw [List.take_succ_eq_append_getElem hl, List.flatMap_append, hx]
 simp
theorem Pl.ats_le (al : List (ByteArray × ByteArray)) (j : Nat) : (Pl.ats (al.take j)).length ≤ (Pl.ats al).length := by
 have : Pl.ats al = Pl.ats (al.take j) ++ Pl.ats (al.drop j) := by
  unfold Pl.ats
  rw [← List.flatMap_append, List.take_append_drop]
 rw [this, List.length_append]
 omega
structure Pl.At (B : Nat) (W u : World) (v : Value) (out : List UInt8) : Prop where
 own : u.ownsRow B 5 1 v out.length (Lib.byteCells out)
 bel : Below B W u
 ok : Lib.OthersKept 5 none W u
theorem Pl.At.cell {B : Nat} {W u : World} {v : Value} {out : List UInt8} (h : Pl.At B W u v out) {g : Nat} {cs : Array Value} {t : TypeId} (hg : W.heap[g]? = some (.cells cs t (0, 0))) (ht : t ≠ 5) : u.heap[g]? = some (.cells cs t (0, 0)) :=
 h.ok g _ hg (fun e => by cases e) (fun c fz e => by injection e with _ e2; exact ht e2)
theorem Pl.At.on {B : Nat} {W u u' : World} {v : Value} {out : List UInt8} (h : Pl.At B W u v out) (hb : Below u.heap.size u u') (hB : B ≤ u.heap.size) : Pl.At B W u' v out :=
 ⟨Rm.own_on h.own fun k hk => hb.block k (h.own.lt k hk).2, h.bel.trans (hb.mono hB), h.ok.below hb⟩
theorem Pl.At.more {B : Nat} {W u u' : World} {v v' : Value} {out : List UInt8} {n : Nat} {xs : List Value} (h : Pl.At B W u v out) (hB : B ≤ u.heap.size) (hg : u.grownBy u' v.ownBlock) (more : List UInt8) (hn : n = out.length + more.length) (hx : xs = Lib.byteCells out ++ Lib.byteCells more) (R : u'.ownsRow B 5 1 v' n xs) : Pl.At B W u' v' (out ++ more) := by
 subst hn
 subst hx
 exact ⟨by rw [Pl.cells_append, List.length_append]; exact R, h.bel.grown hg hB (fun k hk => (h.own.lt k hk).1), h.ok.grown hg (Lib.ownsRow_kind h.own)⟩
theorem Pl.five {w : World} {x : Nd} {av : Value} {g : Nat} (h : w.heap[g]? = some (.cells #[.int .i64 x.kind, .string x.name, .string x.text, av, .int .i64 x.parent] 48 (0, 0))) : ∀ j u, (Nd.five x av)[j]? = some u → w.cell? ⟨g, j, none⟩ = some u := by
 intro j u hj
 unfold World.cell?
 rw [h]
 simpa [Nd.five] using hj
theorem Pl.two {w : World} {y : ByteArray × ByteArray} {g : Nat} (h : w.heap[g]? = some (.cells #[.string y.1, .string y.2] 50 (0, 0))) : w.cell? ⟨g, 0, none⟩ = some (.string y.1) := by
 unfold World.cell?
 rw [h]
 rfl
set_option maxRecDepth 100000 in
set_option maxHeartbeats 8000000 in
theorem Pq.appendLine (out : List UInt8) (lv : Value) (q : Nat) (x : Nd) (aa : Option Addr) (ad : Nat) (w0 w : World) (hB : Below w0.heap.size w0 w) (ho : w.ownsRow w0.heap.size 5 1 lv out.length (Lib.byteCells out)) (hat : Ak.Lies w (· < w0.heap.size) x.attrs (.slice aa x.attrs.length ad)) (hq : q ≤ 9223372036854775807) (hz : (out ++ Sk.line q x).length + 32 ≤ 140737488355328)
  (htab : Lib.TabIs Tryz.prog w0 "internal/strconv.uint64pow10" .u64 Lib.pow10Tab) :
  Calls Tryz.prog 25 #[lv, .int .i64 (q : Int), .agg #[.int .i64 x.kind, .string x.name, .string x.text, .slice aa x.attrs.length ad, .int .i64 x.parent]] w fun e w' => ∃ v', e = .returned v' ∧ Pl.At w0.heap.size w w' v' (out ++ Sk.line q x) := by
 have hal : x.attrs.length ≤ 9223372036854775807 := by
  obtain ⟨a', d', e, h1, h2, _⟩ := hat
  injection e with e1 e2 e3
  unfold maxLen at h2
  omega
 have hBw := hB.size
 obtain ⟨W, hW⟩ : ∃ W, w.alloc (.cells #[.int .i64 x.kind, .string x.name, .string x.text, .slice aa x.attrs.length ad, .int .i64 x.parent] 48) = W := ⟨_, rfl⟩
 have hbW : Below w.heap.size w W := by rw [← hW]; exact (Below.refl _ _).alloc (Nat.le_refl _) _
 have BX : W.heap[w.heap.size]? = some (.cells #[.int .i64 x.kind, .string x.name, .string x.text, .slice aa x.attrs.length ad, .int .i64 x.parent] 48 (0, 0)) := by rw [← hW]; exact heap_alloc_new w _
 have hBW : w0.heap.size ≤ W.heap.size := Nat.le_trans hBw hbW.size
 have HWW : Hid (∀ u v', Pl.At w0.heap.size W u v' (out ++ Sk.line q x) → Pl.At w0.heap.size w u v' (out ++ Sk.line q x)) := fun u v' h => ⟨h.own, (hbW.mono hBw).trans h.bel, ((Lib.OthersKept.refl _ _ w).below hbW).trans h.ok⟩
 have hoW : W.ownsRow w0.heap.size 5 1 lv out.length (Lib.byteCells out) := Rm.own_on ho fun k hk => hbW.block k (ho.lt k hk).2
 have HATT : Hid (Ak.Lies W (· < w0.heap.size) x.attrs (.slice aa x.attrs.length ad)) := hat.on fun k hk => ⟨hk, hbW.block k (by omega)⟩
 have hl2 : (Sk.line q x).length = (Lib.decDigits q).length + ((Pl.mid x).length + ((Pl.ats x.attrs).length + 1)) := by
  rw [Pl.line, List.length_append, List.length_append, List.length_append]
  rfl
 have HLEN : Hid (out.length + ((Lib.decDigits q).length + ((Pl.mid x).length + ((Pl.ats x.attrs).length + 1))) ≤ 140737488355328) := by
  unfold Hid
  rw [List.length_append] at hz
  omega
 have ai := Sh.strconv_AppendInt_10 w0.heap.size out.length (q : Int) (by omega) (by omega) lv (Lib.byteCells out) W hoW hBW (by rw [List.length_append] at hz; omega) (fun u hu => Lib.tabBelow_of_tabIs htab u ((hB.trans (hbW.mono hBw)).trans hu))
 rw [Lib.itoa_nonneg] at ai
 have b0 := Pl.five BX
 have k0 := b0 0 _ rfl
 obtain ⟨la, ld, rfl⟩ := Um.form ho
 clear ho hoW hat hz htab b0 hB hbW hl2 hBw
 go_enter Tryz.func25, Tryz.ntmps25
 go_upto_region 1 with fail
 try rw [hW]
 clear hW
 generalize w.heap.size = g at *
 go_upto_region 2 with (go_at_call 48; refine ai.mono ?_; rintro e w2 ⟨v2, rfl, R2, b2, ok2⟩; clear ai)
 have hA2 : Pl.At w0.heap.size W w2 v2 (out ++ Lib.decDigits q) := ⟨by rw [Pl.cells_append, List.length_append]; exact R2, b2, ok2⟩
 obtain ⟨a2, d2, rfl⟩ := Um.form hA2.own
 have b5 := Pl.five (hA2.cell BX (by decide))
 have k0 := b5 0 _ rfl
 have k1 := b5 1 _ rfl
 have k2 := b5 2 _ rfl
 have hBw2 : w0.heap.size ≤ w2.heap.size := Nat.le_trans hBW hA2.bel.size
 have HA2 := Lib.hid hA2
 clear hA2 R2 b2 ok2 b5
 by_cases hk3 : x.kind = 3
 ·
  have t3 : (x.kind == 3) = true := by rw [hk3]; rfl
  have HMID : Hid (Pl.mid x = [32, 99, 32] ++ x.text.data.toList) := by unfold Hid Pl.mid; rw [if_pos hk3]
  have HLM : Hid ((out ++ Lib.decDigits q).length + (3 + x.text.size) + ((Pl.ats x.attrs).length + 1) ≤ 140737488355328) := by
   have h1 := HLEN.out
   rw [HMID.out, List.length_append] at h1
   have h2 : x.text.data.toList.length = x.text.size := (Pl.str x.text).2
   simp only [List.length_cons, List.length_nil] at h1
   unfold Hid
   rw [List.length_append]
   omega
  generalize HO2E : out ++ Lib.decDigits q = O2 at *
  have HE1 : Hid (O2.length + (⟨#[32, 99, 32]⟩ : ByteArray).size ≤ maxLen ∧ O2.length + (⟨#[32, 99, 32]⟩ : ByteArray).size ≤ 140737488355328) := by
   have h1 := HLM.out
   have h2 : (⟨#[32, 99, 32]⟩ : ByteArray).size = 3 := rfl
   unfold Hid maxLen
   omega
  have HE2 : Hid (∀ O : List UInt8, O = O2 ++ [32, 99, 32] → O.length + x.text.size ≤ maxLen ∧ O.length + x.text.size ≤ 140737488355328) := by
   intro O hO
   have h1 := HLM.out
   unfold maxLen
   rw [hO, List.length_append]
   show _ + 3 + _ ≤ _ ∧ _ + 3 + _ ≤ _
   omega
  clear hk3
  go_upto_region 3 with fail
  go_region_law (first | (refine Sc.step_str rfl (.tmp 15) (.const (.string ⟨#[32, 99, 32]⟩)) rfl (.slice a2 O2.length d2) (by rfl) HA2.out.own ⟨#[32, 99, 32]⟩ (by rfl) HE1.out.1 HE1.out.2 hBw2 ?_; intro v3 w3 R3 hg3 hf3; obtain ⟨O3, hO3⟩ : ∃ O, O = O2 ++ [32, 99, 32] := ⟨_, rfl⟩; have hA3 : Pl.At w0.heap.size W w3 v3 (O2 ++ [32, 99, 32]) := HA2.out.more hBw2 (Sc.grown_drew hg3) [32, 99, 32] rfl rfl R3; rw [← hO3] at hA3; obtain ⟨a3, d3, rfl⟩ := Um.form hA3.own; have hB3 := Pl.five (hA3.cell BX (by decide)); have z := hB3 2 _ rfl; have hBw3 := hA3.bel.size; have hBw3 := Nat.le_trans hBW hBw3; have HA3 := Lib.hid hA3; have HF := Lib.hid (HE2.out O3 hO3); have HO3E := Lib.hid hO3; clear hA3 hB3 R3 hg3 hf3 hO3) | (refine Sc.step_str rfl (.tmp 16) (.tmp 18) rfl (.slice a3 O3.length d3) (by rfl) HA3.out.own x.text (by rfl) HF.out.1 HF.out.2 hBw3 ?_; intro v4 w4 R4 hg4 hf4; obtain ⟨O4, hO4⟩ : ∃ O, O = O3 ++ x.text.data.toList := ⟨_, rfl⟩; have hA4 : Pl.At w0.heap.size W w4 v4 (O3 ++ x.text.data.toList) := HA3.out.more hBw3 hg4 x.text.data.toList (by rw [(Pl.str x.text).2]) rfl R4; rw [← hO4] at hA4; obtain ⟨a4, d4, rfl⟩ := Um.form hA4.own; have HA4 := Lib.hid hA4; have HO4E := Lib.hid hO4; clear hA4 R4 hg4 hf4 hO4))
  all_goals
   have b4 := Pl.five (HA4.out.cell BX (by decide))
   have b3 := b4 3 _ rfl
   have HOUT : Hid (O4 = out ++ Lib.decDigits q ++ Pl.mid x) := by unfold Hid; rw [HO4E.out, HO3E.out, HMID.out, HO2E, List.append_assoc O2]
   have HAT := HA4
   have HOL : Hid (O4.length + ((Pl.ats x.attrs).length + 1) ≤ 140737488355328) := by
    have h1 := HLEN.out
    unfold Hid
    rw [HOUT.out, List.length_append, List.length_append]
    omega
   have HFIN : Hid (O4 ++ Pl.ats x.attrs ++ [10] = out ++ Sk.line q x) := by
    unfold Hid
    rw [HOUT.out, Pl.line]
    simp only [List.append_assoc]
   clear HA4 HA3 HA2 b4 z k0 k1 k2 HE1 HE2 HMID HLM t3 HOUT HLEN HO4E HO3E HO2E HF
   generalize O4 = OUT at *
   go_wp2_with fail
   clear b3
   go_loopw [0, 28] (fun ov jx wz => ∃ j : Nat, j ≤ x.attrs.length ∧ jx = .int .i64 (j : Int) ∧ Hid (Pl.At w0.heap.size W wz ov (OUT ++ Pl.ats (x.attrs.take j)))) (fun _ jx _ => x.attrs.length - (intOf jx).toNat)
   case atStart => exact ⟨0, Nat.zero_le _, rfl, by unfold Hid; rw [List.take_zero]; show Pl.At _ _ _ _ (OUT ++ []); rw [List.append_nil]; exact HAT.out⟩
   case round =>
    clear HAT
    obtain ⟨j, hj, rfl, HA⟩ := hrel
    obtain ⟨PJ, hPJ⟩ : ∃ P, P = OUT ++ Pl.ats (x.attrs.take j) := ⟨_, rfl⟩
    rw [← hPJ] at HA
    have HPJ := Lib.hid hPJ
    clear hPJ
    obtain ⟨oa, od, rfl⟩ := Um.form HA.out.own
    have hwz : w0.heap.size ≤ wr.heap.size := Nat.le_trans hBW HA.out.bel.size
    by_cases hjl : j < x.attrs.length
    ·
     have e1 : decide ((j : Int) < (x.attrs.length : Int)) = true := decide_eq_true (by omega)
     obtain ⟨y, hy⟩ : ∃ y, x.attrs[j]? = some y := ⟨_, List.getElem?_eq_getElem hjl⟩
     have HTK := Lib.hid (Pl.ats_take x.attrs j y hy)
     have HLE : Hid (PJ.length + (1 + y.1.size) ≤ 140737488355328) := by
      have h1 := Pl.ats_le x.attrs (j + 1)
      rw [HTK.out, List.length_append, List.length_cons] at h1
      have h2 : y.1.data.toList.length = y.1.size := (Pl.str y.1).2
      have h3 := HOL.out
      unfold Hid
      rw [HPJ.out, List.length_append]
      omega
     have HN1 : Hid (PJ.length + 1 ≤ maxLen ∧ (PJ.length + 1) * 1 ≤ 140737488355328) := ⟨by have := HLE.out; unfold maxLen; omega, by have := HLE.out; omega⟩
     have HE7 : Hid (∀ O : List UInt8, O = PJ ++ [32] → O.length + y.1.size ≤ maxLen ∧ O.length + y.1.size ≤ 140737488355328) := by
      intro O hO
      have h1 := HLE.out
      unfold maxLen
      rw [hO, List.length_append]
      show _ + 1 + _ ≤ _ ∧ _ + 1 + _ ≤ _
      omega
     have hV : Ak.Lies wr (· < w0.heap.size) x.attrs (.slice aa x.attrs.length ad) := HATT.out.on fun k hk => ⟨hk, HA.out.bel.block k hk⟩
     obtain ⟨a8, d8, e8, h81, h82, hx8⟩ := hV
     injection e8 with e81 e82 e83
     subst e81
     subst e83
     obtain ⟨b8, o8, rfl, hb8, n8, m8⟩ := hx8 j y hy
     have hjd : j < ad := by omega
     have hbl : b8 < wr.heap.size := World.block_lt_of_cell? _ _ n8
     have g1 : wr.heap.size ≠ b8 := by omega
     have g2 : b8 ≠ wr.heap.size := by omega
     clear hx8 e82 hy h81 h82
     go_upto_region 8 with fail
     obtain ⟨Z, hZ⟩ : ∃ Z, wr.alloc (.cells #[.string y.1, .string y.2] 50) = Z := ⟨_, rfl⟩
     have hbZ : Below wr.heap.size wr Z := by rw [← hZ]; exact (Below.refl _ _).alloc (Nat.le_refl _) _
     have hzb : Z.heap[wr.heap.size]? = some (.cells #[.string y.1, .string y.2] 50 (0, 0)) := by rw [← hZ]; exact heap_alloc_new wr _
     rw [hZ]
     have HAZ := Lib.hid (HA.out.on hbZ hwz)
     have hBZ : w0.heap.size ≤ Z.heap.size := Nat.le_trans hwz hbZ.size
     have zc := Pl.two hzb
     have hgz : wr.heap.size < Z.heap.size := by rw [← hZ]; simp
     clear hZ hbZ HA n8 m8 g1 g2 hbl hwz
     generalize wr.heap.size = g8 at *
     have HZA : Hid (∀ o, Pl.At w0.heap.size W (Z.drew.alloc o) (.slice oa PJ.length od) PJ) := fun o => HAZ.out.on ((Below.refl Z.heap.size Z).drew.alloc (Nat.le_refl _) o) hBZ
     have zd : Z.drew.heap[g8]? = some (.cells #[.string y.1, .string y.2] 50 (0, 0)) := hzb
     go_region_law (first | (refine Ro.step_push rfl (.tmp 32) (.tmp 33) 43 5 1 1 _ rfl Tryz.underlying43 Pl.infoB rfl (by decide) (.slice oa PJ.length od) (by rfl) (HZA.out _).own Z.heap.size [.int .u8 32] (by rfl) (Pl.one_byte Z.drew _ _ rfl) rfl (by simp [Value.oneCell']) HN1.out.1 HN1.out.2 (by first | omega | (simp; omega)) ?_; intro v7 w7 R7 hg7 hf7; obtain ⟨O7, hO7⟩ : ∃ O, O = PJ ++ [32] := ⟨_, rfl⟩; have hA7 : Pl.At w0.heap.size W w7 v7 (PJ ++ [32]) := (HZA.out _).more (by first | omega | (simp; omega)) hg7 [32] rfl rfl R7; rw [← hO7] at hA7; obtain ⟨a7, d7, rfl⟩ := Um.form hA7.own; have q7 : Lib.OthersKept 5 none Z.drew w7 := ((Lib.OthersKept.refl _ _ _).alloc _).grown hg7 (Lib.ownsRow_kind (HZA.out _).own); have y7 := Pl.two (q7 g8 _ zd (fun e => by cases e) (fun c fz e => by injection e with _ e2; exact absurd e2 (by decide))); have hB7 : w0.heap.size ≤ w7.heap.size := Nat.le_trans hBW hA7.bel.size; have HA7 := Lib.hid hA7; have HF7 := Lib.hid (HE7.out O7 hO7); have HO7E := Lib.hid hO7; clear hA7 q7 R7 hg7 hf7 hO7) | (refine Sc.step_str rfl (.tmp 34) (.tmp 36) rfl (.slice a7 O7.length d7) (by rfl) HA7.out.own y.1 (by rfl) HF7.out.1 HF7.out.2 hB7 ?_; intro v9 w9 R9 hg9 hf9; have hA9 : Pl.At w0.heap.size W w9 v9 (O7 ++ y.1.data.toList) := HA7.out.more hB7 hg9 y.1.data.toList (by rw [(Pl.str y.1).2]) rfl R9; have HA9 := Lib.hid hA9; clear hA9 R9 hg9 hf9))
     all_goals
      go_wp2
      go_roundw
      case rel => exact ⟨j + 1, by omega, by go_num, by unfold Hid; rw [HTK.out]; have := HA9.out; rw [HO7E.out, HPJ.out, List.append_assoc, List.append_assoc] at this; exact this⟩
      case measure => simp [intOf]; omega
    ·
     have e : j = x.attrs.length := by omega
     subst e
     have e1 : decide ((x.attrs.length : Int) < (x.attrs.length : Int)) = false := decide_eq_false (by omega)
     have HN1 : Hid (PJ.length + 1 ≤ maxLen ∧ (PJ.length + 1) * 1 ≤ 140737488355328) := by
      have h1 := HOL.out
      unfold Hid
      rw [HPJ.out, List.take_length, List.length_append]
      exact ⟨by unfold maxLen; omega, by omega⟩
     have HBA : Hid (∀ o, Pl.At w0.heap.size W (wr.alloc o) (.slice oa PJ.length od) PJ) := fun o => HA.out.on ((Below.refl wr.heap.size wr).alloc (Nat.le_refl _) o) hwz
     clear HA
     go_wp2_with (at_builtin; refine Ro.push rfl _ _ 43 5 1 1 _ rfl Tryz.underlying43 Pl.infoB rfl (by decide) _ rfl (HBA.out _).own wr.heap.size [.int .u8 10] rfl (Pl.one_byte _ _ _ rfl) rfl (by simp [Value.oneCell']) HN1.out.1 HN1.out.2 (by simp; omega) ?_; intro v7 w7 R7 hg7 hf7; obtain ⟨O9, hO9⟩ : ∃ O, O = PJ ++ [10] := ⟨_, rfl⟩; have hA7 : Pl.At w0.heap.size W w7 v7 (PJ ++ [10]) := (HBA.out _).more (by simp; omega) hg7 [10] rfl rfl R7; rw [← hO9] at hA7; have HO9E := Lib.hid hO9; clear hO9; obtain ⟨a7, d7, rfl⟩ := Um.form hA7.own; have HA7 := Lib.hid hA7; clear hA7 R7 hg7 hf7)
     go_ret
     have hE : O9 = out ++ Sk.line q x := by rw [HO9E.out, HPJ.out, List.take_length, HFIN.out]
     exact ⟨_, rfl, HWW.out _ _ (by rw [← hE]; exact HA7.out)⟩
 ·
  have t3 : (x.kind == 3) = false := beq_eq_false_iff_ne.2 hk3
  have HMID : Hid (Pl.mid x = [32, 101, 32] ++ x.name.data.toList) := by unfold Hid Pl.mid; rw [if_neg hk3]
  have HLM : Hid ((out ++ Lib.decDigits q).length + (3 + x.name.size) + ((Pl.ats x.attrs).length + 1) ≤ 140737488355328) := by
   have h1 := HLEN.out
   rw [HMID.out, List.length_append] at h1
   have h2 : x.name.data.toList.length = x.name.size := (Pl.str x.name).2
   simp only [List.length_cons, List.length_nil] at h1
   unfold Hid
   rw [List.length_append]
   omega
  generalize HO2E : out ++ Lib.decDigits q = O2 at *
  have HE1 : Hid (O2.length + (⟨#[32, 101, 32]⟩ : ByteArray).size ≤ maxLen ∧ O2.length + (⟨#[32, 101, 32]⟩ : ByteArray).size ≤ 140737488355328) := by
   have h1 := HLM.out
   have h2 : (⟨#[32, 101, 32]⟩ : ByteArray).size = 3 := rfl
   unfold Hid maxLen
   omega
  have HE2 : Hid (∀ O : List UInt8, O = O2 ++ [32, 101, 32] → O.length + x.name.size ≤ maxLen ∧ O.length + x.name.size ≤ 140737488355328) := by
   intro O hO
   have h1 := HLM.out
   unfold maxLen
   rw [hO, List.length_append]
   show _ + 3 + _ ≤ _ ∧ _ + 3 + _ ≤ _
   omega
  clear hk3
  go_upto_region 4 with fail
  go_region_law (first | (refine Sc.step_str rfl (.tmp 20) (.const (.string ⟨#[32, 101, 32]⟩)) rfl (.slice a2 O2.length d2) (by rfl) HA2.out.own ⟨#[32, 101, 32]⟩ (by rfl) HE1.out.1 HE1.out.2 hBw2 ?_; intro v3 w3 R3 hg3 hf3; obtain ⟨O3, hO3⟩ : ∃ O, O = O2 ++ [32, 101, 32] := ⟨_, rfl⟩; have hA3 : Pl.At w0.heap.size W w3 v3 (O2 ++ [32, 101, 32]) := HA2.out.more hBw2 (Sc.grown_drew hg3) [32, 101, 32] rfl rfl R3; rw [← hO3] at hA3; obtain ⟨a3, d3, rfl⟩ := Um.form hA3.own; have hB3 := Pl.five (hA3.cell BX (by decide)); have z := hB3 1 _ rfl; have hBw3 := hA3.bel.size; have hBw3 := Nat.le_trans hBW hBw3; have HA3 := Lib.hid hA3; have HF := Lib.hid (HE2.out O3 hO3); have HO3E := Lib.hid hO3; clear hA3 hB3 R3 hg3 hf3 hO3) | (refine Sc.step_str rfl (.tmp 21) (.tmp 23) rfl (.slice a3 O3.length d3) (by rfl) HA3.out.own x.name (by rfl) HF.out.1 HF.out.2 hBw3 ?_; intro v4 w4 R4 hg4 hf4; obtain ⟨O4, hO4⟩ : ∃ O, O = O3 ++ x.name.data.toList := ⟨_, rfl⟩; have hA4 : Pl.At w0.heap.size W w4 v4 (O3 ++ x.name.data.toList) := HA3.out.more hBw3 hg4 x.name.data.toList (by rw [(Pl.str x.name).2]) rfl R4; rw [← hO4] at hA4; obtain ⟨a4, d4, rfl⟩ := Um.form hA4.own; have HA4 := Lib.hid hA4; have HO4E := Lib.hid hO4; clear hA4 R4 hg4 hf4 hO4))
  all_goals
   have b4 := Pl.five (HA4.out.cell BX (by decide))
   have b3 := b4 3 _ rfl
   have HOUT : Hid (O4 = out ++ Lib.decDigits q ++ Pl.mid x) := by unfold Hid; rw [HO4E.out, HO3E.out, HMID.out, HO2E, List.append_assoc O2]
   have HAT := HA4
   have HOL : Hid (O4.length + ((Pl.ats x.attrs).length + 1) ≤ 140737488355328) := by
    have h1 := HLEN.out
    unfold Hid
    rw [HOUT.out, List.length_append, List.length_append]
    omega
   have HFIN : Hid (O4 ++ Pl.ats x.attrs ++ [10] = out ++ Sk.line q x) := by
    unfold Hid
    rw [HOUT.out, Pl.line]
    simp only [List.append_assoc]
   clear HA4 HA3 HA2 b4 z k0 k1 k2 HE1 HE2 HMID HLM t3 HOUT HLEN HO4E HO3E HO2E HF
   generalize O4 = OUT at *
   go_wp2_with fail
   clear b3
   go_loopw [0, 28] (fun ov jx wz => ∃ j : Nat, j ≤ x.attrs.length ∧ jx = .int .i64 (j : Int) ∧ Hid (Pl.At w0.heap.size W wz ov (OUT ++ Pl.ats (x.attrs.take j)))) (fun _ jx _ => x.attrs.length - (intOf jx).toNat)
   case atStart => exact ⟨0, Nat.zero_le _, rfl, by unfold Hid; rw [List.take_zero]; show Pl.At _ _ _ _ (OUT ++ []); rw [List.append_nil]; exact HAT.out⟩
   case round =>
    clear HAT
    obtain ⟨j, hj, rfl, HA⟩ := hrel
    obtain ⟨PJ, hPJ⟩ : ∃ P, P = OUT ++ Pl.ats (x.attrs.take j) := ⟨_, rfl⟩
    rw [← hPJ] at HA
    have HPJ := Lib.hid hPJ
    clear hPJ
    obtain ⟨oa, od, rfl⟩ := Um.form HA.out.own
    have hwz : w0.heap.size ≤ wr.heap.size := Nat.le_trans hBW HA.out.bel.size
    by_cases hjl : j < x.attrs.length
    ·
     have e1 : decide ((j : Int) < (x.attrs.length : Int)) = true := decide_eq_true (by omega)
     obtain ⟨y, hy⟩ : ∃ y, x.attrs[j]? = some y := ⟨_, List.getElem?_eq_getElem hjl⟩
     have HTK := Lib.hid (Pl.ats_take x.attrs j y hy)
     have HLE : Hid (PJ.length + (1 + y.1.size) ≤ 140737488355328) := by
      have h1 := Pl.ats_le x.attrs (j + 1)
      rw [HTK.out, List.length_append, List.length_cons] at h1
      have h2 : y.1.data.toList.length = y.1.size := (Pl.str y.1).2
      have h3 := HOL.out
      unfold Hid
      rw [HPJ.out, List.length_append]
      omega
     have HN1 : Hid (PJ.length + 1 ≤ maxLen ∧ (PJ.length + 1) * 1 ≤ 140737488355328) := ⟨by have := HLE.out; unfold maxLen; omega, by have := HLE.out; omega⟩
     have HE7 : Hid (∀ O : List UInt8, O = PJ ++ [32] → O.length + y.1.size ≤ maxLen ∧ O.length + y.1.size ≤ 140737488355328) := by
      intro O hO
      have h1 := HLE.out
      unfold maxLen
      rw [hO, List.length_append]
      show _ + 1 + _ ≤ _ ∧ _ + 1 + _ ≤ _
      omega
     have hV : Ak.Lies wr (· < w0.heap.size) x.attrs (.slice aa x.attrs.length ad) := HATT.out.on fun k hk => ⟨hk, HA.out.bel.block k hk⟩
     obtain ⟨a8, d8, e8, h81, h82, hx8⟩ := hV
     injection e8 with e81 e82 e83
     subst e81
     subst e83
     obtain ⟨b8, o8, rfl, hb8, n8, m8⟩ := hx8 j y hy
     have hjd : j < ad := by omega
     have hbl : b8 < wr.heap.size := World.block_lt_of_cell? _ _ n8
     have g1 : wr.heap.size ≠ b8 := by omega
     have g2 : b8 ≠ wr.heap.size := by omega
     clear hx8 e82 hy h81 h82
     go_upto_region 8 with fail
     obtain ⟨Z, hZ⟩ : ∃ Z, wr.alloc (.cells #[.string y.1, .string y.2] 50) = Z := ⟨_, rfl⟩
     have hbZ : Below wr.heap.size wr Z := by rw [← hZ]; exact (Below.refl _ _).alloc (Nat.le_refl _) _
     have hzb : Z.heap[wr.heap.size]? = some (.cells #[.string y.1, .string y.2] 50 (0, 0)) := by rw [← hZ]; exact heap_alloc_new wr _
     rw [hZ]
     have HAZ := Lib.hid (HA.out.on hbZ hwz)
     have hBZ : w0.heap.size ≤ Z.heap.size := Nat.le_trans hwz hbZ.size
     have zc := Pl.two hzb
     have hgz : wr.heap.size < Z.heap.size := by rw [← hZ]; simp
     clear hZ hbZ HA n8 m8 g1 g2 hbl hwz
     generalize wr.heap.size = g8 at *
     have HZA : Hid (∀ o, Pl.At w0.heap.size W (Z.drew.alloc o) (.slice oa PJ.length od) PJ) := fun o => HAZ.out.on ((Below.refl Z.heap.size Z).drew.alloc (Nat.le_refl _) o) hBZ
     have zd : Z.drew.heap[g8]? = some (.cells #[.string y.1, .string y.2] 50 (0, 0)) := hzb
     go_region_law (first | (refine Ro.step_push rfl (.tmp 32) (.tmp 33) 43 5 1 1 _ rfl Tryz.underlying43 Pl.infoB rfl (by decide) (.slice oa PJ.length od) (by rfl) (HZA.out _).own Z.heap.size [.int .u8 32] (by rfl) (Pl.one_byte Z.drew _ _ rfl) rfl (by simp [Value.oneCell']) HN1.out.1 HN1.out.2 (by first | omega | (simp; omega)) ?_; intro v7 w7 R7 hg7 hf7; obtain ⟨O7, hO7⟩ : ∃ O, O = PJ ++ [32] := ⟨_, rfl⟩; have hA7 : Pl.At w0.heap.size W w7 v7 (PJ ++ [32]) := (HZA.out _).more (by first | omega | (simp; omega)) hg7 [32] rfl rfl R7; rw [← hO7] at hA7; obtain ⟨a7, d7, rfl⟩ := Um.form hA7.own; have q7 : Lib.OthersKept 5 none Z.drew w7 := ((Lib.OthersKept.refl _ _ _).alloc _).grown hg7 (Lib.ownsRow_kind (HZA.out _).own); have y7 := Pl.two (q7 g8 _ zd (fun e => by cases e) (fun c fz e => by injection e with _ e2; exact absurd e2 (by decide))); have hB7 : w0.heap.size ≤ w7.heap.size := Nat.le_trans hBW hA7.bel.size; have HA7 := Lib.hid hA7; have HF7 := Lib.hid (HE7.out O7 hO7); have HO7E := Lib.hid hO7; clear hA7 q7 R7 hg7 hf7 hO7) | (refine Sc.step_str rfl (.tmp 34) (.tmp 36) rfl (.slice a7 O7.length d7) (by rfl) HA7.out.own y.1 (by rfl) HF7.out.1 HF7.out.2 hB7 ?_; intro v9 w9 R9 hg9 hf9; have hA9 : Pl.At w0.heap.size W w9 v9 (O7 ++ y.1.data.toList) := HA7.out.more hB7 hg9 y.1.data.toList (by rw [(Pl.str y.1).2]) rfl R9; have HA9 := Lib.hid hA9; clear hA9 R9 hg9 hf9))
     all_goals
      go_wp2
      go_roundw
      case rel => exact ⟨j + 1, by omega, by go_num, by unfold Hid; rw [HTK.out]; have := HA9.out; rw [HO7E.out, HPJ.out, List.append_assoc, List.append_assoc] at this; exact this⟩
      case measure => simp [intOf]; omega
    ·
     have e : j = x.attrs.length := by omega
     subst e
     have e1 : decide ((x.attrs.length : Int) < (x.attrs.length : Int)) = false := decide_eq_false (by omega)
     have HN1 : Hid (PJ.length + 1 ≤ maxLen ∧ (PJ.length + 1) * 1 ≤ 140737488355328) := by
      have h1 := HOL.out
      unfold Hid
      rw [HPJ.out, List.take_length, List.length_append]
      exact ⟨by unfold maxLen; omega, by omega⟩
     have HBA : Hid (∀ o, Pl.At w0.heap.size W (wr.alloc o) (.slice oa PJ.length od) PJ) := fun o => HA.out.on ((Below.refl wr.heap.size wr).alloc (Nat.le_refl _) o) hwz
     clear HA
     go_wp2_with (at_builtin; refine Ro.push rfl _ _ 43 5 1 1 _ rfl Tryz.underlying43 Pl.infoB rfl (by decide) _ rfl (HBA.out _).own wr.heap.size [.int .u8 10] rfl (Pl.one_byte _ _ _ rfl) rfl (by simp [Value.oneCell']) HN1.out.1 HN1.out.2 (by simp; omega) ?_; intro v7 w7 R7 hg7 hf7; obtain ⟨O9, hO9⟩ : ∃ O, O = PJ ++ [10] := ⟨_, rfl⟩; have hA7 : Pl.At w0.heap.size W w7 v7 (PJ ++ [10]) := (HBA.out _).more (by simp; omega) hg7 [10] rfl rfl R7; rw [← hO9] at hA7; have HO9E := Lib.hid hO9; clear hO9; obtain ⟨a7, d7, rfl⟩ := Um.form hA7.own; have HA7 := Lib.hid hA7; clear hA7 R7 hg7 hf7)
     go_ret
     have hE : O9 = out ++ Sk.line q x := by rw [HO9E.out, HPJ.out, List.take_length, HFIN.out]
     exact ⟨_, rfl, HWW.out _ _ (by rw [← hE]; exact HA7.out)⟩
end Go.Proofs.YtblpkjlodncpeaaGreatDoor

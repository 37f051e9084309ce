/-
  THE WALKS of page.Skeleton and page.Texts.
-/
import Derived.Test.YtblpkjlodncpeaaGreatDoorBNSkeltoPSee
import Derived.Test.YtblpkjlodncpeaaGreatDoorBPWalk
import Derived.Test.YtblpkjlodncpeaaGreatDoorBNMaytoWPlain
import Derived.Test.YtblpkjlodncpeaaGreatDoorBTSimtoShelf8
import Derived.Test.YtblpkjlodncpeaaGreatDoorCards
import Derived.Test.YtblpkjlodncpeaaGreatDoorTie
import Derived.WalkKit
import Derived.ProofKit
import Derived.OpenShut
import Derived.ShutString
import Derived.SizedLaws
import Derived.Deep.DeepHandedRow
import Derived.Lib.LaidU8
import Derived.PinnedBridge
import Derived.Lib.TrailingZeros
import Derived.Test.YtblpkjlodncpeaaGreatDoorBPLine
namespace Go.Proofs.YtblpkjlodncpeaaGreatDoor
open Go.RowKit
def Pq.Tab (w : World) : Prop := Lib.TabIs Tryz.prog w "internal/strconv.uint64pow10" .u64 Lib.pow10Tab
theorem Pq.Tab.on {w w' : World} (h : Pq.Tab w) (hb : Below w.heap.size w w') : Pq.Tab w' := Lib.tabBelow_of_tabIs h w' hb
theorem Pk.start (w : World) (ns : List Nd) : Pk.Inv w (w.heap.size + 1 + 1) w.heap.size (w.heap.size + 1) ns 0 (((w.alloc (.cells #[.slice none 0 0] 43)).alloc (.cells #[.slice none 0 0] 52)).alloc (.cells #[.int .i64 0] 3)) := by
 refine ⟨.slice none 0 0, .slice none 0 0, ⟨?_, ⟨by omega, by omega, by omega⟩, ?_, ?_, ?_, ?_, ?_, fun e => by cases e⟩⟩
 ·
  exact (((Below.refl _ _).alloc (Nat.le_refl _) _).alloc (by simp) _).alloc (by simp; omega) _
 ·
  have := heap_alloc_new ((w.alloc (.cells #[.slice none 0 0] 43)).alloc (.cells #[.slice none 0 0] 52)) (.cells #[.int .i64 0] 3)
  rw [Pk.many_zero]
  simpa using this
 ·
  rw [Below.heap_alloc _ _ _ (by simp; omega), Below.heap_alloc _ _ _ (by simp)]
  exact heap_alloc_new w _
 ·
  rw [Below.heap_alloc _ _ _ (by simp)]
  have := heap_alloc_new (w.alloc (.cells #[.slice none 0 0] 43)) (.cells #[.slice none 0 0] 52)
  simpa using this
 ·
  exact World.ownsRow_nil _ _ _ _
 ·
  exact World.ownsRow_nil _ _ _ _
set_option maxRecDepth 100000 in
set_option maxHeartbeats 4000000 in
theorem Pq.skeleton (ns : List Nd) (a : Option Addr) (d : Nat) (w : World) (h : Nd.Lies w (· < w.heap.size) ns (.slice a ns.length d)) (hs : ns.length * 8 ≤ 140737488355328) (hz : (Sk.skel ns).length + 32 ≤ 140737488355328) (htab : Pq.Tab w) :
  Calls Tryz.prog 9 #[.slice a ns.length d] w fun e w' => Below w.heap.size w w' ∧ ((¬ Sk.May ns ∧ e = .returned (.tuple #[.string ⟨#[]⟩, .int .i64 800])) ∨ (Sk.May ns ∧ e = .returned (.tuple #[.string ⟨(Sk.skel ns).toArray⟩, .int .i64 0]))) := by
 have wk := Pq.walkS ns a d (w.heap.size + 1 + 1) w.heap.size (w.heap.size + 1) w _ (Pk.Inv w (w.heap.size + 1 + 1) w.heap.size (w.heap.size + 1) ns) h (Pk.start w ns)
  (fun i u u' ⟨lv, nv, hM⟩ hb => ⟨lv, nv, hM.past hb⟩) (fun i u ⟨lv, nv, hM⟩ => hM.bel)
  (fun i x aa ad u hi hall hat hI => Pk.see ns i x aa ad w _ _ _ u hi hall hat hI hs hz htab)
 clear h hs hz htab
 by_cases hm : Sk.May ns
 ·
  have HM := Lib.hid hm
  clear hm
  go_enter Tryz.func9, Tryz.ntmps9
  go_wp2_with (go_at_call 23; refine wk.mono ?_; rintro e w2 q2; clear wk; have q3 : e = .returned (.bool true) ∧ Pk.Inv w (w.heap.size + 1 + 1) w.heap.size (w.heap.size + 1) ns ns.length w2 := (by rcases q2 with q | q; exact q.2; exact absurd HM.out q.1); obtain ⟨rfl, lv, nv, hM2⟩ := q3; rw [List.take_length] at hM2; have cl := cell_of_one hM2.l; have hcv := Dm.conv hM2.ol; obtain ⟨la, ld, rfl⟩ := Um.form hM2.ol; have HB2 := Lib.hid hM2.bel; clear q2 hM2)
  go_ret2
  exact ⟨HB2.out, .inr ⟨HM.out, rfl⟩⟩
 ·
  have HM := Lib.hid hm
  clear hm
  go_enter Tryz.func9, Tryz.ntmps9
  go_wp2_with (go_at_call 23; refine wk.mono ?_; rintro e w2 q2; clear wk; have q3 : e = .returned (.bool false) ∧ ∃ i, Pk.Inv w (w.heap.size + 1 + 1) w.heap.size (w.heap.size + 1) ns i w2 := (by rcases q2 with q | q; exact absurd q.1 HM.out; exact q.2); obtain ⟨rfl, i, lv, nv, hM2⟩ := q3; have HB2 := Lib.hid hM2.bel; clear q2 hM2)
  go_ret2
  exact ⟨HB2.out, .inl ⟨HM.out, rfl⟩⟩
open Go.ChangeShapes Go.WideShapes Go.ChangeAt Go.RowKit
theorem Fr.own : ownKnob Tryz.prog.godebug = none := by kernel_rfl
theorem Fr.maxLen {W : World} (h : W.ShapedOpen Tryz.prog) : ∃ m, W.cell? ⟨1, 0, none⟩ = some (.int .i64 m) :=
 Go.Proofs.cell_of_shapedOpen_int (zero := #[.int .i64 0]) (t := 3) h (of_decide_eq_true (by kernel_rfl)) (by kernel_rfl) rfl (by kernel_rfl) (by kernel_rfl) Tryz.underlying3
theorem Fr.tab {P : Program} {W : World} {name : String} {k : IntKind} {zs : List Int} {g : Nat} {t e : TypeId} {n : Nat}
  (hg : P.globalNamed name = some g) (hty : (P.globals[g]?).map (·.type) = some t) (ht : P.underlying t = some (.array n e)) (he : P.underlying e = some (.int k)) (hce : P.cellsOf e = 1) (hct : P.cellsOf t = n)
  (h : Lib.VarReads P W name (Lib.tabData k zs)) : Lib.TabIs P W name k zs := by
 obtain ⟨g', t', cs, fuel, p, hg', ht', hvar, hd⟩ := h
 obtain rfl := Option.some.inj (hg.symm.trans hg')
 obtain rfl := Option.some.inj (hty.symm.trans ht')
 unfold Lib.TabIs
 rw [hvar, ← Lib.cells_of_tab ht he hce hct hd]
theorem Fr.e10 : (Rows.laid_internal_strconv_uint64pow10 : DataW Unit) = Lib.tabData .u64 Lib.pow10Tab := by kernel_rfl
theorem Fr.pow {W : World} (h3 : Lib.VarReads Tryz.prog W "internal/strconv.uint64pow10" (Rows.laid_internal_strconv_uint64pow10 : DataW Unit)) : Pq.Tab W := by
 rw [Fr.e10] at h3
 exact Fr.tab (g := 0) (t := 162) (by kernel_rfl) (by kernel_rfl) Tryz.underlying162 Tryz.underlying69 (by kernel_rfl) (by kernel_rfl) h3
def Fr.put (k : IntKind) (cs : List Nat) : Obj → Obj
 | .cells _ t frozen => .cells (cs.map fun z : Nat => Value.int k z).toArray t frozen
 | o => o
def Fr.ranges : List Nat := [128, 191, 160, 191, 128, 159, 144, 191, 128, 143, 0, 0, 0, 0, 0, 0, 0, 0, 0, 0, 0, 0, 0, 0, 0, 0, 0, 0, 0, 0, 0, 0]
def Fr.lay (w : World) : World := { w with heap := ((((w.heap.modify 5 (Fr.put .u8 Lib.deBruijn64tab)).modify 4 (Fr.put .u8 Lib.deBruijn32tab)).modify 0 (Fr.put .u64 ((List.range 20).map fun i => 10 ^ i))).modify 2 (Fr.put .u8 Pinned.utf8FirstZ)).modify 3 (Fr.put .u8 Fr.ranges) }
structure Px.Mem (w : World) (bx : Nat) (ts : List ByteArray) (u : World) (tv : Value) : Prop where
 bel : Below w.heap.size w u
 ge : w.heap.size ≤ bx
 b : u.heap[bx]? = some (.cells #[tv] 32 (0, 0))
 o : u.ownsRow w.heap.size 9 1 tv ts.length (St.cells ts)
theorem Px.Mem.past {w : World} {bx : Nat} {ts : List ByteArray} {u u' : World} {tv : Value} (h : Px.Mem w bx ts u tv) (hb : Below u.heap.size u u') : Px.Mem w bx ts u' tv :=
 ⟨h.bel.trans (hb.mono h.bel.size), h.ge, (hb.block _ (lt_of_block h.b)).trans h.b, Rm.own_on h.o fun k hk => hb.block k (h.o.lt k hk).2⟩
theorem Px.Mem.push {w : World} {bx : Nat} {ts ts' : List ByteArray} {u u' : World} {tv tv' : Value} (h : Px.Mem w bx ts u tv) (hg : u.grownBy u' tv.ownBlock) (R : u'.ownsRow w.heap.size 9 1 tv' ts'.length (St.cells ts')) :
  u'.heap[bx]? = some (.cells #[tv] 32 (0, 0)) ∧ Px.Mem w bx ts' (u'.setCell ⟨bx, 0, none⟩ tv') tv' := by
 have b1 : u'.heap[bx]? = some (.cells #[tv] 32 (0, 0)) := (hg.block bx (lt_of_block h.b) (fun e => Pk.own_ne h.o h.b (by decide) e.symm)).trans h.b
 refine ⟨b1, (h.bel.grown hg h.bel.size (fun k hk => (h.o.lt k hk).1)).setCell h.ge _, h.ge, one_setCell b1, Rm.own_on R fun k hk => Below.heap_setCell _ _ _ _ (fun e => Pk.own_ne R b1 (by decide) (by rw [← show k = bx from e]; exact hk))⟩
def Px.Inv (w : World) (bx : Nat) (ns : List Nd) (i : Nat) (u : World) : Prop := ∃ tv, Px.Mem w bx (Sk.texts (ns.take i)) u tv
set_option maxRecDepth 100000 in
set_option maxHeartbeats 4000000 in
theorem Px.see (ns : List Nd) (i : Nat) (x : Nd) (aa : Option Addr) (ad : Nat) (w0 : World) (bx : Nat) (u : World) (hi : ns[i]? = some x) (hI : Px.Inv w0 bx ns i u) (hs : (ns.length + 1) * 16 ≤ 140737488355328) (hx : x.text.size ≤ 281474976710656) :
  Calls Tryz.prog 27 #[.agg #[.int .i64 x.kind, .string x.name, .string x.text, .slice aa x.attrs.length ad, .int .i64 x.parent], .pointer (some ⟨bx, 0, none⟩)] u fun e u' => e = .returned (.tuple #[]) ∧ Px.Inv w0 bx ns (i + 1) u' := by
 obtain ⟨tv, hM0⟩ := hI
 have hil : i < ns.length := (List.getElem?_eq_some_iff.1 hi).1
 have HT := Lib.hid (Sk.texts_take ns i x hi)
 have HN : Hid ((Sk.texts (ns.take i)).length ≤ ns.length) := Nat.le_trans (Sk.texts_len _) (by rw [List.length_take]; omega)
 obtain ⟨W, hW⟩ : ∃ W, u.alloc (.cells #[.int .i64 x.kind, .string x.name, .string x.text, .slice aa x.attrs.length ad, .int .i64 x.parent] 48) = W := ⟨_, rfl⟩
 have hbW : Below u.heap.size u W := by rw [← hW]; exact (Below.refl _ _).alloc (Nat.le_refl _) _
 have BX : W.heap[u.heap.size]? = some (.cells #[.int .i64 x.kind, .string x.name, .string x.text, .slice aa x.attrs.length ad, .int .i64 x.parent] 48 (0, 0)) := by rw [← hW]; exact heap_alloc_new u _
 have hM := hM0.past hbW
 have b5 := Pl.five BX
 have k0 := b5 0 _ rfl
 have k2 := b5 2 _ rfl
 clear hM0 hbW hi b5 BX
 unfold Px.Inv
 generalize Sk.texts (ns.take (i + 1)) = ts' at *
 generalize Sk.texts (ns.take i) = ts at *
 obtain ⟨ta, td, rfl⟩ := Um.form hM.o
 have cb := cell_of_one hM.b
 have fb := free_of_one hM.b
 have HM := Lib.hid hM
 clear hM
 by_cases hk : x.kind = 2
 ·
  have t2 : (x.kind == 2) = true := by rw [hk]; rfl
  rw [if_pos hk] at HT
  have HN2 : Hid (ts.length + 1 ≤ maxLen ∧ (ts.length + 1) * 16 ≤ 140737488355328) := ⟨by have := HN.out; unfold maxLen; omega, by have := HN.out; omega⟩
  have cl := fun v => Tp.clone x.text v hx
  clear hk hs hx
  go_enter Tryz.func27, Tryz.ntmps27
  go_upto_region 2 with fail
  try rw [hW]
  clear hW k0
  generalize u.heap.size = g at *
  go_region_law (first | (refine Ro.step_push rfl (.tmp 6) (.tmp 10) 32 9 1 16 _ rfl Tryz.underlying32 St.info rfl (by decide) (.slice ta ts.length td) (by rfl) (HM1.out.o.alloc _) w1.heap.size [.string x.text] (by rfl) (St.one_str _ _ _ rfl) rfl (by simp [Value.oneCell']) HN2.out.1 HN2.out.2 (by first | omega | (simp; omega)) ?_; intro v4 w4 R4 hg4 hf4; have R5 : w4.ownsRow w0.heap.size 9 1 v4 ts'.length (St.cells ts') := (by rw [HT.out]; unfold St.cells; rw [List.map_append, List.length_append]; exact R4); obtain ⟨B4, hM4⟩ := (HM1.out.past ((Below.refl w1.heap.size w1).alloc (Nat.le_refl _) (.cells #[.string x.text] 9))).push hg4 R5; obtain ⟨a4, d4, rfl⟩ := Um.form R4; have c4 := cell_of_one B4; have f4 := free_of_one B4; have HM4 := Lib.hid hM4; clear R4 R5 hg4 hf4 B4 hM4) | (rw [if_pos (by simp [Region.wanted])]; go_simp; go_at_call 28; refine (cl _).mono ?_; rintro e w1 ⟨rfl, hb1⟩; have hb1 := (Below.refl W.heap.size W).drew.trans hb1; have hM1 := HM.out.past hb1; have c1 := cell_of_one hM1.b; have hlt1 := lt_of_block hM1.b; have c1a := (fun o => cell_of_one (hM1.past ((Below.refl w1.heap.size w1).alloc (Nat.le_refl _) o)).b); have hs1 := hM1.bel.size; have HM1 := Lib.hid hM1; clear hM1 hb1))
  all_goals go_wp2
  all_goals go_end0
  all_goals exact ⟨rfl, _, HM4.out⟩
 ·
  have t2 : (x.kind == 2) = false := beq_eq_false_iff_ne.2 hk
  rw [if_neg hk, List.append_nil] at HT
  clear hk hs hx
  go_enter Tryz.func27, Tryz.ntmps27
  go_wp2
  go_end0
  refine ⟨rfl, .slice ta ts.length td, ?_⟩
  rw [HT.out]
  try rw [hW]
  exact HM.out
theorem Px.start (w : World) (ns : List Nd) : Px.Inv w w.heap.size ns 0 (w.alloc (.cells #[.slice none 0 0] 32)) :=
 ⟨.slice none 0 0, (Below.refl _ _).alloc (Nat.le_refl _) _, Nat.le_refl _, heap_alloc_new w _, World.ownsRow_nil _ _ _ _⟩
set_option maxRecDepth 100000 in
set_option maxHeartbeats 4000000 in
theorem Pq.texts (ns : List Nd) (a : Option Addr) (d : Nat) (w : World) (h : Nd.Lies w (· < w.heap.size) ns (.slice a ns.length d)) (hs : (ns.length + 1) * 16 ≤ 140737488355328) (hx : ∀ x ∈ ns, x.text.size ≤ 281474976710656) :
  Calls Tryz.prog 11 #[.slice a ns.length d] w fun e w' => Below w.heap.size w w' ∧ ((¬ Sk.May ns ∧ e = .returned (.tuple #[.slice none 0 0, .int .i64 800])) ∨ (Sk.May ns ∧ ∃ v, e = .returned (.tuple #[v, .int .i64 0]) ∧ St.Lies w' (fun k => w.heap.size ≤ k ∧ k < w'.heap.size) (Sk.texts ns) v)) := by
 have wk := Pq.walkT ns a d w.heap.size w _ (Px.Inv w w.heap.size ns) h (Px.start w ns)
  (fun i u u' ⟨tv, hM⟩ hb => ⟨tv, hM.past hb⟩) (fun i u ⟨tv, hM⟩ => hM.bel)
  (fun i x aa ad u hi _ _ hI => Px.see ns i x aa ad w _ u hi hI hs (hx x (List.mem_of_getElem? hi)))
 clear h hs hx
 by_cases hm : Sk.May ns
 ·
  have HM := Lib.hid hm
  clear hm
  go_enter Tryz.func11, Tryz.ntmps11
  go_wp2_with (go_at_call 23; refine wk.mono ?_; rintro e w2 q2; clear wk; have q3 : e = .returned (.bool true) ∧ Px.Inv w w.heap.size ns ns.length w2 := (by rcases q2 with q | q; exact q.2; exact absurd HM.out q.1); obtain ⟨rfl, tv, hM2⟩ := q3; rw [List.take_length] at hM2; have cb := cell_of_one hM2.b; obtain ⟨ta, td, rfl⟩ := Um.form hM2.o; have HB2 := Lib.hid hM2.bel; have HO2 := Lib.hid hM2.o; clear q2 hM2)
  go_ret2
  exact ⟨HB2.out, .inr ⟨HM.out, _, rfl, St.own HO2.out⟩⟩
 ·
  have HM := Lib.hid hm
  clear hm
  go_enter Tryz.func11, Tryz.ntmps11
  go_wp2_with (go_at_call 23; refine wk.mono ?_; rintro e w2 q2; clear wk; have q3 : e = .returned (.bool false) ∧ ∃ i, Px.Inv w w.heap.size ns i w2 := (by rcases q2 with q | q; exact absurd q.1 HM.out; exact q.2); obtain ⟨rfl, i, tv, hM2⟩ := q3; have HB2 := Lib.hid hM2.bel; clear q2 hM2)
  go_ret2
  exact ⟨HB2.out, .inl ⟨HM.out, rfl⟩⟩
theorem Rf.Sim.ofPlain {P : ByteArray} {i : Nat} {x : Rf} {r : Rd} (hk : r.st.pl = 0 ∨ r.st.pl = 19) (st : x.st = r.st) (ok : Rd.Ok r i) (fine : Ts.Fine r.st) (h1 : r.toks = x.out) (h2 : x.has = false) (h3 : x.attrs = []) (h4 : r.attrs = []) (h5 : x.buf ≠ [] → x.raw = Rf.isRaw r.st.held) (h6 : x.hold = -1) (h7 : x.buf = Rf.sl P r.text i) : Rf.Sim P i x r :=
 ⟨st, ok, fine, fun _ => ⟨h1, h2, h3, h4, h5⟩, fun _ => ⟨h6, h7⟩, fun q => by omega, fun q1 q2 => by omega, fun q1 q2 => by omega, fun q1 q2 => by omega⟩
theorem Rf.Sim.ofMid {P : ByteArray} {i : Nat} {x : Rf} {r : Rd} (hk : r.st.pl = 1 ∨ r.st.pl = 2 ∨ r.st.pl = 20 ∨ r.st.pl = 21 ∨ r.st.pl = 22) (st : x.st = r.st) (ok : Rd.Ok r i) (fine : Ts.Fine r.st) (h1 : r.toks = x.out) (h2 : x.has = false) (h3 : x.attrs = []) (h4 : r.attrs = []) (h5 : x.buf ≠ [] → x.raw = Rf.isRaw r.st.held) (h6 : x.hold = (r.opn : Int)) (h7 : x.buf = Rf.sl P r.text r.opn) : Rf.Sim P i x r :=
 ⟨st, ok, fine, fun _ => ⟨h1, h2, h3, h4, h5⟩, fun q => by omega, fun _ => ⟨h6, h7⟩, fun q1 q2 => by omega, fun q1 q2 => by omega, fun q1 q2 => by omega⟩
theorem Rf.Sim.ofCom {P : ByteArray} {i : Nat} {x : Rf} {r : Rd} (hk : 13 ≤ r.st.pl ∧ r.st.pl ≤ 18) (st : x.st = r.st) (ok : Rd.Ok r i) (fine : Ts.Fine r.st) (h1 : r.toks = x.out ++ Rf.txts x.buf x.raw) (h2 : x.has = false) (h3 : x.attrs = []) (h4 : r.attrs = []) (h6 : x.hold = (r.opn : Int)) : Rf.Sim P i x r :=
 ⟨st, ok, fine, fun q => by omega, fun q => by omega, fun q => by omega, fun _ _ => h1, fun _ _ => ⟨h6, h2, h3, h4⟩, fun q1 q2 => by omega⟩
theorem Rf.Sim.ofTag {P : ByteArray} {i : Nat} {x : Rf} {r : Rd} (hk : 3 ≤ r.st.pl ∧ r.st.pl ≤ 12) (st : x.st = r.st) (ok : Rd.Ok r i) (fine : Ts.Fine r.st) (h1 : r.toks = x.out ++ Rf.txts x.buf x.raw) (h2 : Rf.Att P i x r) : Rf.Sim P i x r :=
 ⟨st, ok, fine, fun q => by omega, fun q => by omega, fun q => by omega, fun _ _ => h1, fun q1 q2 => by omega, fun _ _ => h2⟩
theorem Rf.moved_commit (x : Rf) (N : Ts) : (Rf.moved x N).commit.attrs = x.commit.attrs := by
 rw [Rf.commit_attrs, Rf.commit_attrs]
 rfl
theorem Rf.commit_none (x : Rf) (h : x.has = false) : x.commit = x := by
 unfold Rf.commit
 rw [if_neg (by rw [h]; decide)]
theorem Rf.Sim.comCom {P : ByteArray} {i : Nat} {x : Rf} {r : Rd} (h : Rf.Sim P i x r) (N : Ts) (hk : 13 ≤ r.st.pl ∧ r.st.pl ≤ 18) (hN : 13 ≤ N.pl ∧ N.pl ≤ 18) (ok : Rd.Ok (Rd.go P r N r.opn i) (i + 1)) (hf : Ts.Fine N) : Rf.Sim P (i + 1) (Rf.go P x N i) (Rd.go P r N r.opn i) := by
 have hs := h.st
 obtain ⟨c1, c2, c3, c4⟩ := h.com hk.1 hk.2
 have ht := h.other (by omega) (by omega)
 rw [Rd.go_same P r N r.opn i (by omega) (Or.inr ⟨hk, by omega⟩)] at ok ⊢
 rw [Rf.go_same P x N i (by unfold Rf.inTag; omega) (by rw [hs]; unfold Rf.inTag; omega) (by omega) (by omega) (Or.inl (Or.inl (by unfold Rf.inText; omega)))]
 exact Rf.Sim.ofCom hN rfl ok hf ht c2 c3 c4 c1
theorem Rf.Sim.comEnd {P : ByteArray} {i : Nat} {x : Rf} {r : Rd} (h : Rf.Sim P i x r) (N : Ts) (hk : 13 ≤ r.st.pl ∧ r.st.pl ≤ 18) (hN : N.pl = 0) (ok : Rd.Ok (Rd.go P r N r.opn i) (i + 1)) (hf : Ts.Fine N) : Rf.Sim P (i + 1) (Rf.go P x N i) (Rd.go P r N r.opn i) := by
 have hs := h.st
 obtain ⟨c1, c2, c3, c4⟩ := h.com hk.1 hk.2
 have ht := h.other (by omega) (by omega)
 rw [Rd.go_com P r N r.opn i hk (by omega)] at ok ⊢
 rw [Rf.go_com P x N i (by rw [hs]; exact hk) hN]
 obtain ⟨f1, f2, f3⟩ := Rf.flush_rest (Rf.moved x N)
 refine Rf.Sim.ofPlain (Or.inl hN) f1 ok hf ?_ (f3.trans c2) (f2.trans c3) rfl (fun q => absurd (Rf.flush_buf _) q) rfl ?_
 ·
  show r.toks ++ [_] = (Rf.moved x N).flush.out ++ [_]
  rw [Rf.flush_out, ht, hs, c1, Int.toNat_natCast]
  rfl
 ·
  show (Rf.moved x N).flush.buf = Rf.sl P (i + 1) (i + 1)
  rw [Rf.flush_buf, Rf.sl_nil]
theorem Rf.Sim.openLt {P : ByteArray} {i : Nat} {x : Rf} {r : Rd} (h : Rf.Sim P i x r) (N : Ts) (hk : r.st.pl < 3 ∨ 19 ≤ r.st.pl) (hN : N.pl = 1 ∨ N.pl = 20) (hh : N.held = r.st.held) (ok : Rd.Ok (Rd.go P r N i i) (i + 1)) (hf : Ts.Fine N) : Rf.Sim P (i + 1) (Rf.go P x N i) (Rd.go P r N i i) := by
 have hs := h.st
 have hlo := h.ok.lo
 obtain ⟨c1, c2, c3, c4, c5⟩ := h.loose hk
 have htx := h.ok.text
 rw [Rd.go_same P r N i i (by omega) (Or.inl ⟨hk, by omega⟩)] at ok ⊢
 rw [Rf.go_open P x N i (by rw [hs]; unfold Rf.inText; omega) hN]
 by_cases hm : r.st.pl = 0 ∨ r.st.pl = 19
 ·
  obtain ⟨p1, p2⟩ := h.plain hm
  rw [if_neg (by omega)]
  exact Rf.Sim.ofMid (by show N.pl = 1 ∨ N.pl = 2 ∨ N.pl = 20 ∨ N.pl = 21 ∨ N.pl = 22; omega) rfl ok hf c1 c2 c3 c4 (fun q => by show x.raw = Rf.isRaw N.held; rw [hh]; exact c5 q) rfl p2
 ·
  obtain ⟨p1, p2⟩ := h.mid (by have := h.ok.hi; omega)
  have ho := h.ok.opn (by have := h.ok.hi; omega)
  rw [if_pos (by omega)]
  refine Rf.Sim.ofMid (by show N.pl = 1 ∨ N.pl = 2 ∨ N.pl = 20 ∨ N.pl = 21 ∨ N.pl = 22; omega) rfl ok hf c1 c2 c3 c4 (fun _ => rfl) rfl ?_
  show x.buf ++ Rf.sl P x.hold.toNat i = Rf.sl P r.text i
  rw [p2, p1, Int.toNat_natCast, Rf.sl_append P _ _ _ ho.1 (by omega)]
theorem Rf.Sim.textOn {P : ByteArray} {i : Nat} {x : Rf} {r : Rd} (h : Rf.Sim P i x r) (N : Ts) (hk : r.st.pl < 3 ∨ 19 ≤ r.st.pl) (hN : N.pl = 0 ∨ N.pl = 19) (hn : ¬ (r.st.pl = 22 ∧ N.pl = 0)) (ok : Rd.Ok (Rd.go P r N r.opn i) (i + 1)) (hf : Ts.Fine N) : Rf.Sim P (i + 1) (Rf.go P x N i) (Rd.go P r N r.opn i) := by
 have hs := h.st
 have hlo := h.ok.lo
 obtain ⟨c1, c2, c3, c4, c5⟩ := h.loose hk
 have htx := h.ok.text
 rw [Rd.go_same P r N r.opn i hn (Or.inl ⟨hk, by omega⟩)] at ok ⊢
 rw [Rf.go_text P x N i (by rw [hs]; unfold Rf.inText; omega) hN (by rw [hs]; exact hn)]
 refine Rf.Sim.ofPlain hN rfl ok hf c1 c2 c3 c4 (fun _ => rfl) rfl ?_
 show x.buf ++ Rf.sl P (if 0 ≤ x.hold then x.hold.toNat else i) (i + 1) = Rf.sl P r.text (i + 1)
 by_cases hm : r.st.pl = 0 ∨ r.st.pl = 19
 ·
  obtain ⟨p1, p2⟩ := h.plain hm
  rw [if_neg (by omega), p2, Rf.sl_append P _ _ _ htx (by omega)]
 ·
  obtain ⟨p1, p2⟩ := h.mid (by have := h.ok.hi; omega)
  have ho := h.ok.opn (by have := h.ok.hi; omega)
  rw [if_pos (by omega), p2, p1, Int.toNat_natCast, Rf.sl_append P _ _ _ ho.1 (by omega)]
theorem Rf.Sim.midOn {P : ByteArray} {i : Nat} {x : Rf} {r : Rd} (h : Rf.Sim P i x r) (N : Ts) (hk : r.st.pl = 1 ∨ r.st.pl = 20 ∨ r.st.pl = 21 ∨ r.st.pl = 22) (hN : N.pl = 2 ∨ N.pl = 21 ∨ N.pl = 22) (hh : N.held = r.st.held) (ok : Rd.Ok (Rd.go P r N r.opn i) (i + 1)) (hf : Ts.Fine N) : Rf.Sim P (i + 1) (Rf.go P x N i) (Rd.go P r N r.opn i) := by
 have hs := h.st
 obtain ⟨c1, c2, c3, c4, c5⟩ := h.loose (by omega)
 obtain ⟨p1, p2⟩ := h.mid (by omega)
 rw [Rd.go_same P r N r.opn i (by omega) (Or.inl ⟨by omega, by omega⟩)] at ok ⊢
 rw [Rf.go_same P x N i (by unfold Rf.inTag; omega) (by rw [hs]; unfold Rf.inTag; omega) (by omega) (by omega) (Or.inr ⟨by omega, by omega⟩)]
 exact Rf.Sim.ofMid (by show N.pl = 1 ∨ N.pl = 2 ∨ N.pl = 20 ∨ N.pl = 21 ∨ N.pl = 22; omega) rfl ok hf c1 c2 c3 c4 (fun q => by show x.raw = Rf.isRaw N.held; rw [hh]; exact c5 q) p1 p2
theorem Rf.Sim.tagBegins {P : ByteArray} {i : Nat} {x : Rf} {r : Rd} (h : Rf.Sim P i x r) (N : Ts) (hP : i ≤ P.size) (hk : r.st.pl = 1 ∨ r.st.pl = 2 ∨ r.st.pl = 22) (hN : N.pl = 3 ∨ N.pl = 4 ∨ N.pl = 12) (ok : Rd.Ok (Rd.go P r N r.opn i) (i + 1)) (hf : Ts.Fine N) : Rf.Sim P (i + 1) (Rf.go P x N i) (Rd.go P r N r.opn i) := by
 have hs := h.st
 obtain ⟨c1, c2, c3, c4, c5⟩ := h.loose (by omega)
 obtain ⟨p1, p2⟩ := h.mid (by omega)
 have ho := h.ok.opn (by omega)
 rw [Rd.go_text P r N r.opn i (by omega) (by omega)] at ok ⊢
 obtain ⟨t1, t2, t3, t4, t5⟩ := Rd.tellText_facts P (Rd.moved r N r.opn) r.opn r.st.held
 have hst : (Rd.tellText P (Rd.moved r N r.opn) r.opn r.st.held).st = N := t1
 have hat : (Rd.tellText P (Rd.moved r N r.opn) r.opn r.st.held).attrs = [] := List.eq_nil_of_length_eq_zero (Nat.le_zero.1 (by rw [show (Rd.moved r N r.opn).attrs = [] from c4] at t4; exact t4))
 have hto := Rd.tellText_toks P (Rd.moved r N r.opn) r.opn r.st.held ho.1 (by omega) x.raw (fun q => c5 (by rw [p2]; exact q))
 rw [Rf.go_value P x N i (Or.inr (by omega)) (by unfold Rf.inTag; omega)]
 have hv : (Rf.moved x N).value P x.st i = Rf.moved x N := by
  unfold Rf.value
  have e : (Rf.moved x N).st.pl = N.pl := rfl
  rw [if_neg (by rw [e]; omega), if_neg (by rw [e]; omega), if_neg (by rw [e]; omega)]
 rw [hv]
 refine Rf.Sim.ofTag (by rw [hst]; omega) hst.symm ok (by rw [hst]; exact hf) ?_ ?_
 ·
  rw [hto]
  show r.toks ++ Rf.txts (Rf.sl P r.text r.opn) x.raw = x.out ++ Rf.txts x.buf x.raw
  rw [c1, p2]
 ·
  refine ⟨fun _ _ _ _ => ?_, fun q => ?_, fun q => ?_, fun q => ?_⟩
  ·
   rw [hat, Rf.moved_commit, Rf.commit_none x c2, c3]
  ·
   rw [hst] at q; omega
  ·
   rw [hst] at q; omega
  ·
   rw [hst] at q; omega
theorem Rf.Sim.comBegins {P : ByteArray} {i : Nat} {x : Rf} {r : Rd} (h : Rf.Sim P i x r) (N : Ts) (hP : i ≤ P.size) (hk : r.st.pl = 1) (hN : N.pl = 13) (ok : Rd.Ok (Rd.go P r N r.opn i) (i + 1)) (hf : Ts.Fine N) : Rf.Sim P (i + 1) (Rf.go P x N i) (Rd.go P r N r.opn i) := by
 have hs := h.st
 obtain ⟨c1, c2, c3, c4, c5⟩ := h.loose (by omega)
 obtain ⟨p1, p2⟩ := h.mid (by omega)
 have ho := h.ok.opn (by omega)
 rw [Rd.go_text P r N r.opn i (by omega) (by omega)] at ok ⊢
 obtain ⟨t1, t2, t3, t4, t5⟩ := Rd.tellText_facts P (Rd.moved r N r.opn) r.opn r.st.held
 have hst : (Rd.tellText P (Rd.moved r N r.opn) r.opn r.st.held).st = N := t1
 have hat : (Rd.tellText P (Rd.moved r N r.opn) r.opn r.st.held).attrs = [] := List.eq_nil_of_length_eq_zero (Nat.le_zero.1 (by rw [show (Rd.moved r N r.opn).attrs = [] from c4] at t4; exact t4))
 have hto := Rd.tellText_toks P (Rd.moved r N r.opn) r.opn r.st.held ho.1 (by omega) x.raw (fun q => c5 (by rw [p2]; exact q))
 rw [Rf.go_same P x N i (by unfold Rf.inTag; omega) (by rw [hs]; unfold Rf.inTag; omega) (by omega) (by rw [hs]; omega) (Or.inl (Or.inl (by unfold Rf.inText; omega)))]
 refine Rf.Sim.ofCom (by rw [hst]; omega) hst.symm ok (by rw [hst]; exact hf) ?_ c2 c3 hat ?_
 ·
  rw [hto]
  show r.toks ++ Rf.txts (Rf.sl P r.text r.opn) x.raw = x.out ++ Rf.txts x.buf x.raw
  rw [c1, p2]
 ·
  rw [t5]
  exact p1
theorem Rf.Sim.heldEnds {P : ByteArray} {i : Nat} {x : Rf} {r : Rd} (h : Rf.Sim P i x r) (N : Ts) (hP : i ≤ P.size) (hk : r.st.pl = 22) (hN : N.pl = 0) (ok : Rd.Ok (Rd.go P r N r.opn i) (i + 1)) (hf : Ts.Fine N) : Rf.Sim P (i + 1) (Rf.go P x N i) (Rd.go P r N r.opn i) := by
 have hs := h.st
 obtain ⟨c1, c2, c3, c4, c5⟩ := h.loose (by omega)
 obtain ⟨p1, p2⟩ := h.mid (by omega)
 have ho := h.ok.opn (by omega)
 have hheld : r.st.held ≠ Ts.e := by
  intro e
  have := h.fine.high (by omega)
  rw [e] at this
  exact absurd this (by decide)
 rw [Rd.go_end P r N r.opn i ⟨hk, hN⟩] at ok ⊢
 obtain ⟨t1, t2, t3, t4, t5⟩ := Rd.tellText_facts P (Rd.moved r N r.opn) r.opn r.st.held
 have hto := Rd.tellText_toks P (Rd.moved r N r.opn) r.opn r.st.held ho.1 (by omega) x.raw (fun q => c5 (by rw [p2]; exact q))
 rw [Rf.go_emit P x N i (Or.inl ⟨by rw [hs]; exact hk, hN⟩)]
 have hcm : (Rf.moved x N).commit = Rf.moved x N := Rf.commit_none _ c2
 obtain ⟨f1, f2, f3⟩ := Rf.flush_rest (Rf.moved x N)
 unfold Rf.emit
 rw [hcm]
 refine Rf.Sim.ofPlain (r := (Rd.tellText P (Rd.moved r N r.opn) r.opn r.st.held).tell ⟨2, r.st.held, Ts.e, [], false⟩ (i + 1)) (by show (Rd.tellText P (Rd.moved r N r.opn) r.opn r.st.held).st.pl = 0 ∨ _; rw [t1]; exact Or.inl hN) ?_ ok (by show Ts.Fine (Rd.tellText P (Rd.moved r N r.opn) r.opn r.st.held).st; rw [t1]; exact hf) ?_ (f3.trans c2) rfl rfl (fun q => absurd (Rf.flush_buf _) q) rfl ?_
 ·
  show (Rf.moved x N).flush.st = (Rd.tellText P (Rd.moved r N r.opn) r.opn r.st.held).st
  rw [f1, t1]
  rfl
 ·
  show (Rd.tellText P (Rd.moved r N r.opn) r.opn r.st.held).toks ++ [_] = (Rf.moved x N).flush.out ++ [Rf.tag x.st (Rf.moved x N).flush.attrs]
  rw [hto, Rf.flush_out]
  have e : Rf.tag x.st (Rf.moved x N).flush.attrs = ⟨2, r.st.held, Ts.e, [], false⟩ := by
   unfold Rf.tag
   rw [hs, if_pos (Or.inr hheld), if_pos hheld]
  rw [e]
  show r.toks ++ Rf.txts (Rf.sl P r.text r.opn) x.raw ++ _ = x.out ++ Rf.txts x.buf x.raw ++ _
  rw [c1, p2]
 ·
  show (Rf.moved x N).flush.buf = Rf.sl P (i + 1) (i + 1)
  rw [Rf.flush_buf, Rf.sl_nil]
end Go.Proofs.YtblpkjlodncpeaaGreatDoor

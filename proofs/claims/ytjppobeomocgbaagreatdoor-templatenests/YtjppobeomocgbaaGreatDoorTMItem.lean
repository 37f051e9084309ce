/-
  THE WALK of the reference's reader.item (by gen16/genitem.py).
-/
import Derived.Test.YtjppobeomocgbaaGreatDoorTMBlock
import Derived.Deep.RegionWith
import Derived.Deep.RegionHeld
namespace Go.Proofs.YtjppobeomocgbaaGreatDoor
open Go.RowKit
/-- item under way: the reader, the result's block -/
structure Tr.Ik (w u : World) (g : Nat) (pv : Value) (j : Nat) (e : Int) : Prop where
  at_ : Tr.At u g pv j e
  v : Bs.Box u w.heap.size #[.int .i64 0, .string ⟨#[]⟩, .slice none 0 0, .slice none 0 0, .slice none 0 0] 37
  kept : Cu.Kept w u g
  lt : g < w.heap.size
theorem Tr.Ik.then {w u u' : World} {g : Nat} {pv : Value} {j j' : Nat} {e e' : Int} (h : Tr.Ik w u g pv j e) (hk : Cu.Kept u u' g) (ha : Tr.At u' g pv j' e') : Tr.Ik w u' g pv j' e' :=
  ⟨ha, Tr.box_kept h.v hk (Nat.ne_of_gt h.lt), h.kept.trans hk, h.lt⟩
theorem Tr.Ik.hi {w u : World} {g : Nat} {pv : Value} {j : Nat} {e : Int} (h : Tr.Ik w u g pv j e) : w.heap.size + 1 ≤ u.heap.size := h.v.lt
theorem Mt.fits_on {w w' : World} {R R' : Nat → Prop} (hR : ∀ k, R k → R' k ∧ w'.heap[k]? = w.heap[k]?) : ∀ {ds : List Dt} {vs : List Value}, Mt.fits w R ds vs → Mt.fits w' R' ds vs := by
  intro ds
  induction ds with
  | nil => intro vs hf; cases vs with | nil => trivial | cons v vs => exact hf.elim
  | cons y ds ih =>
    intro vs hf
    cases vs with
    | nil => exact hf.elim
    | cons v vs => exact ⟨hf.1.on hR, ih hf.2⟩
/-- item gives -/
theorem Tr.Ik.done {w u W : World} {g N i : Nat} {pv : Value} {j : Nat} {e : Int} {G : Except Int (It × Nat)} {k : Int} {t : ByteArray} {a2 : Option Addr} {n2 d2 : Nat} {a3 : Option Addr} {n3 d3 : Nat} {a4 : Option Addr} {n4 d4 : Nat} (h : Tr.Ik w u g pv j e) (hq : ∀ k, k ≠ w.heap.size → W.heap[k]? = u.heap[k]?) (hz : W.heap.size = u.heap.size) (ho : W.os = u.os) (ht : W.tape = u.tape) (hu : W.output = u.output)
    (he : ∀ x, G = .error x → x = e ∧ e ≠ 0) (hok : ∀ x j', G = .ok (x, j') → e = 0 ∧ j' = j ∧ i ≤ j ∧ j ≤ N ∧ Mt.fits u (Tr.L (w.heap.size + 1) u) (It.dt x) [.int .i64 k, .string t, .slice a2 n2 d2, .slice a3 n3 d3, .slice a4 n4 d4]) : Tr.IOut G N i w g pv (.returned (.agg #[.int .i64 k, .string t, .slice a2 n2 d2, .slice a3 n3 d3, .slice a4 n4 d4])) W := by
  have hlt := h.lt
  have hat : Tr.At W g pv j e := h.at_.same (hq g (by omega))
  refine ⟨k, t, a2, n2, d2, a3, n3, d3, a4, n4, d4, rfl, Tr.kept_more h.kept (fun q h1 _ => hq q (by omega)) (by omega) ho ht hu, fun x hx => ?_, fun x j' hx => ?_⟩
  · obtain ⟨rfl, h2⟩ := he x hx
    exact ⟨h2, j, hat⟩
  · obtain ⟨rfl, rfl, h3, h4, h5⟩ := hok x j' hx
    exact ⟨h3, h4, hat, Mt.fits_on (fun b hb => by
      have e := hq b (by have := hb.1; omega)
      exact ⟨⟨by have := hb.1; omega, by rw [hz]; exact hb.2.1, hb.2.2.on e⟩, e⟩) h5⟩
/-- a text in memory, and what it is not -/
def Tm.not (t : ByteArray) (k : List UInt8) : Prop := (t.toList == k) = false
theorem Tm.is (t : ByteArray) (k : List UInt8) (h : t.data.toList = k) : t = ⟨k.toArray⟩ := by
  apply WideShapes.bytes_inj
  rw [h]

set_option maxRecDepth 100000 in
set_option maxHeartbeats 4000000 in
theorem Tr.item_break (t : ByteArray) (ws : List Wo) (v : Value) (R : Nat → Prop) (ps : List Pc) (n deep : Nat) (loop : Bool) (i g : Nat) (pv : Value) (w : World) (HRW : Tr.Rows ps g pv n) (hA : Tr.At w g pv i 0) (hP : Pc.Lies w (fun k => k < w.heap.size ∧ k ≠ g) ps pv) (h : Wo.Lies w R ws v) (_hz : Tm.Fit ws) (_hd : deep ≤ 16) (hi : i ≤ ps.length) (_hn : ps.length < i + n) (ht : t.data.toList = Tm.sBreak) :
    Calls Tryz.prog 37 #[.pointer (some ⟨g, 0, none⟩), .string t, v, .int .i64 (deep : Int), .bool loop] w fun e w' => Tr.IOut (Tm.item (fun d l j => Tm.rows ps n d l j []) t.data.toList ws deep loop i) ps.length i w g pv e w' := by
  have hgw := hA.lt
  obtain ⟨W0, hW0⟩ : ∃ W0, w.alloc (.cells #[.int .i64 0, .string ⟨#[]⟩, .slice none 0 0, .slice none 0 0, .slice none 0 0] 37) = W0 := ⟨_, rfl⟩
  have hb0 : Below w.heap.size w W0 := by rw [← hW0]; exact (Below.refl _ w).alloc (Nat.le_refl _) _
  have HS0 : Hid (Tr.Ik w W0 g pv i 0) := ⟨hA.then hb0, by rw [← hW0]; exact Bs.Box.new _ _ _ _ rfl, (Cu.Kept.refl _ _).then hb0, hgw⟩
  have HP0 := Lib.hid (Tr.pcs hP HS0.out.kept)
  have hw0 : Wo.Lies W0 (fun _ => True) ws v := by
    obtain ⟨a, d, e, h1, h2, hx⟩ := h
    refine ⟨a, d, e, h1, h2, fun q x hq => ?_⟩
    obtain ⟨b, o, pv2, ea, _, c0, c1, c2, c3, hl⟩ := hx q x hq
    refine ⟨b, o, pv2, ea, trivial, Tp.keep hb0 c0, Tp.keep hb0 c1, Tp.keep hb0 c2, Tp.keep hb0 c3, ?_⟩
    obtain ⟨a5, d5, e5, h15, h25, hx5⟩ := hl
    refine ⟨a5, d5, e5, h15, h25, fun q5 t5 hq5 => ?_⟩
    obtain ⟨b5, o5, ea5, _, c5⟩ := hx5 q5 t5 hq5
    exact ⟨b5, o5, ea5, trivial, Tp.keep hb0 c5⟩
  have hdt := hw0.data
  obtain ⟨G, hG⟩ : ∃ G, Tm.item (fun d l j => Tm.rows ps n d l j []) t.data.toList ws deep loop i = G := ⟨_, rfl⟩
  rw [hG]
  unfold Tm.item at hG
  have HW := Lib.hid hW0
  have HRR := Lib.hid HRW
  clear hA hP h hb0 hW0 HRW
  rw [ht] at hG
  have hG2 : .ok (It.mk 7 [] [] [] [], i) = G := hG
  subst hG2
  obtain rfl : t = ⟨#[98, 114, 101, 97, 107]⟩ := Tm.is t _ ht
  clear ht
  clear hG hw0 hdt HRR
  have hw0 := HW.out
  go_enter Tryz.func37, Tryz.ntmps37
  go_upto_region 3 with fail
  clear hw0
  have ⟨y0, y1, y2, y3, y4, yf⟩ := Tr.cells5 HS0.out.v
  go_wp2_with fail
  obtain ⟨W, hW, hX, hq, hz9, ho, ht9, hu⟩ := Tr.five HS0.out.v (.int .i64 7) (.string ⟨#[]⟩) (.slice none 0 0) (.slice none 0 0) (.slice none 0 0)
  rw [hW]
  obtain ⟨z0, z1, z2, z3, z4, -⟩ := Tr.cells5 hX
  refine bodyPost_ret (v := .agg #[.int .i64 7, .string ⟨#[]⟩, .slice none 0 0, .slice none 0 0, .slice none 0 0]) (by simp [results, Tryz.results37, go_sem, z0, z1, z2, z3, z4]) rfl ?_
  exact HS0.out.done hq hz9 ho ht9 hu (fun x hx => by cases hx) (fun x j' hx => by injection hx with hx; injection hx with h1 h2; subst h1 h2; exact ⟨rfl, rfl, Nat.le_refl _, hi, by rw [It.dt_mk]; exact ⟨Mt.i, Mt.s, Mt.n, Mt.n, Mt.n, trivial⟩⟩)
set_option maxRecDepth 100000 in
set_option maxHeartbeats 4000000 in
theorem Tr.item_cont (t : ByteArray) (ws : List Wo) (v : Value) (R : Nat → Prop) (ps : List Pc) (n deep : Nat) (loop : Bool) (i g : Nat) (pv : Value) (w : World) (HRW : Tr.Rows ps g pv n) (hA : Tr.At w g pv i 0) (hP : Pc.Lies w (fun k => k < w.heap.size ∧ k ≠ g) ps pv) (h : Wo.Lies w R ws v) (_hz : Tm.Fit ws) (_hd : deep ≤ 16) (hi : i ≤ ps.length) (_hn : ps.length < i + n) (ht : t.data.toList = Tm.sCont) :
    Calls Tryz.prog 37 #[.pointer (some ⟨g, 0, none⟩), .string t, v, .int .i64 (deep : Int), .bool loop] w fun e w' => Tr.IOut (Tm.item (fun d l j => Tm.rows ps n d l j []) t.data.toList ws deep loop i) ps.length i w g pv e w' := by
  have hgw := hA.lt
  obtain ⟨W0, hW0⟩ : ∃ W0, w.alloc (.cells #[.int .i64 0, .string ⟨#[]⟩, .slice none 0 0, .slice none 0 0, .slice none 0 0] 37) = W0 := ⟨_, rfl⟩
  have hb0 : Below w.heap.size w W0 := by rw [← hW0]; exact (Below.refl _ w).alloc (Nat.le_refl _) _
  have HS0 : Hid (Tr.Ik w W0 g pv i 0) := ⟨hA.then hb0, by rw [← hW0]; exact Bs.Box.new _ _ _ _ rfl, (Cu.Kept.refl _ _).then hb0, hgw⟩
  have HP0 := Lib.hid (Tr.pcs hP HS0.out.kept)
  have hw0 : Wo.Lies W0 (fun _ => True) ws v := by
    obtain ⟨a, d, e, h1, h2, hx⟩ := h
    refine ⟨a, d, e, h1, h2, fun q x hq => ?_⟩
    obtain ⟨b, o, pv2, ea, _, c0, c1, c2, c3, hl⟩ := hx q x hq
    refine ⟨b, o, pv2, ea, trivial, Tp.keep hb0 c0, Tp.keep hb0 c1, Tp.keep hb0 c2, Tp.keep hb0 c3, ?_⟩
    obtain ⟨a5, d5, e5, h15, h25, hx5⟩ := hl
    refine ⟨a5, d5, e5, h15, h25, fun q5 t5 hq5 => ?_⟩
    obtain ⟨b5, o5, ea5, _, c5⟩ := hx5 q5 t5 hq5
    exact ⟨b5, o5, ea5, trivial, Tp.keep hb0 c5⟩
  have hdt := hw0.data
  obtain ⟨G, hG⟩ : ∃ G, Tm.item (fun d l j => Tm.rows ps n d l j []) t.data.toList ws deep loop i = G := ⟨_, rfl⟩
  rw [hG]
  unfold Tm.item at hG
  have HW := Lib.hid hW0
  have HRR := Lib.hid HRW
  clear hA hP h hb0 hW0 HRW
  rw [ht] at hG
  have hG2 : .ok (It.mk 8 [] [] [] [], i) = G := hG
  subst hG2
  obtain rfl : t = ⟨#[99, 111, 110, 116, 105, 110, 117, 101]⟩ := Tm.is t _ ht
  clear ht
  clear hG hw0 hdt HRR
  have hw0 := HW.out
  go_enter Tryz.func37, Tryz.ntmps37
  go_upto_region 5 with fail
  clear hw0
  have ⟨y0, y1, y2, y3, y4, yf⟩ := Tr.cells5 HS0.out.v
  go_wp2_with fail
  obtain ⟨W, hW, hX, hq, hz9, ho, ht9, hu⟩ := Tr.five HS0.out.v (.int .i64 8) (.string ⟨#[]⟩) (.slice none 0 0) (.slice none 0 0) (.slice none 0 0)
  rw [hW]
  obtain ⟨z0, z1, z2, z3, z4, -⟩ := Tr.cells5 hX
  refine bodyPost_ret (v := .agg #[.int .i64 8, .string ⟨#[]⟩, .slice none 0 0, .slice none 0 0, .slice none 0 0]) (by simp [results, Tryz.results37, go_sem, z0, z1, z2, z3, z4]) rfl ?_
  exact HS0.out.done hq hz9 ho ht9 hu (fun x hx => by cases hx) (fun x j' hx => by injection hx with hx; injection hx with h1 h2; subst h1 h2; exact ⟨rfl, rfl, Nat.le_refl _, hi, by rw [It.dt_mk]; exact ⟨Mt.i, Mt.s, Mt.n, Mt.n, Mt.n, trivial⟩⟩)
/-- what a callee gives is given on -/
theorem Tr.IOut.pass {w W0 w1 W : World} {g N i : Nat} {pv : Value} {G : Except Int (It × Nat)} {k : Int} {t : ByteArray} {a2 : Option Addr} {n2 d2 : Nat} {a3 : Option Addr} {n3 d3 : Nat} {a4 : Option Addr} {n4 d4 : Nat} (h : Tr.Ik w W0 g pv i 0) (hk : Cu.Kept W0 w1 g) (he : ∀ x, G = .error x → x ≠ 0 ∧ ∃ j, Tr.At w1 g pv j x) (hok : ∀ x j, G = .ok (x, j) → i ≤ j ∧ j ≤ N ∧ Tr.At w1 g pv j 0 ∧ Mt.fits w1 (Tr.L W0.heap.size w1) (It.dt x) [.int .i64 k, .string t, .slice a2 n2 d2, .slice a3 n3 d3, .slice a4 n4 d4])
    (hq : ∀ k, k ≠ w.heap.size → W.heap[k]? = w1.heap[k]?) (hz : W.heap.size = w1.heap.size) (ho : W.os = w1.os) (ht : W.tape = w1.tape) (hu : W.output = w1.output) : Tr.IOut G N i w g pv (.returned (.agg #[.int .i64 k, .string t, .slice a2 n2 d2, .slice a3 n3 d3, .slice a4 n4 d4])) W := by
  have hlt := h.lt
  have hhi := h.hi
  refine ⟨k, t, a2, n2, d2, a3, n3, d3, a4, n4, d4, rfl, Tr.kept_more (h.kept.trans hk) (fun q h1 _ => hq q (by omega)) (by omega) ho ht hu, fun x hx => ?_, fun x j' hx => ?_⟩
  · obtain ⟨h1, j, h2⟩ := he x hx
    exact ⟨h1, j, h2.same (hq g (by omega))⟩
  · obtain ⟨h3, h4, h5, h6⟩ := hok x j' hx
    exact ⟨h3, h4, h5.same (hq g (by omega)), Mt.fits_on (fun b hb => by
      have e := hq b (by have := hb.1; omega)
      exact ⟨⟨by have := hb.1; omega, by rw [hz]; exact hb.2.1, hb.2.2.on e⟩, e⟩) h6⟩
/-- an item with a pipe is given -/
theorem Tr.Ik.piped {w W1 w2 W : World} {g N i : Nat} {pv : Value} {k : Int} {t : List UInt8} {rest : List Wo} {a2 : Option Addr} {n2 d2 : Nat} (h : Tr.Ik w W1 g pv i 0) (hi : i ≤ N) (hat : Tr.At w2 g pv i (Pi.parse (rest.map Wo.wi)).2) (hk : Cu.Kept W1 w2 g) (hl : Dt.Lies w2 (fun b => W1.heap.size ≤ b ∧ b < w2.heap.size ∧ Rm.Ub w2 b) (Cm.rows (Pi.parse (rest.map Wo.wi)).1) (.slice a2 n2 d2))
    (hq : ∀ k, k ≠ w.heap.size → W.heap[k]? = w2.heap[k]?) (hz : W.heap.size = w2.heap.size) (ho : W.os = w2.os) (ht : W.tape = w2.tape) (hu : W.output = w2.output) : Tr.IOut ((Tm.pipe k t rest).map fun y => (y, i)) N i w g pv (.returned (.agg #[.int .i64 k, .string ⟨t.toArray⟩, .slice a2 n2 d2, .slice none 0 0, .slice none 0 0])) W := by
  have hlt := h.lt
  have hhi := h.hi
  have h2 := h.then hk hat
  refine h2.done hq hz ho ht hu (fun x hx => ?_) (fun x j' hx => ?_)
  · unfold Tm.pipe at hx
    dsimp only at hx
    split at hx
    · cases hx
    · rename_i hne
      have hx : Except.error (Pi.parse (rest.map Wo.wi)).2 = Except.error x := hx
      injection hx with hx
      exact ⟨hx.symm, hne⟩
  · unfold Tm.pipe at hx
    dsimp only at hx
    split at hx
    · rename_i h0
      have hx : Except.ok (It.mk k t (Pi.parse (rest.map Wo.wi)).1 [] [], i) = Except.ok (x, j') := hx
      injection hx with hx
      injection hx with h1 h3
      subst h1 h3
      refine ⟨h0, rfl, Nat.le_refl _, hi, ?_⟩
      rw [It.dt_mk]
      exact ⟨Mt.i, Mt.s, hl.on fun b hb => ⟨⟨by omega, hb.2⟩, rfl⟩, Mt.n, Mt.n, trivial⟩
    · cases hx
set_option maxRecDepth 100000 in
set_option maxHeartbeats 4000000 in
theorem Tr.item_if (t : ByteArray) (ws : List Wo) (v : Value) (R : Nat → Prop) (ps : List Pc) (n deep : Nat) (loop : Bool) (i g : Nat) (pv : Value) (w : World) (HRW : Tr.Rows ps g pv n) (hA : Tr.At w g pv i 0) (hP : Pc.Lies w (fun k => k < w.heap.size ∧ k ≠ g) ps pv) (h : Wo.Lies w R ws v) (hz : Tm.Fit ws) (hd : deep ≤ 16) (hi : i ≤ ps.length) (hn : ps.length < i + n) (ht : t.data.toList = Tm.sIf) (hne : ws ≠ []) :
    Calls Tryz.prog 37 #[.pointer (some ⟨g, 0, none⟩), .string t, v, .int .i64 (deep : Int), .bool loop] w fun e w' => Tr.IOut (Tm.item (fun d l j => Tm.rows ps n d l j []) t.data.toList ws deep loop i) ps.length i w g pv e w' := by
  have hgw := hA.lt
  obtain ⟨W0, hW0⟩ : ∃ W0, w.alloc (.cells #[.int .i64 0, .string ⟨#[]⟩, .slice none 0 0, .slice none 0 0, .slice none 0 0] 37) = W0 := ⟨_, rfl⟩
  have hb0 : Below w.heap.size w W0 := by rw [← hW0]; exact (Below.refl _ w).alloc (Nat.le_refl _) _
  have HS0 : Hid (Tr.Ik w W0 g pv i 0) := ⟨hA.then hb0, by rw [← hW0]; exact Bs.Box.new _ _ _ _ rfl, (Cu.Kept.refl _ _).then hb0, hgw⟩
  have HP0 := Lib.hid (Tr.pcs hP HS0.out.kept)
  have hw0 : Wo.Lies W0 (fun _ => True) ws v := by
    obtain ⟨a, d, e, h1, h2, hx⟩ := h
    refine ⟨a, d, e, h1, h2, fun q x hq => ?_⟩
    obtain ⟨b, o, pv2, ea, _, c0, c1, c2, c3, hl⟩ := hx q x hq
    refine ⟨b, o, pv2, ea, trivial, Tp.keep hb0 c0, Tp.keep hb0 c1, Tp.keep hb0 c2, Tp.keep hb0 c3, ?_⟩
    obtain ⟨a5, d5, e5, h15, h25, hx5⟩ := hl
    refine ⟨a5, d5, e5, h15, h25, fun q5 t5 hq5 => ?_⟩
    obtain ⟨b5, o5, ea5, _, c5⟩ := hx5 q5 t5 hq5
    exact ⟨b5, o5, ea5, trivial, Tp.keep hb0 c5⟩
  have hdt := hw0.data
  obtain ⟨G, hG⟩ : ∃ G, Tm.item (fun d l j => Tm.rows ps n d l j []) t.data.toList ws deep loop i = G := ⟨_, rfl⟩
  rw [hG]
  unfold Tm.item at hG
  have HW := Lib.hid hW0
  have HRR := Lib.hid HRW
  clear hA hP h hb0 hW0 HRW
  rw [ht] at hG
  have hG2 : Tm.block (fun d l j => Tm.rows ps n d l j []) 3 (ws.drop 1) deep loop i = G := hG
  obtain rfl : t = ⟨#[105, 102]⟩ := Tm.is t _ ht
  clear ht
  obtain ⟨a, d, rfl, hd1, hd2, hx⟩ := hw0
  have hl0 : 0 < ws.length := List.length_pos_iff.2 hne
  obtain ⟨b, o, _, rfl, _⟩ := hx 0 ws[0] (List.getElem?_eq_getElem hl0)
  have bk := Tr.block 3 (ws.drop 1) (.slice (some ⟨b, o + 4, none⟩) (ws.length - 1) (d - 1)) (fun _ => True) ps n deep loop i g pv W0 HRR.out HS0.out.at_ HP0.out (by
    have hml : (ws.map Wo.wi).length = ws.length := List.length_map _
    have hdt2 := hdt
    rw [← hml] at hdt2
    have := Wi.part hdt2 1 ws.length (by omega) (Nat.le_of_eq hml.symm)
    rw [show (ws.drop 1).map Wo.wi = (List.drop 1 (ws.map Wo.wi)).take (ws.length - 1) by rw [List.map_drop]; exact (List.take_of_length_le (by rw [List.length_drop, List.length_map]; exact Nat.le_refl _)).symm]
    rw [show o + 1 * 4 = o + 4 by omega] at this
    exact this) (hz.drop 1) hd hi hn
  have bk0 : d = 1 → Calls Tryz.prog 63 #[.pointer (some ⟨g, 0, none⟩), .agg #[.int .i64 3, .string ⟨#[]⟩, .slice none 0 0, .slice none 0 0, .slice none 0 0], .slice (some ⟨b, o, none⟩) 0 0, .int .i64 (deep : Int), .bool loop] W0 fun e w' => Tr.IOut (Tm.block (fun d l j => Tm.rows ps n d l j []) 3 (ws.drop 1) deep loop i) ps.length i W0 g pv e w' := fun hd0 => by
    have hw1 : ws.length = 1 := by omega
    exact Tr.block 3 (ws.drop 1) (.slice (some ⟨b, o, none⟩) 0 0) (fun _ => True) ps n deep loop i g pv W0 HRR.out HS0.out.at_ HP0.out (by
      have e0 : ws.drop 1 = [] := List.eq_nil_of_length_eq_zero (by rw [List.length_drop]; omega)
      rw [e0, List.map_nil]
      unfold Wi.rows Dt.rows Dt.flat Dt.Lies
      exact ⟨_, _, rfl, Nat.le_refl _, Nat.zero_le _, fun q hq => by simp at hq⟩) (hz.drop 1) hd hi hn
  rw [hG2] at bk bk0
  have HDT := Lib.hid hdt
  clear hG hG2 hdt HRR hx
  have hw0 := HW.out
  have hdd : d = 1 ∨ (¬ d = 1 ∧ 1 < d) := by omega
  rcases hdd with hdd | ⟨hdd, hdd2⟩
  · skip
    have bk1 := bk0 hdd
    subst hdd
    have hw1 : ws.length = 1 := by omega
    rw [hw1]
    clear bk bk0
    go_enter Tryz.func37, Tryz.ntmps37
    go_upto_region 15 with fail
    try rw [HW.out]
    clear hw0
    obtain ⟨x0, x1, x2, x3, x4, xf⟩ := Tr.cells5 HS0.out.v
    go_wp2_with (go_at_call 63; refine bk1.mono ?_; rintro e w1 ⟨⟨k, tt, a2, n2, d2, a3, n3, d3, a4, n4, d4, rfl, k1, er, ok⟩⟩; have HV1 := Lib.hid (Tr.box_kept HS0.out.v k1 (by have := HS0.out.lt; omega)); have HK1 := Lib.hid k1; have ER := Lib.hid er; have OK := Lib.hid ok; clear k1 er ok bk1 x0 x1 x2 x3 x4 xf; obtain ⟨x0, x1, x2, x3, x4, xf⟩ := Tr.cells5 HV1.out)
    obtain ⟨W, hW, hX, hq, hz9, ho, ht9, hu⟩ := Tr.five HV1.out (.int .i64 k) (.string tt) (.slice a2 n2 d2) (.slice a3 n3 d3) (.slice a4 n4 d4)
    rw [hW]
    obtain ⟨z0, z1, z2, z3, z4, -⟩ := Tr.cells5 hX
    refine bodyPost_ret (v := .agg #[.int .i64 k, .string tt, .slice a2 n2 d2, .slice a3 n3 d3, .slice a4 n4 d4]) (by simp [results, Tryz.results37, go_sem, z0, z1, z2, z3, z4]) rfl ?_
    exact Tr.IOut.pass HS0.out HK1.out ER.out OK.out hq hz9 ho ht9 hu
  · skip
    have bk1 := bk
    clear bk bk0
    go_enter Tryz.func37, Tryz.ntmps37
    go_upto_region 15 with fail
    try rw [HW.out]
    clear hw0
    obtain ⟨x0, x1, x2, x3, x4, xf⟩ := Tr.cells5 HS0.out.v
    go_wp2_with (go_at_call 63; refine bk1.mono ?_; rintro e w1 ⟨⟨k, tt, a2, n2, d2, a3, n3, d3, a4, n4, d4, rfl, k1, er, ok⟩⟩; have HV1 := Lib.hid (Tr.box_kept HS0.out.v k1 (by have := HS0.out.lt; omega)); have HK1 := Lib.hid k1; have ER := Lib.hid er; have OK := Lib.hid ok; clear k1 er ok bk1 x0 x1 x2 x3 x4 xf; obtain ⟨x0, x1, x2, x3, x4, xf⟩ := Tr.cells5 HV1.out)
    obtain ⟨W, hW, hX, hq, hz9, ho, ht9, hu⟩ := Tr.five HV1.out (.int .i64 k) (.string tt) (.slice a2 n2 d2) (.slice a3 n3 d3) (.slice a4 n4 d4)
    rw [hW]
    obtain ⟨z0, z1, z2, z3, z4, -⟩ := Tr.cells5 hX
    refine bodyPost_ret (v := .agg #[.int .i64 k, .string tt, .slice a2 n2 d2, .slice a3 n3 d3, .slice a4 n4 d4]) (by simp [results, Tryz.results37, go_sem, z0, z1, z2, z3, z4]) rfl ?_
    exact Tr.IOut.pass HS0.out HK1.out ER.out OK.out hq hz9 ho ht9 hu
set_option maxRecDepth 100000 in
set_option maxHeartbeats 4000000 in
theorem Tr.item_with (t : ByteArray) (ws : List Wo) (v : Value) (R : Nat → Prop) (ps : List Pc) (n deep : Nat) (loop : Bool) (i g : Nat) (pv : Value) (w : World) (HRW : Tr.Rows ps g pv n) (hA : Tr.At w g pv i 0) (hP : Pc.Lies w (fun k => k < w.heap.size ∧ k ≠ g) ps pv) (h : Wo.Lies w R ws v) (hz : Tm.Fit ws) (hd : deep ≤ 16) (hi : i ≤ ps.length) (hn : ps.length < i + n) (ht : t.data.toList = Tm.sWith) (hne : ws ≠ []) :
    Calls Tryz.prog 37 #[.pointer (some ⟨g, 0, none⟩), .string t, v, .int .i64 (deep : Int), .bool loop] w fun e w' => Tr.IOut (Tm.item (fun d l j => Tm.rows ps n d l j []) t.data.toList ws deep loop i) ps.length i w g pv e w' := by
  have hgw := hA.lt
  obtain ⟨W0, hW0⟩ : ∃ W0, w.alloc (.cells #[.int .i64 0, .string ⟨#[]⟩, .slice none 0 0, .slice none 0 0, .slice none 0 0] 37) = W0 := ⟨_, rfl⟩
  have hb0 : Below w.heap.size w W0 := by rw [← hW0]; exact (Below.refl _ w).alloc (Nat.le_refl _) _
  have HS0 : Hid (Tr.Ik w W0 g pv i 0) := ⟨hA.then hb0, by rw [← hW0]; exact Bs.Box.new _ _ _ _ rfl, (Cu.Kept.refl _ _).then hb0, hgw⟩
  have HP0 := Lib.hid (Tr.pcs hP HS0.out.kept)
  have hw0 : Wo.Lies W0 (fun _ => True) ws v := by
    obtain ⟨a, d, e, h1, h2, hx⟩ := h
    refine ⟨a, d, e, h1, h2, fun q x hq => ?_⟩
    obtain ⟨b, o, pv2, ea, _, c0, c1, c2, c3, hl⟩ := hx q x hq
    refine ⟨b, o, pv2, ea, trivial, Tp.keep hb0 c0, Tp.keep hb0 c1, Tp.keep hb0 c2, Tp.keep hb0 c3, ?_⟩
    obtain ⟨a5, d5, e5, h15, h25, hx5⟩ := hl
    refine ⟨a5, d5, e5, h15, h25, fun q5 t5 hq5 => ?_⟩
    obtain ⟨b5, o5, ea5, _, c5⟩ := hx5 q5 t5 hq5
    exact ⟨b5, o5, ea5, trivial, Tp.keep hb0 c5⟩
  have hdt := hw0.data
  obtain ⟨G, hG⟩ : ∃ G, Tm.item (fun d l j => Tm.rows ps n d l j []) t.data.toList ws deep loop i = G := ⟨_, rfl⟩
  rw [hG]
  unfold Tm.item at hG
  have HW := Lib.hid hW0
  have HRR := Lib.hid HRW
  clear hA hP h hb0 hW0 HRW
  rw [ht] at hG
  have hG2 : Tm.block (fun d l j => Tm.rows ps n d l j []) 4 (ws.drop 1) deep loop i = G := hG
  obtain rfl : t = ⟨#[119, 105, 116, 104]⟩ := Tm.is t _ ht
  clear ht
  obtain ⟨a, d, rfl, hd1, hd2, hx⟩ := hw0
  have hl0 : 0 < ws.length := List.length_pos_iff.2 hne
  obtain ⟨b, o, _, rfl, _⟩ := hx 0 ws[0] (List.getElem?_eq_getElem hl0)
  have bk := Tr.block 4 (ws.drop 1) (.slice (some ⟨b, o + 4, none⟩) (ws.length - 1) (d - 1)) (fun _ => True) ps n deep loop i g pv W0 HRR.out HS0.out.at_ HP0.out (by
    have hml : (ws.map Wo.wi).length = ws.length := List.length_map _
    have hdt2 := hdt
    rw [← hml] at hdt2
    have := Wi.part hdt2 1 ws.length (by omega) (Nat.le_of_eq hml.symm)
    rw [show (ws.drop 1).map Wo.wi = (List.drop 1 (ws.map Wo.wi)).take (ws.length - 1) by rw [List.map_drop]; exact (List.take_of_length_le (by rw [List.length_drop, List.length_map]; exact Nat.le_refl _)).symm]
    rw [show o + 1 * 4 = o + 4 by omega] at this
    exact this) (hz.drop 1) hd hi hn
  have bk0 : d = 1 → Calls Tryz.prog 63 #[.pointer (some ⟨g, 0, none⟩), .agg #[.int .i64 4, .string ⟨#[]⟩, .slice none 0 0, .slice none 0 0, .slice none 0 0], .slice (some ⟨b, o, none⟩) 0 0, .int .i64 (deep : Int), .bool loop] W0 fun e w' => Tr.IOut (Tm.block (fun d l j => Tm.rows ps n d l j []) 4 (ws.drop 1) deep loop i) ps.length i W0 g pv e w' := fun hd0 => by
    have hw1 : ws.length = 1 := by omega
    exact Tr.block 4 (ws.drop 1) (.slice (some ⟨b, o, none⟩) 0 0) (fun _ => True) ps n deep loop i g pv W0 HRR.out HS0.out.at_ HP0.out (by
      have e0 : ws.drop 1 = [] := List.eq_nil_of_length_eq_zero (by rw [List.length_drop]; omega)
      rw [e0, List.map_nil]
      unfold Wi.rows Dt.rows Dt.flat Dt.Lies
      exact ⟨_, _, rfl, Nat.le_refl _, Nat.zero_le _, fun q hq => by simp at hq⟩) (hz.drop 1) hd hi hn
  rw [hG2] at bk bk0
  have HDT := Lib.hid hdt
  clear hG hG2 hdt HRR hx
  have hw0 := HW.out
  have hdd : d = 1 ∨ (¬ d = 1 ∧ 1 < d) := by omega
  rcases hdd with hdd | ⟨hdd, hdd2⟩
  · skip
    have bk1 := bk0 hdd
    subst hdd
    have hw1 : ws.length = 1 := by omega
    rw [hw1]
    clear bk bk0
    go_enter Tryz.func37, Tryz.ntmps37
    go_upto_region 17 with fail
    try rw [HW.out]
    clear hw0
    obtain ⟨x0, x1, x2, x3, x4, xf⟩ := Tr.cells5 HS0.out.v
    go_wp2_with (go_at_call 63; refine bk1.mono ?_; rintro e w1 ⟨⟨k, tt, a2, n2, d2, a3, n3, d3, a4, n4, d4, rfl, k1, er, ok⟩⟩; have HV1 := Lib.hid (Tr.box_kept HS0.out.v k1 (by have := HS0.out.lt; omega)); have HK1 := Lib.hid k1; have ER := Lib.hid er; have OK := Lib.hid ok; clear k1 er ok bk1 x0 x1 x2 x3 x4 xf; obtain ⟨x0, x1, x2, x3, x4, xf⟩ := Tr.cells5 HV1.out)
    obtain ⟨W, hW, hX, hq, hz9, ho, ht9, hu⟩ := Tr.five HV1.out (.int .i64 k) (.string tt) (.slice a2 n2 d2) (.slice a3 n3 d3) (.slice a4 n4 d4)
    rw [hW]
    obtain ⟨z0, z1, z2, z3, z4, -⟩ := Tr.cells5 hX
    refine bodyPost_ret (v := .agg #[.int .i64 k, .string tt, .slice a2 n2 d2, .slice a3 n3 d3, .slice a4 n4 d4]) (by simp [results, Tryz.results37, go_sem, z0, z1, z2, z3, z4]) rfl ?_
    exact Tr.IOut.pass HS0.out HK1.out ER.out OK.out hq hz9 ho ht9 hu
  · skip
    have bk1 := bk
    clear bk bk0
    go_enter Tryz.func37, Tryz.ntmps37
    go_upto_region 17 with fail
    try rw [HW.out]
    clear hw0
    obtain ⟨x0, x1, x2, x3, x4, xf⟩ := Tr.cells5 HS0.out.v
    go_wp2_with (go_at_call 63; refine bk1.mono ?_; rintro e w1 ⟨⟨k, tt, a2, n2, d2, a3, n3, d3, a4, n4, d4, rfl, k1, er, ok⟩⟩; have HV1 := Lib.hid (Tr.box_kept HS0.out.v k1 (by have := HS0.out.lt; omega)); have HK1 := Lib.hid k1; have ER := Lib.hid er; have OK := Lib.hid ok; clear k1 er ok bk1 x0 x1 x2 x3 x4 xf; obtain ⟨x0, x1, x2, x3, x4, xf⟩ := Tr.cells5 HV1.out)
    obtain ⟨W, hW, hX, hq, hz9, ho, ht9, hu⟩ := Tr.five HV1.out (.int .i64 k) (.string tt) (.slice a2 n2 d2) (.slice a3 n3 d3) (.slice a4 n4 d4)
    rw [hW]
    obtain ⟨z0, z1, z2, z3, z4, -⟩ := Tr.cells5 hX
    refine bodyPost_ret (v := .agg #[.int .i64 k, .string tt, .slice a2 n2 d2, .slice a3 n3 d3, .slice a4 n4 d4]) (by simp [results, Tryz.results37, go_sem, z0, z1, z2, z3, z4]) rfl ?_
    exact Tr.IOut.pass HS0.out HK1.out ER.out OK.out hq hz9 ho ht9 hu
set_option maxRecDepth 100000 in
set_option maxHeartbeats 4000000 in
theorem Tr.item_range (t : ByteArray) (ws : List Wo) (v : Value) (R : Nat → Prop) (ps : List Pc) (n deep : Nat) (loop : Bool) (i g : Nat) (pv : Value) (w : World) (HRW : Tr.Rows ps g pv n) (hA : Tr.At w g pv i 0) (hP : Pc.Lies w (fun k => k < w.heap.size ∧ k ≠ g) ps pv) (h : Wo.Lies w R ws v) (hz : Tm.Fit ws) (hd : deep ≤ 16) (hi : i ≤ ps.length) (hn : ps.length < i + n) (ht : t.data.toList = Tm.sRange) (hne : ws ≠ []) :
    Calls Tryz.prog 37 #[.pointer (some ⟨g, 0, none⟩), .string t, v, .int .i64 (deep : Int), .bool loop] w fun e w' => Tr.IOut (Tm.item (fun d l j => Tm.rows ps n d l j []) t.data.toList ws deep loop i) ps.length i w g pv e w' := by
  have hgw := hA.lt
  obtain ⟨W0, hW0⟩ : ∃ W0, w.alloc (.cells #[.int .i64 0, .string ⟨#[]⟩, .slice none 0 0, .slice none 0 0, .slice none 0 0] 37) = W0 := ⟨_, rfl⟩
  have hb0 : Below w.heap.size w W0 := by rw [← hW0]; exact (Below.refl _ w).alloc (Nat.le_refl _) _
  have HS0 : Hid (Tr.Ik w W0 g pv i 0) := ⟨hA.then hb0, by rw [← hW0]; exact Bs.Box.new _ _ _ _ rfl, (Cu.Kept.refl _ _).then hb0, hgw⟩
  have HP0 := Lib.hid (Tr.pcs hP HS0.out.kept)
  have hw0 : Wo.Lies W0 (fun _ => True) ws v := by
    obtain ⟨a, d, e, h1, h2, hx⟩ := h
    refine ⟨a, d, e, h1, h2, fun q x hq => ?_⟩
    obtain ⟨b, o, pv2, ea, _, c0, c1, c2, c3, hl⟩ := hx q x hq
    refine ⟨b, o, pv2, ea, trivial, Tp.keep hb0 c0, Tp.keep hb0 c1, Tp.keep hb0 c2, Tp.keep hb0 c3, ?_⟩
    obtain ⟨a5, d5, e5, h15, h25, hx5⟩ := hl
    refine ⟨a5, d5, e5, h15, h25, fun q5 t5 hq5 => ?_⟩
    obtain ⟨b5, o5, ea5, _, c5⟩ := hx5 q5 t5 hq5
    exact ⟨b5, o5, ea5, trivial, Tp.keep hb0 c5⟩
  have hdt := hw0.data
  obtain ⟨G, hG⟩ : ∃ G, Tm.item (fun d l j => Tm.rows ps n d l j []) t.data.toList ws deep loop i = G := ⟨_, rfl⟩
  rw [hG]
  unfold Tm.item at hG
  have HW := Lib.hid hW0
  have HRR := Lib.hid HRW
  clear hA hP h hb0 hW0 HRW
  rw [ht] at hG
  have hG2 : Tm.block (fun d l j => Tm.rows ps n d l j []) 5 (ws.drop 1) deep loop i = G := hG
  obtain rfl : t = ⟨#[114, 97, 110, 103, 101]⟩ := Tm.is t _ ht
  clear ht
  obtain ⟨a, d, rfl, hd1, hd2, hx⟩ := hw0
  have hl0 : 0 < ws.length := List.length_pos_iff.2 hne
  obtain ⟨b, o, _, rfl, _⟩ := hx 0 ws[0] (List.getElem?_eq_getElem hl0)
  have bk := Tr.block 5 (ws.drop 1) (.slice (some ⟨b, o + 4, none⟩) (ws.length - 1) (d - 1)) (fun _ => True) ps n deep loop i g pv W0 HRR.out HS0.out.at_ HP0.out (by
    have hml : (ws.map Wo.wi).length = ws.length := List.length_map _
    have hdt2 := hdt
    rw [← hml] at hdt2
    have := Wi.part hdt2 1 ws.length (by omega) (Nat.le_of_eq hml.symm)
    rw [show (ws.drop 1).map Wo.wi = (List.drop 1 (ws.map Wo.wi)).take (ws.length - 1) by rw [List.map_drop]; exact (List.take_of_length_le (by rw [List.length_drop, List.length_map]; exact Nat.le_refl _)).symm]
    rw [show o + 1 * 4 = o + 4 by omega] at this
    exact this) (hz.drop 1) hd hi hn
  have bk0 : d = 1 → Calls Tryz.prog 63 #[.pointer (some ⟨g, 0, none⟩), .agg #[.int .i64 5, .string ⟨#[]⟩, .slice none 0 0, .slice none 0 0, .slice none 0 0], .slice (some ⟨b, o, none⟩) 0 0, .int .i64 (deep : Int), .bool loop] W0 fun e w' => Tr.IOut (Tm.block (fun d l j => Tm.rows ps n d l j []) 5 (ws.drop 1) deep loop i) ps.length i W0 g pv e w' := fun hd0 => by
    have hw1 : ws.length = 1 := by omega
    exact Tr.block 5 (ws.drop 1) (.slice (some ⟨b, o, none⟩) 0 0) (fun _ => True) ps n deep loop i g pv W0 HRR.out HS0.out.at_ HP0.out (by
      have e0 : ws.drop 1 = [] := List.eq_nil_of_length_eq_zero (by rw [List.length_drop]; omega)
      rw [e0, List.map_nil]
      unfold Wi.rows Dt.rows Dt.flat Dt.Lies
      exact ⟨_, _, rfl, Nat.le_refl _, Nat.zero_le _, fun q hq => by simp at hq⟩) (hz.drop 1) hd hi hn
  rw [hG2] at bk bk0
  have HDT := Lib.hid hdt
  clear hG hG2 hdt HRR hx
  have hw0 := HW.out
  have hdd : d = 1 ∨ (¬ d = 1 ∧ 1 < d) := by omega
  rcases hdd with hdd | ⟨hdd, hdd2⟩
  · skip
    have bk1 := bk0 hdd
    subst hdd
    have hw1 : ws.length = 1 := by omega
    rw [hw1]
    clear bk bk0
    go_enter Tryz.func37, Tryz.ntmps37
    go_upto_region 19 with fail
    try rw [HW.out]
    clear hw0
    obtain ⟨x0, x1, x2, x3, x4, xf⟩ := Tr.cells5 HS0.out.v
    go_wp2_with (go_at_call 63; refine bk1.mono ?_; rintro e w1 ⟨⟨k, tt, a2, n2, d2, a3, n3, d3, a4, n4, d4, rfl, k1, er, ok⟩⟩; have HV1 := Lib.hid (Tr.box_kept HS0.out.v k1 (by have := HS0.out.lt; omega)); have HK1 := Lib.hid k1; have ER := Lib.hid er; have OK := Lib.hid ok; clear k1 er ok bk1 x0 x1 x2 x3 x4 xf; obtain ⟨x0, x1, x2, x3, x4, xf⟩ := Tr.cells5 HV1.out)
    obtain ⟨W, hW, hX, hq, hz9, ho, ht9, hu⟩ := Tr.five HV1.out (.int .i64 k) (.string tt) (.slice a2 n2 d2) (.slice a3 n3 d3) (.slice a4 n4 d4)
    rw [hW]
    obtain ⟨z0, z1, z2, z3, z4, -⟩ := Tr.cells5 hX
    refine bodyPost_ret (v := .agg #[.int .i64 k, .string tt, .slice a2 n2 d2, .slice a3 n3 d3, .slice a4 n4 d4]) (by simp [results, Tryz.results37, go_sem, z0, z1, z2, z3, z4]) rfl ?_
    exact Tr.IOut.pass HS0.out HK1.out ER.out OK.out hq hz9 ho ht9 hu
  · skip
    have bk1 := bk
    clear bk bk0
    go_enter Tryz.func37, Tryz.ntmps37
    go_upto_region 19 with fail
    try rw [HW.out]
    clear hw0
    obtain ⟨x0, x1, x2, x3, x4, xf⟩ := Tr.cells5 HS0.out.v
    go_wp2_with (go_at_call 63; refine bk1.mono ?_; rintro e w1 ⟨⟨k, tt, a2, n2, d2, a3, n3, d3, a4, n4, d4, rfl, k1, er, ok⟩⟩; have HV1 := Lib.hid (Tr.box_kept HS0.out.v k1 (by have := HS0.out.lt; omega)); have HK1 := Lib.hid k1; have ER := Lib.hid er; have OK := Lib.hid ok; clear k1 er ok bk1 x0 x1 x2 x3 x4 xf; obtain ⟨x0, x1, x2, x3, x4, xf⟩ := Tr.cells5 HV1.out)
    obtain ⟨W, hW, hX, hq, hz9, ho, ht9, hu⟩ := Tr.five HV1.out (.int .i64 k) (.string tt) (.slice a2 n2 d2) (.slice a3 n3 d3) (.slice a4 n4 d4)
    rw [hW]
    obtain ⟨z0, z1, z2, z3, z4, -⟩ := Tr.cells5 hX
    refine bodyPost_ret (v := .agg #[.int .i64 k, .string tt, .slice a2 n2 d2, .slice a3 n3 d3, .slice a4 n4 d4]) (by simp [results, Tryz.results37, go_sem, z0, z1, z2, z3, z4]) rfl ?_
    exact Tr.IOut.pass HS0.out HK1.out ER.out OK.out hq hz9 ho ht9 hu
set_option maxRecDepth 100000 in
set_option maxHeartbeats 4000000 in
theorem Tr.item_tmpl (t : ByteArray) (ws : List Wo) (v : Value) (R : Nat → Prop) (ps : List Pc) (n deep : Nat) (loop : Bool) (i g : Nat) (pv : Value) (w : World) (HRW : Tr.Rows ps g pv n) (hA : Tr.At w g pv i 0) (hP : Pc.Lies w (fun k => k < w.heap.size ∧ k ≠ g) ps pv) (h : Wo.Lies w R ws v) (hz : Tm.Fit ws) (_hd : deep ≤ 16) (hi : i ≤ ps.length) (_hn : ps.length < i + n) (ht : t.data.toList = Tm.sTmpl) (hne : ws ≠ []) :
    Calls Tryz.prog 37 #[.pointer (some ⟨g, 0, none⟩), .string t, v, .int .i64 (deep : Int), .bool loop] w fun e w' => Tr.IOut (Tm.item (fun d l j => Tm.rows ps n d l j []) t.data.toList ws deep loop i) ps.length i w g pv e w' := by
  have hgw := hA.lt
  obtain ⟨W0, hW0⟩ : ∃ W0, w.alloc (.cells #[.int .i64 0, .string ⟨#[]⟩, .slice none 0 0, .slice none 0 0, .slice none 0 0] 37) = W0 := ⟨_, rfl⟩
  have hb0 : Below w.heap.size w W0 := by rw [← hW0]; exact (Below.refl _ w).alloc (Nat.le_refl _) _
  have HS0 : Hid (Tr.Ik w W0 g pv i 0) := ⟨hA.then hb0, by rw [← hW0]; exact Bs.Box.new _ _ _ _ rfl, (Cu.Kept.refl _ _).then hb0, hgw⟩
  have HP0 := Lib.hid (Tr.pcs hP HS0.out.kept)
  have hw0 : Wo.Lies W0 (fun _ => True) ws v := by
    obtain ⟨a, d, e, h1, h2, hx⟩ := h
    refine ⟨a, d, e, h1, h2, fun q x hq => ?_⟩
    obtain ⟨b, o, pv2, ea, _, c0, c1, c2, c3, hl⟩ := hx q x hq
    refine ⟨b, o, pv2, ea, trivial, Tp.keep hb0 c0, Tp.keep hb0 c1, Tp.keep hb0 c2, Tp.keep hb0 c3, ?_⟩
    obtain ⟨a5, d5, e5, h15, h25, hx5⟩ := hl
    refine ⟨a5, d5, e5, h15, h25, fun q5 t5 hq5 => ?_⟩
    obtain ⟨b5, o5, ea5, _, c5⟩ := hx5 q5 t5 hq5
    exact ⟨b5, o5, ea5, trivial, Tp.keep hb0 c5⟩
  have hdt := hw0.data
  obtain ⟨G, hG⟩ : ∃ G, Tm.item (fun d l j => Tm.rows ps n d l j []) t.data.toList ws deep loop i = G := ⟨_, rfl⟩
  rw [hG]
  unfold Tm.item at hG
  have HW := Lib.hid hW0
  have HRR := Lib.hid HRW
  clear hA hP h hb0 hW0 HRW
  rw [ht] at hG
  obtain rfl : t = ⟨#[116, 101, 109, 112, 108, 97, 116, 101]⟩ := Tm.is t _ ht
  clear ht
  obtain ⟨a, d, rfl, hd1, hd2, hx⟩ := hw0
  have hl0 : 0 < ws.length := List.length_pos_iff.2 hne
  obtain ⟨b, o, _, rfl, _⟩ := hx 0 ws[0] (List.getElem?_eq_getElem hl0)
  have HDT := Lib.hid hdt
  have HX := Lib.hid hx
  clear hx hdt
  by_cases hl1 : ws.length < 2
  · have hG2 : .error 1604 = G := by
      rw [← hG]
      match ws, hl1, hl0 with
      | [y], _, _ => rfl
    subst hG2
    have dl : decide ((ws.length : Int) < 2) = true := decide_eq_true (by omega)
    have dln : decide (ws.length < 2) = true := decide_eq_true hl1
    clear hG HDT HX HRR
    have hw0 := HW.out
    have f := HS0.out.at_.fz
    have c2 := HS0.out.at_.c2
    go_enter Tryz.func37, Tryz.ntmps37
    go_upto_region 9 with fail
    try rw [HW.out]
    have HS1 : Hid (Tr.Ik w (W0.setCell ⟨g, 2, none⟩ (.int .i64 1604)) g pv i 1604) := ⟨HS0.out.at_.set2 1604, (Below.heap_setCell _ _ _ _ (by show w.heap.size ≠ g; omega)).trans HS0.out.v, HS0.out.kept.set _ _, hgw⟩
    clear hw0 f c2 HW HP0 HS0
    generalize W0.setCell ⟨g, 2, none⟩ (.int .i64 1604) = W1 at *
    have ⟨y0, y1, y2, y3, y4, yf⟩ := Tr.cells5 HS1.out.v
    go_wp2_with fail
    obtain ⟨W, hW, hX, hq, hz9, ho, ht9, hu⟩ := Tr.five HS1.out.v (.int .i64 0) (.string ⟨#[]⟩) (.slice none 0 0) (.slice none 0 0) (.slice none 0 0)
    rw [hW]
    obtain ⟨z0, z1, z2, z3, z4, -⟩ := Tr.cells5 hX
    refine bodyPost_ret (v := .agg #[.int .i64 0, .string ⟨#[]⟩, .slice none 0 0, .slice none 0 0, .slice none 0 0]) (by simp [results, Tryz.results37, go_sem, z0, z1, z2, z3, z4]) rfl ?_
    exact HS1.out.done hq hz9 ho ht9 hu (fun x hx => by injection hx with hx; exact ⟨hx.symm, by decide⟩) (fun x j' hx => by cases hx)
  · obtain ⟨x, hxx⟩ : ∃ x, ws[1]? = some x := ⟨ws[1], List.getElem?_eq_getElem (by omega)⟩
    obtain ⟨b1, o1, pv1, e1, _, c10, c11, _, _, _⟩ := HX.out 1 x hxx
    injection e1 with e1
    injection e1 with e2 e3
    subst e2 e3
    rw [show o + 1 * 4 = o + 4 by omega] at c10 c11
    have dl : decide ((ws.length : Int) < 2) = false := decide_eq_false (by omega)
    have dln : decide (ws.length < 2) = false := decide_eq_false hl1
    have hl2 : 1 < ws.length := by omega
    have hl3 : ¬ (ws.length : Int) ≤ 1 := by omega
    have hws : ∃ y rest, ws = y :: x :: rest := by
      match ws, hl1, hxx with
      | y :: z :: rest, _, hxx => exact ⟨y, rest, by simp at hxx; rw [hxx]⟩
      | [y], hl1, _ => simp at hl1
      | [], hl1, _ => simp at hl1
    obtain ⟨y, rest, hws⟩ := hws
    have HWS := Lib.hid hws
    by_cases h4 : x.kind = 4
    · have k4 : ((x.kind : Int) == 4) = true := beq_iff_eq.2 (by omega)
      have k4b : ((x.kind : Int) != 4) = false := by rw [bne, k4]; rfl
      by_cases hr : ws.length = 2
      · have hG2 : .ok (It.mk 6 x.text [] [] [], i) = G := by
          have : rest = [] := by
            have := congrArg List.length hws
            simp at this
            exact List.eq_nil_of_length_eq_zero (by omega)
          rw [← hG, hws, this]
          simp only [h4]
          rfl
        subst hG2
        have l2 : ((ws.length : Int) == 2) = true := beq_iff_eq.2 (by omega)
        have l2n : (ws.length == 2) = true := beq_iff_eq.2 hr
        clear hG hws h4 hr HDT HX HRR hl1 hxx
        have hw0 := HW.out
        go_enter Tryz.func37, Tryz.ntmps37
        go_upto_region 11 with fail
        try rw [HW.out]
        have HS1 : Hid (Tr.Ik w (W0.alloc (.cells #[.int .i64 6, .string ⟨x.text.toArray⟩, .slice none 0 0, .slice none 0 0, .slice none 0 0] 37)) g pv i 0) := ⟨HS0.out.at_.then ((Below.refl _ _).alloc (Nat.le_refl _) _), HS0.out.v.alloc _, HS0.out.kept.alloc _, hgw⟩
        have HV1 : Hid (Bs.Box (W0.alloc (.cells #[.int .i64 6, .string ⟨x.text.toArray⟩, .slice none 0 0, .slice none 0 0, .slice none 0 0] 37)) W0.heap.size #[.int .i64 6, .string ⟨x.text.toArray⟩, .slice none 0 0, .slice none 0 0, .slice none 0 0] 37) := Bs.Box.new _ _ _ _ rfl
        have hne9 : ¬ w.heap.size = W0.heap.size := by have := HS0.out.hi; omega
        clear hw0 HW HP0 HS0 c10 c11
        generalize W0.alloc (.cells #[.int .i64 6, .string ⟨x.text.toArray⟩, .slice none 0 0, .slice none 0 0, .slice none 0 0] 37) = W1 at *
        generalize W0.heap.size = V at *
        obtain ⟨v0, v1, v2, v3, v4, -⟩ := Tr.cells5 HV1.out
        have ⟨y0, y1, y2, y3, y4, yf⟩ := Tr.cells5 HS1.out.v
        go_wp2_with fail
        obtain ⟨W, hW, hX, hq, hz9, ho, ht9, hu⟩ := Tr.five HS1.out.v (.int .i64 6) (.string ⟨x.text.toArray⟩) (.slice none 0 0) (.slice none 0 0) (.slice none 0 0)
        rw [hW]
        obtain ⟨z0, z1, z2, z3, z4, -⟩ := Tr.cells5 hX
        refine bodyPost_ret (v := .agg #[.int .i64 6, .string ⟨x.text.toArray⟩, .slice none 0 0, .slice none 0 0, .slice none 0 0]) (by simp [results, Tryz.results37, go_sem, z0, z1, z2, z3, z4]) rfl ?_
        exact HS1.out.done hq hz9 ho ht9 hu (fun x hx => by cases hx) (fun x j' hx => by injection hx with hx; injection hx with h1 h2; subst h1 h2; exact ⟨rfl, rfl, Nat.le_refl _, hi, by rw [It.dt_mk]; exact ⟨Mt.i, Mt.s, Mt.n, Mt.n, Mt.n, trivial⟩⟩)
      · have l2 : ((ws.length : Int) == 2) = false := beq_eq_false_iff_ne.2 (by omega)
        have l2n : (ws.length == 2) = false := beq_eq_false_iff_ne.2 hr
        have hl4 : 2 < ws.length := by omega
        have hdr : ws.drop 2 = rest := by rw [hws]; rfl
        have hrn : rest ≠ [] := fun q => by rw [q] at hws; have := congrArg List.length hws; simp at this; omega
        have hG2 : ((Tm.pipe 6 x.text rest).map fun y => (y, i)) = G := by
          rw [← hG, hws]
          simp only [h4]
          show _ = if rest = [] then _ else _
          rw [if_neg hrn]
        subst hG2
        have hml : (ws.map Wo.wi).length = ws.length := List.length_map _
        have hdt2 := HDT.out
        rw [← hml] at hdt2
        have hpt := Wi.part hdt2 2 ws.length (by omega) (Nat.le_of_eq hml.symm)
        rw [show (List.drop 2 (ws.map Wo.wi)).take (ws.length - 2) = rest.map Wo.wi by rw [← List.map_drop, hdr]; exact List.take_of_length_le (by rw [← hdr, List.length_map, List.length_drop]; exact Nat.le_refl _), show o + 2 * 4 = o + 8 by omega] at hpt
        have hrz : Tm.Fit rest := by rw [← hdr]; exact hz.drop 2
        clear hG hws h4 hr HDT HX HRR hl1 hxx hdt2 hdr hrn hml
        have HPT := Lib.hid hpt
        clear hpt
        have hw0 := HW.out
        go_enter Tryz.func37, Tryz.ntmps37
        go_upto_region 11 with fail
        try rw [HW.out]
        have HS1 : Hid (Tr.Ik w (W0.alloc (.cells #[.int .i64 6, .string ⟨x.text.toArray⟩, .slice none 0 0, .slice none 0 0, .slice none 0 0] 37)) g pv i 0) := ⟨HS0.out.at_.then ((Below.refl _ _).alloc (Nat.le_refl _) _), HS0.out.v.alloc _, HS0.out.kept.alloc _, hgw⟩
        have HV1 : Hid (Bs.Box (W0.alloc (.cells #[.int .i64 6, .string ⟨x.text.toArray⟩, .slice none 0 0, .slice none 0 0, .slice none 0 0] 37)) W0.heap.size #[.int .i64 6, .string ⟨x.text.toArray⟩, .slice none 0 0, .slice none 0 0, .slice none 0 0] 37) := Bs.Box.new _ _ _ _ rfl
        have HPT1 := Lib.hid (HPT.out.later ((Below.refl W0.heap.size W0).alloc (Nat.le_refl _) (.cells #[.int .i64 6, .string ⟨x.text.toArray⟩, .slice none 0 0, .slice none 0 0, .slice none 0 0] 37)))
        have hne9 : ¬ w.heap.size = W0.heap.size := by have := HS0.out.hi; omega
        clear hw0 HW HP0 HS0 c10 c11 HPT
        generalize W0.alloc (.cells #[.int .i64 6, .string ⟨x.text.toArray⟩, .slice none 0 0, .slice none 0 0, .slice none 0 0] 37) = W1 at *
        generalize W0.heap.size = V at *
        obtain ⟨v0, v1, v2, v3, v4, -⟩ := Tr.cells5 HV1.out
        go_upto_region 13 with fail
        have HSD : Hid (Tr.Ik w W1.drew g pv i 0) := ⟨HS1.out.at_.drewN 1, HS1.out.v, HS1.out.kept.drewN 1, hgw⟩
        have pc := Tr.pipe 6 ⟨x.text.toArray⟩ rest (.slice (some ⟨b, o + 8, none⟩) (ws.length - 2) (d - 2)) (fun _ => True) g i pv W1.drew HSD.out.at_ (Dt.Lies.on (w := W1) (w' := W1.drew) (R' := fun _ => True) (fun k hk => ⟨hk, rfl⟩) HPT1.out) hrz
        clear HS1 HV1 HPT1
        go_region_with (go_at_call 62; refine pc.mono ?_; rintro e w2 ⟨a2, n2, d2, rfl, hat, hk2, hlq⟩; have HV2 := Lib.hid (Tr.box_kept HSD.out.v hk2 (by omega)); obtain ⟨x0, x1, x2, x3, x4, xf⟩ := Tr.cells5 HV2.out; have HAT := Lib.hid hat; have HK2 := Lib.hid hk2; have HL2 := Lib.hid hlq; clear hat hk2 hlq pc)
        all_goals go_wp2_with fail
        all_goals
          obtain ⟨W, hW, hX, hq, hz9, ho, ht9, hu⟩ := Tr.five HV2.out (.int .i64 6) (.string ⟨x.text.toArray⟩) (.slice a2 n2 d2) (.slice none 0 0) (.slice none 0 0)
          rw [hW]
          obtain ⟨z0, z1, z2, z3, z4, -⟩ := Tr.cells5 hX
          refine bodyPost_ret (v := .agg #[.int .i64 6, .string ⟨x.text.toArray⟩, .slice a2 n2 d2, .slice none 0 0, .slice none 0 0]) (by simp [results, Tryz.results37, go_sem, z0, z1, z2, z3, z4]) rfl ?_
          exact HSD.out.piped hi HAT.out HK2.out HL2.out hq hz9 ho ht9 hu
    · have k4 : ((x.kind : Int) == 4) = false := beq_eq_false_iff_ne.2 (by omega)
      have k4b : ((x.kind : Int) != 4) = true := by rw [bne, k4]; rfl
      have hG2 : .error 1604 = G := by
        rw [← hG, hws]
        simp only [ne_eq, h4, not_false_eq_true, if_true]
        rfl
      subst hG2
      clear hG hws h4 HDT HX HRR hl1 hxx
      have hw0 := HW.out
      have f := HS0.out.at_.fz
      have c2 := HS0.out.at_.c2
      go_enter Tryz.func37, Tryz.ntmps37
      go_upto_region 9 with fail
      try rw [HW.out]
      have HS1 : Hid (Tr.Ik w (W0.setCell ⟨g, 2, none⟩ (.int .i64 1604)) g pv i 1604) := ⟨HS0.out.at_.set2 1604, (Below.heap_setCell _ _ _ _ (by show w.heap.size ≠ g; omega)).trans HS0.out.v, HS0.out.kept.set _ _, hgw⟩
      clear hw0 f c2 HW HP0 HS0
      generalize W0.setCell ⟨g, 2, none⟩ (.int .i64 1604) = W1 at *
      have ⟨y0, y1, y2, y3, y4, yf⟩ := Tr.cells5 HS1.out.v
      go_wp2_with fail
      obtain ⟨W, hW, hX, hq, hz9, ho, ht9, hu⟩ := Tr.five HS1.out.v (.int .i64 0) (.string ⟨#[]⟩) (.slice none 0 0) (.slice none 0 0) (.slice none 0 0)
      rw [hW]
      obtain ⟨z0, z1, z2, z3, z4, -⟩ := Tr.cells5 hX
      refine bodyPost_ret (v := .agg #[.int .i64 0, .string ⟨#[]⟩, .slice none 0 0, .slice none 0 0, .slice none 0 0]) (by simp [results, Tryz.results37, go_sem, z0, z1, z2, z3, z4]) rfl ?_
      exact HS1.out.done hq hz9 ho ht9 hu (fun x hx => by injection hx with hx; exact ⟨hx.symm, by decide⟩) (fun x j' hx => by cases hx)
set_option maxRecDepth 100000 in
set_option maxHeartbeats 4000000 in
theorem Tr.item_rest (t : ByteArray) (ws : List Wo) (v : Value) (R : Nat → Prop) (ps : List Pc) (n deep : Nat) (loop : Bool) (i g : Nat) (pv : Value) (w : World) (HRW : Tr.Rows ps g pv n) (hA : Tr.At w g pv i 0) (hP : Pc.Lies w (fun k => k < w.heap.size ∧ k ≠ g) ps pv) (h : Wo.Lies w R ws v) (hz : Tm.Fit ws) (_hd : deep ≤ 16) (hi : i ≤ ps.length) (_hn : ps.length < i + n) (hBreak : t.data.toList ≠ Tm.sBreak) (hCont : t.data.toList ≠ Tm.sCont) (hTmpl : t.data.toList ≠ Tm.sTmpl) (hIf : t.data.toList ≠ Tm.sIf) (hWith : t.data.toList ≠ Tm.sWith) (hRange : t.data.toList ≠ Tm.sRange) (hne : ws ≠ []) :
    Calls Tryz.prog 37 #[.pointer (some ⟨g, 0, none⟩), .string t, v, .int .i64 (deep : Int), .bool loop] w fun e w' => Tr.IOut (Tm.item (fun d l j => Tm.rows ps n d l j []) t.data.toList ws deep loop i) ps.length i w g pv e w' := by
  have hgw := hA.lt
  obtain ⟨W0, hW0⟩ : ∃ W0, w.alloc (.cells #[.int .i64 0, .string ⟨#[]⟩, .slice none 0 0, .slice none 0 0, .slice none 0 0] 37) = W0 := ⟨_, rfl⟩
  have hb0 : Below w.heap.size w W0 := by rw [← hW0]; exact (Below.refl _ w).alloc (Nat.le_refl _) _
  have HS0 : Hid (Tr.Ik w W0 g pv i 0) := ⟨hA.then hb0, by rw [← hW0]; exact Bs.Box.new _ _ _ _ rfl, (Cu.Kept.refl _ _).then hb0, hgw⟩
  have HP0 := Lib.hid (Tr.pcs hP HS0.out.kept)
  have hw0 : Wo.Lies W0 (fun _ => True) ws v := by
    obtain ⟨a, d, e, h1, h2, hx⟩ := h
    refine ⟨a, d, e, h1, h2, fun q x hq => ?_⟩
    obtain ⟨b, o, pv2, ea, _, c0, c1, c2, c3, hl⟩ := hx q x hq
    refine ⟨b, o, pv2, ea, trivial, Tp.keep hb0 c0, Tp.keep hb0 c1, Tp.keep hb0 c2, Tp.keep hb0 c3, ?_⟩
    obtain ⟨a5, d5, e5, h15, h25, hx5⟩ := hl
    refine ⟨a5, d5, e5, h15, h25, fun q5 t5 hq5 => ?_⟩
    obtain ⟨b5, o5, ea5, _, c5⟩ := hx5 q5 t5 hq5
    exact ⟨b5, o5, ea5, trivial, Tp.keep hb0 c5⟩
  have hdt := hw0.data
  obtain ⟨G, hG⟩ : ∃ G, Tm.item (fun d l j => Tm.rows ps n d l j []) t.data.toList ws deep loop i = G := ⟨_, rfl⟩
  rw [hG]
  unfold Tm.item at hG
  have HW := Lib.hid hW0
  have HRR := Lib.hid HRW
  clear hA hP h hb0 hW0 HRW
  rw [if_neg hBreak, if_neg hCont, if_neg hTmpl, if_neg hIf, if_neg hWith, if_neg hRange] at hG
  have eBreak : (t.toList == [98, 114, 101, 97, 107]) = false := by rw [ByteArray.toList_eq]; exact beq_eq_false_iff_ne.2 hBreak
  have eCont : (t.toList == [99, 111, 110, 116, 105, 110, 117, 101]) = false := by rw [ByteArray.toList_eq]; exact beq_eq_false_iff_ne.2 hCont
  have eTmpl : (t.toList == [116, 101, 109, 112, 108, 97, 116, 101]) = false := by rw [ByteArray.toList_eq]; exact beq_eq_false_iff_ne.2 hTmpl
  have eIf : (t.toList == [105, 102]) = false := by rw [ByteArray.toList_eq]; exact beq_eq_false_iff_ne.2 hIf
  have eWith : (t.toList == [119, 105, 116, 104]) = false := by rw [ByteArray.toList_eq]; exact beq_eq_false_iff_ne.2 hWith
  have eRange : (t.toList == [114, 97, 110, 103, 101]) = false := by rw [ByteArray.toList_eq]; exact beq_eq_false_iff_ne.2 hRange
  obtain ⟨a, d, rfl, hd1, hd2, hx⟩ := hw0
  have hl0 : 0 < ws.length := List.length_pos_iff.2 hne
  obtain ⟨x, hxx⟩ : ∃ x, ws[0]? = some x := ⟨ws[0], List.getElem?_eq_getElem hl0⟩
  obtain ⟨b, o, pv0, rfl, _, c00, c01, c02, _, lp0⟩ := hx 0 x hxx
  rw [show o + 0 * 4 = o by omega] at c00 c01 c02
  obtain ⟨ap, dp, rfl, _, _, _⟩ := id lp0
  have HDT := Lib.hid hdt
  have HX := Lib.hid hx
  clear hx hdt lp0 hBreak hCont hTmpl hIf hWith hRange
  have HH : Hid (∃ rest', ws = x :: rest') := by
    match ws, hne, hxx with
    | z :: rest, _, hxx => exact ⟨rest, by simp at hxx; rw [hxx]⟩
  obtain ⟨C, hC⟩ : ∃ C, (decide (1 < ws.length) && decide (x.kind = 2) && decide (x.path.length = 0) && (match ws[1]? with | some y => decide (y.kind = 6) | none => false)) = C := ⟨_, rfl⟩
  have HC := Lib.hid hC
  have HG := Lib.hid hG
  clear hC hG
  have hw0 := HW.out
  go_enter Tryz.func37, Tryz.ntmps37
  go_upto_region 20 with fail
  try rw [HW.out]
  clear hw0
  go_cut [100] from 76 to 113 (fun cv wx => cv = .bool C ∧ wx = W0)
  case first =>
    have hC := HC.out
    clear HC HG HRR HP0 HS0 HDT HH HW
    by_cases hl1 : 1 < ws.length
    · have dl : decide ((1 : Int) < (ws.length : Int)) = true := decide_eq_true (by omega)
      have dln : decide (1 < ws.length) = true := decide_eq_true hl1
      have hl3 : ¬ (ws.length : Int) ≤ 1 := by omega
      have hl4 : ¬ (ws.length : Int) ≤ 0 := by omega
      obtain ⟨y, hyy⟩ : ∃ y, ws[1]? = some y := ⟨ws[1], List.getElem?_eq_getElem hl1⟩
      obtain ⟨b1, o1, pv1, e1, _, c10, _⟩ := HX.out 1 y hyy
      injection e1 with e1
      injection e1 with e2 e3
      subst e2 e3
      rw [show o + 1 * 4 = o + 4 by omega] at c10
      rw [hyy, dln] at hC
      simp only [Bool.true_and] at hC
      clear HX hxx hyy
      by_cases k2 : x.kind = 2
      · have q2 : ((x.kind : Int) == 2) = true := beq_iff_eq.2 (by omega)
        rw [decide_eq_true k2, Bool.true_and] at hC
        clear k2
        by_cases hp : x.path.length = 0
        · have qp : ((x.path.length : Int) == 0) = true := beq_iff_eq.2 (by omega)
          have qpn : (x.path.length == 0) = true := beq_iff_eq.2 hp
          rw [decide_eq_true hp, Bool.true_and] at hC
          have HPP := Lib.hid hp
          clear hp
          generalize x.path.length = PL at *
          by_cases k6 : y.kind = 6
          · have q6 : ((y.kind : Int) == 6) = true := beq_iff_eq.2 (by omega)
            rw [decide_eq_true k6] at hC
            subst hC
            clear k6
            go_wp2_with fail
            go_meet
            exact ⟨rfl, by first | rfl | trivial⟩
          · have q6 : ((y.kind : Int) == 6) = false := beq_eq_false_iff_ne.2 (by omega)
            rw [decide_eq_false k6] at hC
            subst hC
            clear k6
            go_wp2_with fail
            go_meet
            exact ⟨rfl, by first | rfl | trivial⟩
        · have qp : ((x.path.length : Int) == 0) = false := beq_eq_false_iff_ne.2 (by omega)
          have qpn : (x.path.length == 0) = false := beq_eq_false_iff_ne.2 hp
          rw [decide_eq_false hp, Bool.false_and] at hC
          subst hC
          clear hp
          generalize x.path.length = PL at *
          go_wp2_with fail
          go_meet
          exact ⟨rfl, by first | rfl | trivial⟩
      · have q2 : ((x.kind : Int) == 2) = false := beq_eq_false_iff_ne.2 (by omega)
        rw [decide_eq_false k2, Bool.false_and, Bool.false_and] at hC
        subst hC
        clear k2
        go_wp2_with fail
        go_meet
        exact ⟨rfl, by first | rfl | trivial⟩
    · have dl : decide ((1 : Int) < (ws.length : Int)) = false := decide_eq_false (by omega)
      have dln : decide (1 < ws.length) = false := decide_eq_false hl1
      rw [dln, Bool.false_and, Bool.false_and, Bool.false_and] at hC
      subst hC
      go_wp2_with fail
      go_meet
      exact ⟨rfl, by first | rfl | trivial⟩
  case rest =>
    obtain ⟨rfl, hw⟩ := hcut
    have hw := hw.symm
    subst hw
    cases C with
    | false =>
      have hG2 : ((Tm.pipe 1 [] ws).map fun y => (y, i)) = G := by
        have hG := HG.out
        have hC := HC.out
        obtain ⟨rest', hr'⟩ := HH.out
        rw [hr'] at hG hC ⊢
        cases rest' with
        | nil => exact hG
        | cons y rest =>
          rw [← hG]
          dsimp only
          rw [if_neg]
          rintro ⟨h1, h2, h3⟩
          simp [h1, h2, h3] at hC
      subst hG2
      have hz2 := hz
      have HHD := HDT.out
      have pc := Tr.pipe 1 ⟨#[]⟩ ws (.slice (some ⟨b, o, none⟩) ws.length d) (fun _ => True) g i pv W0 HS0.out.at_ HHD hz2
      have HSD := HS0
      have hne9 : w.heap.size ≠ g := by omega
      clear HG HC HRR HP0 HDT HH HW HX HHD
      obtain ⟨x0, x1, x2, x3, x4, xf⟩ := Tr.cells5 HSD.out.v
      go_wp2_with (go_at_call 62; refine pc.mono ?_; rintro e w2 ⟨a2, n2, d2, rfl, hat, hk2, hlq⟩; have HV2 := Lib.hid (Tr.box_kept HSD.out.v hk2 (by omega)); obtain ⟨x0, x1, x2, x3, x4, xf⟩ := Tr.cells5 HV2.out; have HAT := Lib.hid hat; have HK2 := Lib.hid hk2; have HL2 := Lib.hid hlq; clear hat hk2 hlq pc)
      obtain ⟨W, hW, hX, hq, hz9, ho, ht9, hu⟩ := Tr.five HV2.out (.int .i64 1) (.string ⟨([] : List UInt8).toArray⟩) (.slice a2 n2 d2) (.slice none 0 0) (.slice none 0 0)
      rw [hW]
      obtain ⟨z0, z1, z2, z3, z4, -⟩ := Tr.cells5 hX
      refine bodyPost_ret (v := .agg #[.int .i64 1, .string ⟨([] : List UInt8).toArray⟩, .slice a2 n2 d2, .slice none 0 0, .slice none 0 0]) (by simp [results, Tryz.results37, go_sem, z0, z1, z2, z3, z4]) rfl ?_
      exact HSD.out.piped hi HAT.out HK2.out HL2.out hq hz9 ho ht9 hu
    | true =>
      have hC := HC.out
      simp only [Bool.and_eq_true, decide_eq_true_eq] at hC
      obtain ⟨⟨⟨hl1, k2⟩, hp⟩, k6⟩ := hC
      obtain ⟨y, hyy⟩ : ∃ y, ws[1]? = some y := ⟨ws[1], List.getElem?_eq_getElem hl1⟩
      rw [hyy] at k6
      have k6 : y.kind = 6 := of_decide_eq_true k6
      have hpn : x.path = [] := List.eq_nil_of_length_eq_zero hp
      obtain ⟨rest, hws⟩ : ∃ rest, ws = x :: y :: rest := by
        obtain ⟨rest', hr'⟩ := HH.out
        rw [hr'] at hyy
        cases rest' with
        | nil => simp at hyy
        | cons z rest => exact ⟨rest, by simp at hyy; rw [hr', hyy]⟩
      have hG2 : ((Tm.pipe 2 x.text rest).map fun y => (y, i)) = G := by
        have hG := HG.out
        rw [hws] at hG
        dsimp only at hG
        rw [if_pos ⟨k2, hpn, k6⟩] at hG
        exact hG
      subst hG2
      have hdr : ws.drop 2 = rest := by rw [hws]; rfl
      have hml : (ws.map Wo.wi).length = ws.length := List.length_map _
      have hdt2 := HDT.out
      rw [← hml] at hdt2
      have hpt := Wi.part hdt2 2 ws.length (by omega) (Nat.le_of_eq hml.symm)
      rw [show (List.drop 2 (ws.map Wo.wi)).take (ws.length - 2) = rest.map Wo.wi by rw [← List.map_drop, hdr]; exact List.take_of_length_le (by rw [← hdr, List.length_map, List.length_drop]; exact Nat.le_refl _), show o + 2 * 4 = o + 8 by omega] at hpt
      have hrz : Tm.Fit rest := by rw [← hdr]; exact hz.drop 2
      have HSD : Hid (Tr.Ik w W0.drew g pv i 0) := ⟨HS0.out.at_.drewN 1, HS0.out.v, HS0.out.kept.drewN 1, hgw⟩
      have pc1 := Tr.pipe 2 ⟨x.text.toArray⟩ rest (.slice (some ⟨b, o + 8, none⟩) (ws.length - 2) (d - 2)) (fun _ => True) g i pv W0.drew HSD.out.at_ (Dt.Lies.on (w := W0) (w' := W0.drew) (R' := fun _ => True) (fun k hk => ⟨hk, rfl⟩) hpt) hrz
      have pc0 : d = 2 → Calls Tryz.prog 62 #[.pointer (some ⟨g, 0, none⟩), .agg #[.int .i64 2, .string ⟨x.text.toArray⟩, .slice none 0 0, .slice none 0 0, .slice none 0 0], .slice (some ⟨b, o, none⟩) 0 0] W0.drew fun e w' => ∃ a n d, e = .returned (.agg #[.int .i64 2, .string ⟨x.text.toArray⟩, .slice a n d, .slice none 0 0, .slice none 0 0]) ∧ Tr.At w' g pv i (Pi.parse (rest.map Wo.wi)).2 ∧ Cu.Kept W0.drew w' g ∧ Dt.Lies w' (fun b => W0.drew.heap.size ≤ b ∧ b < w'.heap.size ∧ Rm.Ub w' b) (Cm.rows (Pi.parse (rest.map Wo.wi)).1) (.slice a n d) := fun hd0 => Tr.pipe 2 ⟨x.text.toArray⟩ rest (.slice (some ⟨b, o, none⟩) 0 0) (fun _ => True) g i pv W0.drew HSD.out.at_ (by
        have e0 : rest = [] := List.eq_nil_of_length_eq_zero (by rw [← hdr, List.length_drop]; omega)
        rw [e0, List.map_nil]
        unfold Wi.rows Dt.rows Dt.flat Dt.Lies
        exact ⟨_, _, rfl, Nat.le_refl _, Nat.zero_le _, fun q hq => by simp at hq⟩) hrz
      have hl2 : ¬ (ws.length : Int) ≤ 1 := by omega
      have hl3 : 2 ≤ ws.length := by omega
      have hne9 : w.heap.size ≠ g := by omega
      clear HG HC HRR HP0 HDT HH HW HX hws hdr hml hdt2 hpt k2 hp k6 hpn hyy hxx
      have hdd : d = 2 ∨ (¬ d = 2 ∧ 2 < d) := by omega
      rcases hdd with hdd | ⟨hdd, hdd2⟩
      · have pc := pc0 hdd
        have hw2 : ws.length = 2 := by omega
        clear pc0 pc1
        subst hdd
        rw [hw2]
        clear hw2
        go_upto_region 21 with fail
        go_region_with (go_at_call 62; refine pc.mono ?_; rintro e w2 ⟨a2, n2, d2, rfl, hat, hk2, hlq⟩; have HV2 := Lib.hid (Tr.box_kept HSD.out.v hk2 (by omega)); obtain ⟨x0, x1, x2, x3, x4, xf⟩ := Tr.cells5 HV2.out; have HAT := Lib.hid hat; have HK2 := Lib.hid hk2; have HL2 := Lib.hid hlq; clear hat hk2 hlq pc)
        all_goals go_wp2_with fail
        all_goals
          obtain ⟨W, hW, hX, hq, hz9, ho, ht9, hu⟩ := Tr.five HV2.out (.int .i64 2) (.string ⟨x.text.toArray⟩) (.slice a2 n2 d2) (.slice none 0 0) (.slice none 0 0)
          rw [hW]
          obtain ⟨z0, z1, z2, z3, z4, -⟩ := Tr.cells5 hX
          refine bodyPost_ret (v := .agg #[.int .i64 2, .string ⟨x.text.toArray⟩, .slice a2 n2 d2, .slice none 0 0, .slice none 0 0]) (by simp [results, Tryz.results37, go_sem, z0, z1, z2, z3, z4]) rfl ?_
          exact HSD.out.piped hi HAT.out HK2.out HL2.out hq hz9 ho ht9 hu
      · have pc := pc1
        clear pc0 pc1
        go_upto_region 21 with fail
        go_region_with (go_at_call 62; refine pc.mono ?_; rintro e w2 ⟨a2, n2, d2, rfl, hat, hk2, hlq⟩; have HV2 := Lib.hid (Tr.box_kept HSD.out.v hk2 (by omega)); obtain ⟨x0, x1, x2, x3, x4, xf⟩ := Tr.cells5 HV2.out; have HAT := Lib.hid hat; have HK2 := Lib.hid hk2; have HL2 := Lib.hid hlq; clear hat hk2 hlq pc)
        all_goals go_wp2_with fail
        all_goals
          obtain ⟨W, hW, hX, hq, hz9, ho, ht9, hu⟩ := Tr.five HV2.out (.int .i64 2) (.string ⟨x.text.toArray⟩) (.slice a2 n2 d2) (.slice none 0 0) (.slice none 0 0)
          rw [hW]
          obtain ⟨z0, z1, z2, z3, z4, -⟩ := Tr.cells5 hX
          refine bodyPost_ret (v := .agg #[.int .i64 2, .string ⟨x.text.toArray⟩, .slice a2 n2 d2, .slice none 0 0, .slice none 0 0]) (by simp [results, Tryz.results37, go_sem, z0, z1, z2, z3, z4]) rfl ?_
          exact HSD.out.piped hi HAT.out HK2.out HL2.out hq hz9 ho ht9 hu
end Go.Proofs.YtjppobeomocgbaaGreatDoor

/-
  WHAT THE REFERENCE's rows, item, block GIVE; the walk of its reader.block (by gen16/genblock.py).
-/
import Derived.Test.YtjppobeomocgbaaGreatDoorTOGoodtoMPipe
namespace Go.Proofs.YtjppobeomocgbaaGreatDoor
open Go.RowKit
/-- data that lie in blocks of one's own -/
abbrev Tr.L (lo : Nat) (w : World) (b : Nat) : Prop := lo ≤ b ∧ b < w.heap.size ∧ Rm.Ub w b
theorem Tr.lies_kept {lo g : Nat} {w w' : World} {D : Dt} {v : Value} (h : Dt.Lies w (Tr.L lo w) D v) (hk : Cu.Kept w w' g) (hg : g < lo) : Dt.Lies w' (Tr.L lo w') D v := h.on fun b hb => by
  have e := hk.block b hb.2.1 (by have := hb.1; omega)
  exact ⟨⟨hb.1, Nat.lt_of_lt_of_le hb.2.1 hk.size, hb.2.2.on e⟩, e⟩
theorem Tr.lies_set {lo b c : Nat} {w : World} {D : Dt} {v u : Value} (h : Dt.Lies w (Tr.L lo w) D v) (hb : b < lo) : Dt.Lies (w.setCell ⟨b, c, none⟩ u) (Tr.L lo (w.setCell ⟨b, c, none⟩ u)) D v := h.on fun k hk => by
  have e : (w.setCell ⟨b, c, none⟩ u).heap[k]? = w.heap[k]? := Below.heap_setCell _ _ _ _ (by show k ≠ b; have := hk.1; omega)
  exact ⟨⟨hk.1, by simp; exact hk.2.1, hk.2.2.on e⟩, e⟩
theorem Tr.lies_lo {lo lo' : Nat} {w : World} {D : Dt} {v : Value} (h : Dt.Lies w (Tr.L lo w) D v) (hl : lo' ≤ lo) : Dt.Lies w (Tr.L lo' w) D v := h.on fun _ hk => ⟨⟨Nat.le_trans hl hk.1, hk.2⟩, rfl⟩
theorem Tr.pcs {g : Nat} {w w' : World} {ps : List Pc} {pv : Value} (h : Pc.Lies w (fun k => k < w.heap.size ∧ k ≠ g) ps pv) (hk : Cu.Kept w w' g) : Pc.Lies w' (fun k => k < w'.heap.size ∧ k ≠ g) ps pv :=
  h.on fun k hb => ⟨⟨Nat.lt_of_lt_of_le hb.1 hk.size, hb.2⟩, hk.block k hb.1 hb.2⟩
theorem Tr.kept_set {w u : World} {g b : Nat} (h : Cu.Kept w u g) (hb : w.heap.size ≤ b) (c : Nat) (v : Value) : Cu.Kept w (u.setCell ⟨b, c, none⟩ v) g :=
  ⟨h.os, h.tape, h.output, by simp; exact h.size, fun k hk hg => (Below.heap_setCell _ _ _ _ (by show k ≠ b; omega)).trans (h.block k hk hg)⟩
/-- cells that are these data -/
def Mt.fits (w : World) (R : Nat → Prop) : List Dt → List Value → Prop
  | [], [] => True
  | d :: ds, v :: vs => Dt.Lies w R d v ∧ Mt.fits w R ds vs
  | _, _ => False
theorem Mt.fits_get {w : World} {R : Nat → Prop} : ∀ (ds : List Dt) (vs : List Value), Mt.fits w R ds vs → ∀ (i : Nat) d, ds[i]? = some d → ∃ u, vs[i]? = some u ∧ Dt.Lies w R d u := by
  intro ds
  induction ds with
  | nil => intro vs _ i d h; simp at h
  | cons x ds ih =>
    intro vs hf i d h
    cases vs with
    | nil => exact hf.elim
    | cons v vs =>
      cases i with
      | zero =>
        simp only [List.getElem?_cons_zero, Option.some.injEq] at h
        subst h
        exact ⟨v, rfl, hf.1⟩
      | succ i =>
        rw [List.getElem?_cons_succ] at h ⊢
        exact ih vs hf.2 i d h
theorem Mt.i {w : World} {R : Nat → Prop} {k : IntKind} {x : Int} : Dt.Lies w R (.int k x) (.int k x) := by unfold Dt.Lies; rfl
theorem Mt.s {w : World} {R : Nat → Prop} {t : List UInt8} : Dt.Lies w R (.str t) (.string ⟨t.toArray⟩) := by unfold Dt.Lies; rfl
theorem Mt.n {w : World} {R : Nat → Prop} {α : Type} {k : Nat} {f : α → List Dt} : Dt.Lies w R (Dt.rows k f []) (.slice none 0 0) := Dt.Lies.nil _ _ _ _
/-- what a block makes of its else's rows -/
def Tm.els (k : Int) (cs : List Cm) (thn : List It) (G2 : Except Int (List It × Nat × Nat)) : Except Int (It × Nat) :=
  match G2 with
  | .error e => .error e
  | .ok (els, tag2, j2) => if tag2 = 1 then .error 1601 else if tag2 = 0 then .error 1600 else .ok (.mk k [] cs thn els, j2)
/-- what item and block give -/
structure Tr.IOut (G : Except Int (It × Nat)) (N i : Nat) (w : World) (g : Nat) (pv : Value) (e : Ending) (w' : World) : Prop where
  all : ∃ (k : Int) (t : ByteArray) (a2 : Option Addr) (n2 d2 : Nat) (a3 : Option Addr) (n3 d3 : Nat) (a4 : Option Addr) (n4 d4 : Nat), e = .returned (.agg #[.int .i64 k, .string t, .slice a2 n2 d2, .slice a3 n3 d3, .slice a4 n4 d4]) ∧ Cu.Kept w w' g ∧ (∀ x, G = .error x → x ≠ 0 ∧ ∃ j, Tr.At w' g pv j x) ∧ ∀ x j, G = .ok (x, j) → i ≤ j ∧ j ≤ N ∧ Tr.At w' g pv j 0 ∧ Mt.fits w' (Tr.L w.heap.size w') (It.dt x) [.int .i64 k, .string t, .slice a2 n2 d2, .slice a3 n3 d3, .slice a4 n4 d4]
/-- the text that tells what a row ended with -/
def Tr.tag : Nat → ByteArray
  | 0 => ⟨#[]⟩
  | 1 => ⟨#[101, 108, 115, 101]⟩
  | _ => ⟨#[101, 110, 100]⟩
/-- what rows gives -/
structure Tr.ROut (G : Except Int (List It × Nat × Nat)) (N i : Nat) (w : World) (g : Nat) (pv : Value) (e : Ending) (w' : World) : Prop where
  all : ∃ (a : Option Addr) (n d : Nat) (t : ByteArray), e = .returned (.tuple #[.slice a n d, .string t]) ∧ Cu.Kept w w' g ∧ (∀ x, G = .error x → x ≠ 0 ∧ ∃ j, Tr.At w' g pv j x) ∧ ∀ out tag j, G = .ok (out, tag, j) → t = Tr.tag tag ∧ tag ≤ 2 ∧ i ≤ j ∧ j ≤ N ∧ Tr.At w' g pv j 0 ∧ Dt.Lies w' (Tr.L w.heap.size w') (It.rows out) (.slice a n d)
/-- the contract of rows, for what this much is left -/
def Tr.Rows (ps : List Pc) (g : Nat) (pv : Value) (n : Nat) : Prop := ∀ (deep : Nat) (loop : Bool) (i : Nat) (w : World), deep ≤ 16 → i ≤ ps.length → ps.length < i + n → Tr.At w g pv i 0 → Pc.Lies w (fun k => k < w.heap.size ∧ k ≠ g) ps pv →
  Calls Tryz.prog 19 #[.pointer (some ⟨g, 0, none⟩), .int .i64 (deep : Int), .bool loop] w fun e w' => Tr.ROut (Tm.rows ps n deep loop i []) ps.length i w g pv e w'
/-- block under way: the reader, the item's block X, the result's behind it -/
structure Tr.Bk (w u : World) (g : Nat) (pv : Value) (j : Nat) (e : Int) (X : Nat) (cs : Array Value) : Prop where
  at_ : Tr.At u g pv j e
  x : Bs.Box u X cs 37
  v : Bs.Box u (X + 1) #[.int .i64 0, .string ⟨#[]⟩, .slice none 0 0, .slice none 0 0, .slice none 0 0] 37
  kept : Cu.Kept w u g
  lt : g < X
  wx : w.heap.size = X
theorem Tr.Bk.then {w u u' : World} {g : Nat} {pv : Value} {j j' : Nat} {e e' : Int} {X : Nat} {cs : Array Value} (h : Tr.Bk w u g pv j e X cs) (hk : Cu.Kept u u' g) (ha : Tr.At u' g pv j' e') : Tr.Bk w u' g pv j' e' X cs :=
  ⟨ha, Tr.box_kept h.x hk (Nat.ne_of_gt h.lt), Tr.box_kept h.v hk (by have := h.lt; omega), h.kept.trans hk, h.lt, h.wx⟩
theorem Tr.Bk.setX {w u : World} {g : Nat} {pv : Value} {j : Nat} {e : Int} {X : Nat} {cs : Array Value} (h : Tr.Bk w u g pv j e X cs) (c : Nat) (v : Value) : Tr.Bk w (u.setCell ⟨X, c, none⟩ v) g pv j e X (cs.setIfInBounds c v) :=
  ⟨(Below.heap_setCell _ _ _ _ (by show g ≠ X; have := h.lt; omega)).trans h.at_, h.x.set c v, (Below.heap_setCell _ _ _ _ (by show X + 1 ≠ X; omega)).trans h.v, Tr.kept_set h.kept (Nat.le_of_eq h.wx) c v, h.lt, h.wx⟩
theorem Tr.Bk.err {w u : World} {g : Nat} {pv : Value} {j : Nat} {e : Int} {X : Nat} {cs : Array Value} (h : Tr.Bk w u g pv j e X cs) (y : Int) : Tr.Bk w (u.setCell ⟨g, 2, none⟩ (.int .i64 y)) g pv j y X cs :=
  ⟨h.at_.set2 y, (Below.heap_setCell _ _ _ _ (by show X ≠ g; have := h.lt; omega)).trans h.x, (Below.heap_setCell _ _ _ _ (by show X + 1 ≠ g; have := h.lt; omega)).trans h.v, h.kept.set _ _, h.lt, h.wx⟩
theorem Tr.Bk.hi {w u : World} {g : Nat} {pv : Value} {j : Nat} {e : Int} {X : Nat} {cs : Array Value} (h : Tr.Bk w u g pv j e X cs) : X + 2 ≤ u.heap.size := h.v.lt
theorem Tr.Bk.put {w u W : World} {g : Nat} {pv : Value} {j : Nat} {e : Int} {X : Nat} {cs cs' : Array Value} (h : Tr.Bk w u g pv j e X cs) (hX : Bs.Box W X cs' 37) (hq : ∀ k, k ≠ X → W.heap[k]? = u.heap[k]?) (hz : W.heap.size = u.heap.size) (ho : W.os = u.os) (ht : W.tape = u.tape) (hu : W.output = u.output) : Tr.Bk w W g pv j e X cs' :=
  ⟨h.at_.same (hq g (by have := h.lt; omega)), hX, (hq (X + 1) (by omega)).trans h.v, Tr.kept_more h.kept (fun k hk _ => hq k (by have := h.wx; omega)) (Nat.le_of_eq hz.symm) ho ht hu, h.lt, h.wx⟩
theorem Tr.lies_q {lo X : Nat} {u W : World} {D : Dt} {v : Value} (h : Dt.Lies u (Tr.L lo u) D v) (hq : ∀ k, k ≠ X → W.heap[k]? = u.heap[k]?) (hz : W.heap.size = u.heap.size) (hX : X < lo) : Dt.Lies W (Tr.L lo W) D v := h.on fun b hb => by
  have e := hq b (by have := hb.1; omega)
  exact ⟨⟨hb.1, by rw [hz]; exact hb.2.1, hb.2.2.on e⟩, e⟩
/-- block gives its item -/
theorem Tr.Bk.done {w u W : World} {g N i : Nat} {pv : Value} {j : Nat} {e : Int} {X : Nat} {cs : Array Value} {G : Except Int (It × Nat)} {k : Int} {t : ByteArray} {a2 : Option Addr} {n2 d2 : Nat} {a3 : Option Addr} {n3 d3 : Nat} {a4 : Option Addr} {n4 d4 : Nat} (h : Tr.Bk w u g pv j e X cs) (hq : ∀ k, k ≠ X + 1 → W.heap[k]? = u.heap[k]?) (hz : W.heap.size = u.heap.size) (ho : W.os = u.os) (ht : W.tape = u.tape) (hu : W.output = u.output)
    (he : ∀ x, G = .error x → x = e ∧ e ≠ 0) (hok : ∀ x j', G = .ok (x, j') → e = 0 ∧ j' = j ∧ i ≤ j ∧ j ≤ N ∧ Mt.fits u (Tr.L (X + 2) u) (It.dt x) [.int .i64 k, .string t, .slice a2 n2 d2, .slice a3 n3 d3, .slice a4 n4 d4]) : Tr.IOut G N i w g pv (.returned (.agg #[.int .i64 k, .string t, .slice a2 n2 d2, .slice a3 n3 d3, .slice a4 n4 d4])) W := by
  have hlt := h.lt
  have hwx := h.wx
  have hat : Tr.At W g pv j e := h.at_.same (hq g (by omega))
  refine ⟨k, t, a2, n2, d2, a3, n3, d3, a4, n4, d4, rfl, Tr.kept_more h.kept (fun q h1 _ => hq q (by omega)) (by omega) ho ht hu, fun x hx => ?_, fun x j' hx => ?_⟩
  · obtain ⟨rfl, h2⟩ := he x hx
    exact ⟨h2, j, hat⟩
  · obtain ⟨rfl, rfl, h3, h4, h5⟩ := hok x j' hx
    refine ⟨h3, h4, hat, ?_⟩
    have hon : ∀ (ds : List Dt) (vs : List Value), Mt.fits u (Tr.L (X + 2) u) ds vs → Mt.fits W (Tr.L w.heap.size W) ds vs := by
      intro ds
      induction ds with
      | nil => intro vs hf; cases vs with | nil => trivial | cons v vs => exact hf.elim
      | cons y ds ih =>
        intro vs hf
        cases vs with
        | nil => exact hf.elim
        | cons v vs => exact ⟨hf.1.on fun b hb => by
            have e := hq b (by have := hb.1; omega)
            exact ⟨⟨by have := hb.1; omega, by rw [hz]; exact hb.2.1, hb.2.2.on e⟩, e⟩, ih vs hf.2⟩
    exact hon _ _ h5

set_option maxRecDepth 100000 in
set_option maxHeartbeats 4000000 in
theorem Tr.block (k : Int) (ws : List Wo) (v : Value) (R : Nat → Prop) (ps : List Pc) (n deep : Nat) (loop : Bool) (i g : Nat) (pv : Value) (w : World) (HRW : Tr.Rows ps g pv n) (hA : Tr.At w g pv i 0) (hP : Pc.Lies w (fun k => k < w.heap.size ∧ k ≠ g) ps pv) (h : Dt.Lies w R (Wi.rows (ws.map Wo.wi)) v) (hz : Tm.Fit ws) (hd : deep ≤ 16) (hi : i ≤ ps.length) (hn : ps.length < i + n) :
    Calls Tryz.prog 63 #[.pointer (some ⟨g, 0, none⟩), .agg #[.int .i64 k, .string ⟨#[]⟩, .slice none 0 0, .slice none 0 0, .slice none 0 0], v, .int .i64 (deep : Int), .bool loop] w fun e w' => Tr.IOut (Tm.block (fun d l j => Tm.rows ps n d l j []) k ws deep loop i) ps.length i w g pv e w' := by
  have hgw := hA.lt
  obtain ⟨W0, hW0⟩ : ∃ W0, (w.alloc (.cells #[.int .i64 k, .string ⟨#[]⟩, .slice none 0 0, .slice none 0 0, .slice none 0 0] 37)).alloc (.cells #[.int .i64 0, .string ⟨#[]⟩, .slice none 0 0, .slice none 0 0, .slice none 0 0] 37) = W0 := ⟨_, rfl⟩
  have hb0 : Below w.heap.size w W0 := by rw [← hW0]; exact ((Below.refl _ w).alloc (Nat.le_refl _) _).alloc (by simp) _
  obtain ⟨X, hX⟩ : ∃ X, w.heap.size = X := ⟨_, rfl⟩
  have HS0 : Hid (Tr.Bk w W0 g pv i 0 X #[.int .i64 k, .string ⟨#[]⟩, .slice none 0 0, .slice none 0 0, .slice none 0 0]) := by
    rw [← hX]
    exact ⟨hA.then hb0, by rw [← hW0]; exact (Bs.Box.new _ _ _ _ rfl).alloc _, by rw [← hW0]; exact Bs.Box.new _ _ _ _ (by simp), (Cu.Kept.refl _ _).then hb0, hgw, rfl⟩
  have HP := Lib.hid hP
  have pc := Tr.pipe k ⟨#[]⟩ ws v _ g i pv W0 HS0.out.at_ (h.later hb0) hz
  obtain ⟨G, hG⟩ : ∃ G, Tm.block (fun d l j => Tm.rows ps n d l j []) k ws deep loop i = G := ⟨_, rfl⟩
  rw [hG]
  unfold Tm.block at hG
  obtain ⟨P, hPP⟩ : ∃ P, Pi.parse (ws.map Wo.wi) = P := ⟨_, rfl⟩
  rw [hPP] at pc hG
  obtain ⟨cs, E⟩ := P
  dsimp only at pc hG
  have HG := Lib.hid hG
  have HW := Lib.hid hW0
  have HRR := Lib.hid HRW
  have hgX : g < X := by omega
  have hne : ¬ g = X := by omega
  have hne2 : ¬ X = g := by omega
  have hne3 : ¬ g = X + 1 := by omega
  have hne4 : ¬ X + 1 = g := by omega
  have hne5 : ¬ X + 1 = X := by omega
  have hne6 : ¬ X = X + 1 := by omega
  have hwX : w.heap.size ≤ X := by omega
  clear hPP hA hP h hz hb0 hW0 hG HRW
  obtain ⟨x0, x1, x2, x3, x4, xf⟩ := Tr.cells5 HS0.out.x
  go_enter Tryz.func63, Tryz.ntmps63
  go_upto_region 1 with fail
  rw [HW.out]
  rw [hX] at hgw
  try rw [hX]

  go_upto_region 2 with (go_at_call 62; refine pc.mono ?_; rintro e w1 ⟨a2, n2, d2, rfl, a1, k1, l1⟩; have HS1 := Lib.hid (HS0.out.then k1 a1); have HL1 := Lib.hid (Tr.lies_lo l1 HS0.out.hi); clear a1 k1 l1 pc x0 x1 x2 x3 x4 xf; obtain ⟨x0, x1, x2, x3, x4, xf⟩ := Tr.cells5 HS1.out.x)
  obtain ⟨W1, hW1, hX1, hq1, hz1, ho1, ht1, hu1⟩ := Tr.five HS1.out.x (.int .i64 k) (.string ⟨#[]⟩) (.slice a2 n2 d2) (.slice none 0 0) (.slice none 0 0)
  rw [hW1]
  have HS2 := Lib.hid (HS1.out.put hX1 hq1 hz1 ho1 ht1 hu1)
  have HL2 := Lib.hid (Tr.lies_q HL1.out hq1 hz1 (by omega))
  clear hW1 hX1 hq1 hz1 ho1 ht1 hu1 HS1 HL1 x0 x1 x2 x3 x4 xf HS0 HW
  obtain ⟨x0, x1, x2, x3, x4, xf⟩ := Tr.cells5 HS2.out.x
  have c2 := HS2.out.at_.c2
  have f := HS2.out.at_.fz
  by_cases hE : E = 0
  · subst hE
    rw [if_neg (by decide)] at HG
    by_cases h16 : 16 ≤ deep
    · have d16 : decide ((16 : Int) ≤ (deep : Int)) = true := decide_eq_true (by omega)
      have d16n : decide (16 ≤ deep) = true := decide_eq_true h16
      rw [if_pos h16] at HG
      have hG : .error 1603 = G := HG.out
      subst hG
      clear HG
      go_upto_region 4 with fail
      have HS3 := Lib.hid (HS2.out.err 1603)
      clear HS2 HL2 c2 f x0 x1 x2 x3 x4 xf
      generalize W1.setCell ⟨g, 2, none⟩ (.int .i64 1603) = W2 at *
      obtain ⟨x0, x1, x2, x3, x4, xf⟩ := Tr.cells5 HS3.out.x
      have c2 := HS3.out.at_.c2
      have ⟨y0, y1, y2, y3, y4, yf⟩ := Tr.cells5 HS3.out.v
      go_wp2_with fail
      obtain ⟨W, hW, hX, hq, hz, ho, ht, hu⟩ := Tr.five HS3.out.v (.int .i64 k) (.string ⟨#[]⟩) (.slice a2 n2 d2) (.slice none 0 0) (.slice none 0 0)
      rw [hW]
      obtain ⟨z0, z1, z2, z3, z4, -⟩ := Tr.cells5 hX
      refine bodyPost_ret (v := .agg #[.int .i64 k, .string ⟨#[]⟩, .slice a2 n2 d2, .slice none 0 0, .slice none 0 0]) (by simp [results, Tryz.results63, go_sem, z0, z1, z2, z3, z4]) rfl ?_
      exact HS3.out.done hq hz ho ht hu (fun x hx => by injection hx with hx; exact ⟨hx.symm, by decide⟩) (fun x j' hx => by cases hx)
    · have d16 : decide ((16 : Int) ≤ (deep : Int)) = false := decide_eq_false (by omega)
      have d16n : decide (16 ≤ deep) = false := decide_eq_false h16
      rw [if_neg h16] at HG
      obtain ⟨L, hL⟩ : ∃ L, (loop || decide (k = 5)) = L := ⟨_, rfl⟩
      rw [hL] at HG
      have r1 := HRR.out (deep + 1) L i W1 (by omega) hi hn HS2.out.at_ (Tr.pcs HP.out HS2.out.kept)
      have r2 := fun j u (hj : i ≤ j) (hj2 : j ≤ ps.length) (q : Tr.At u g pv j 0) (hp : Pc.Lies u (fun k => k < u.heap.size ∧ k ≠ g) ps pv) => HRR.out (deep + 1) loop j u (by omega) hj2 (by omega) q hp
      rw [show ((deep + 1 : Nat) : Int) = (deep : Int) + 1 by omega] at r1 r2
      obtain ⟨G1, hG1⟩ : ∃ G1, Tm.rows ps n (deep + 1) L i [] = G1 := ⟨_, rfl⟩
      rw [hG1] at r1 HG
      have HR2 := Lib.hid r2
      clear hG1 HRR r2
      have hkk : (loop = true ∧ L = true) ∨ (loop = false ∧ k = 5 ∧ L = true) ∨ (loop = false ∧ ¬ k = 5 ∧ L = false) := by
        rw [← hL]
        cases loop
        · by_cases q : k = 5
          · exact .inr (.inl ⟨rfl, q, by rw [decide_eq_true q]; rfl⟩)
          · exact .inr (.inr ⟨rfl, q, by rw [decide_eq_false q]; rfl⟩)
        · exact .inl ⟨rfl, rfl⟩
      have hk5 : (k == 5) = decide (k = 5) := rfl
      clear hL
      have HKK := Lib.hid hkk
      obtain ⟨kb, hkb⟩ : ∃ kb, decide (k = 5) = kb := ⟨_, rfl⟩
      rw [hkb] at hk5
      have HKB := Lib.hid hkb
      clear hkk hkb
      have hlk : (loop = true ∧ L = true) ∨ (loop = false ∧ kb = true ∧ L = true) ∨ (loop = false ∧ kb = false ∧ L = false) := by
        rcases HKK.out with h | ⟨h1, h2, h3⟩ | ⟨h1, h2, h3⟩
        · exact .inl h
        · exact .inr (.inl ⟨h1, by rw [← HKB.out, decide_eq_true h2], h3⟩)
        · exact .inr (.inr ⟨h1, by rw [← HKB.out, decide_eq_false h2], h3⟩)
      clear HKK HKB
      rcases hlk with ⟨rfl, rfl⟩ | ⟨rfl, rfl, rfl⟩ | ⟨rfl, rfl, rfl⟩
      · skip
        go_upto_region 8 with (go_at_call 19; refine r1.mono ?_; rintro e w5 ⟨⟨a3, n3, d3, tg, rfl, k5, er5, ok5⟩⟩; have K5 := Lib.hid k5; have ER5 := Lib.hid er5; have OK5 := Lib.hid ok5; have HXB := Lib.hid (Tr.box_kept HS2.out.x k5 (by omega)); clear k5 er5 ok5 r1 c2 f x0 x1 x2 x3 x4 xf; obtain ⟨x0, x1, x2, x3, x4, xf⟩ := Tr.cells5 HXB.out)
        have HL5 := Lib.hid (Tr.lies_kept HL2.out K5.out (by omega))
        have HL6 := Lib.hid (Tr.lies_set (b := X) (c := 3) (u := .slice a3 n3 d3) HL5.out (by omega))
        cases G1 with
        | error y =>
          obtain ⟨hy, j5, a5⟩ := ER5.out y rfl
          have HS6 := Lib.hid ((HS2.out.then K5.out a5).setX 3 (.slice a3 n3 d3))
          clear HL5 K5 ER5 OK5 HXB a5 HS2 HL2 x0 x1 x2 x3 x4 xf
          generalize w5.setCell ⟨X, 3, none⟩ (.slice a3 n3 d3) = w6 at *
          have hG : .error y = G := HG.out
          subst hG
          clear HG
          have hy2 : (y == 0) = false := beq_eq_false_iff_ne.2 hy
          obtain ⟨x0, x1, x2, x3, x4, xf⟩ := Tr.cells5 (show Bs.Box w6 X #[.int .i64 k, .string ⟨#[]⟩, .slice a2 n2 d2, .slice a3 n3 d3, .slice none 0 0] _ from HS6.out.x)
          have c2 := HS6.out.at_.c2
          have HY := Lib.hid hy
          clear hy
          have ⟨y0, y1, y2, y3, y4, yf⟩ := Tr.cells5 HS6.out.v
          go_wp2_with fail
          obtain ⟨W, hW, hX, hq, hz, ho, ht, hu⟩ := Tr.five HS6.out.v (.int .i64 k) (.string ⟨#[]⟩) (.slice a2 n2 d2) (.slice a3 n3 d3) (.slice none 0 0)
          rw [hW]
          obtain ⟨z0, z1, z2, z3, z4, -⟩ := Tr.cells5 hX
          refine bodyPost_ret (v := .agg #[.int .i64 k, .string ⟨#[]⟩, .slice a2 n2 d2, .slice a3 n3 d3, .slice none 0 0]) (by simp [results, Tryz.results63, go_sem, z0, z1, z2, z3, z4]) rfl ?_
          exact HS6.out.done hq hz ho ht hu (fun x hx => by injection hx with hx; exact ⟨hx.symm, HY.out⟩) (fun x j' hx => by cases hx)
        | ok p =>
          obtain ⟨thn, tag, j⟩ := p
          obtain ⟨rfl, ht2, hij, hjN, a5, l5⟩ := OK5.out thn tag j rfl
          have HS6 := Lib.hid ((HS2.out.then K5.out a5).setX 3 (.slice a3 n3 d3))
          have HM5 := Lib.hid (Tr.lies_lo l5 HS2.out.hi)
          have HM6 := Lib.hid (Tr.lies_set (b := X) (c := 3) (u := .slice a3 n3 d3) HM5.out (by omega))
          clear HL5 HM5 K5 ER5 OK5 HXB a5 l5 HS2 HL2 x0 x1 x2 x3 x4 xf
          generalize w5.setCell ⟨X, 3, none⟩ (.slice a3 n3 d3) = w6 at *
          obtain ⟨x0, x1, x2, x3, x4, xf⟩ := Tr.cells5 (show Bs.Box w6 X #[.int .i64 k, .string ⟨#[]⟩, .slice a2 n2 d2, .slice a3 n3 d3, .slice none 0 0] _ from HS6.out.x)
          have c2 := HS6.out.at_.c2
          have f := HS6.out.at_.fz
          match tag, ht2 with
          | 0, _ =>
            rw [show Tr.tag 0 = ⟨#[]⟩ from rfl]
            have hG : .error 1600 = G := HG.out
            subst hG
            clear HG HL6 HM6
            go_upto_region 16 with fail
            have HS7 := Lib.hid (HS6.out.err 1600)
            clear HS6 c2 f x0 x1 x2 x3 x4 xf
            generalize w6.setCell ⟨g, 2, none⟩ (.int .i64 1600) = w7 at *
            obtain ⟨x0, x1, x2, x3, x4, xf⟩ := Tr.cells5 (show Bs.Box w7 X #[.int .i64 k, .string ⟨#[]⟩, .slice a2 n2 d2, .slice a3 n3 d3, .slice none 0 0] _ from HS7.out.x)
            have c2 := HS7.out.at_.c2
            have ⟨y0, y1, y2, y3, y4, yf⟩ := Tr.cells5 HS7.out.v
            go_wp2_with fail
            obtain ⟨W, hW, hX, hq, hz, ho, ht, hu⟩ := Tr.five HS7.out.v (.int .i64 k) (.string ⟨#[]⟩) (.slice a2 n2 d2) (.slice a3 n3 d3) (.slice none 0 0)
            rw [hW]
            obtain ⟨z0, z1, z2, z3, z4, -⟩ := Tr.cells5 hX
            refine bodyPost_ret (v := .agg #[.int .i64 k, .string ⟨#[]⟩, .slice a2 n2 d2, .slice a3 n3 d3, .slice none 0 0]) (by simp [results, Tryz.results63, go_sem, z0, z1, z2, z3, z4]) rfl ?_
            exact HS7.out.done hq hz ho ht hu (fun x hx => by injection hx with hx; exact ⟨hx.symm, by decide⟩) (fun x j' hx => by cases hx)
          | 2, _ =>
            rw [show Tr.tag 2 = ⟨#[101, 110, 100]⟩ from rfl]
            have hG : .ok ((It.mk k [] cs thn []), j) = G := HG.out
            subst hG
            clear HG
            have HF : Hid (Mt.fits w6 (Tr.L (X + 2) w6) (It.dt (.mk k [] cs thn [])) [.int .i64 k, .string ⟨#[]⟩, .slice a2 n2 d2, .slice a3 n3 d3, .slice none 0 0]) := by unfold Hid; rw [It.dt_mk]; exact ⟨Mt.i, Mt.s, HL6.out, HM6.out, Mt.n, trivial⟩
            clear HL6 HM6
            have ⟨y0, y1, y2, y3, y4, yf⟩ := Tr.cells5 HS6.out.v
            go_wp2_with fail
            obtain ⟨W, hW, hX, hq, hz, ho, ht, hu⟩ := Tr.five HS6.out.v (.int .i64 k) (.string ⟨#[]⟩) (.slice a2 n2 d2) (.slice a3 n3 d3) (.slice none 0 0)
            rw [hW]
            obtain ⟨z0, z1, z2, z3, z4, -⟩ := Tr.cells5 hX
            refine bodyPost_ret (v := .agg #[.int .i64 k, .string ⟨#[]⟩, .slice a2 n2 d2, .slice a3 n3 d3, .slice none 0 0]) (by simp [results, Tryz.results63, go_sem, z0, z1, z2, z3, z4]) rfl ?_
            exact HS6.out.done hq hz ho ht hu (fun x hx => by cases hx) (fun x j' hx => by injection hx with hx; injection hx with h1 h2; subst h1 h2; exact ⟨rfl, rfl, hij, hjN, HF.out⟩)
          | 1, _ =>
            rw [show Tr.tag 1 = ⟨#[101, 108, 115, 101]⟩ from rfl]
            have r2 := HR2.out j w6 hij hjN HS6.out.at_ (Tr.pcs HP.out HS6.out.kept)
            obtain ⟨G2, hG2⟩ : ∃ G2, Tm.rows ps n (deep + 1) true j [] = G2 := ⟨_, rfl⟩
            rw [hG2] at r2
            have HG3 : Hid (Tm.els k cs thn G2 = G) := by rw [← hG2]; exact HG.out
            clear HG hG2 HR2
            go_upto_region 12 with (go_at_call 19; refine r2.mono ?_; rintro e w7 ⟨⟨a4, n4, d4, tg, rfl, k7, er7, ok7⟩⟩; have K7 := Lib.hid k7; have ER7 := Lib.hid er7; have OK7 := Lib.hid ok7; have HXB := Lib.hid (Tr.box_kept HS6.out.x k7 (by omega)); clear k7 er7 ok7 r2 c2 f x0 x1 x2 x3 x4 xf; obtain ⟨x0, x1, x2, x3, x4, xf⟩ := Tr.cells5 (show Bs.Box w7 X #[.int .i64 k, .string ⟨#[]⟩, .slice a2 n2 d2, .slice a3 n3 d3, .slice none 0 0] _ from HXB.out))
            have HL7 := Lib.hid (Tr.lies_set (b := X) (c := 4) (u := .slice a4 n4 d4) (Tr.lies_kept HL6.out K7.out (by omega)) (by omega))
            have HM7 := Lib.hid (Tr.lies_set (b := X) (c := 4) (u := .slice a4 n4 d4) (Tr.lies_kept HM6.out K7.out (by omega)) (by omega))
            cases G2 with
            | error y =>
              obtain ⟨hy, j7, a7⟩ := ER7.out y rfl
              have HS8 := Lib.hid ((HS6.out.then K7.out a7).setX 4 (.slice a4 n4 d4))
              clear HL7 HM7 HL6 HM6 K7 ER7 OK7 HXB a7 HS6 x0 x1 x2 x3 x4 xf
              generalize w7.setCell ⟨X, 4, none⟩ (.slice a4 n4 d4) = w8 at *
              have hG : .error y = G := HG3.out
              subst hG
              clear HG3
              have hy2 : (y == 0) = false := beq_eq_false_iff_ne.2 hy
              obtain ⟨x0, x1, x2, x3, x4, xf⟩ := Tr.cells5 (show Bs.Box w8 X #[.int .i64 k, .string ⟨#[]⟩, .slice a2 n2 d2, .slice a3 n3 d3, .slice a4 n4 d4] _ from HS8.out.x)
              have c2 := HS8.out.at_.c2
              have HY := Lib.hid hy
              clear hy
              have ⟨y0, y1, y2, y3, y4, yf⟩ := Tr.cells5 HS8.out.v
              go_wp2_with fail
              obtain ⟨W, hW, hX, hq, hz, ho, ht, hu⟩ := Tr.five HS8.out.v (.int .i64 k) (.string ⟨#[]⟩) (.slice a2 n2 d2) (.slice a3 n3 d3) (.slice a4 n4 d4)
              rw [hW]
              obtain ⟨z0, z1, z2, z3, z4, -⟩ := Tr.cells5 hX
              refine bodyPost_ret (v := .agg #[.int .i64 k, .string ⟨#[]⟩, .slice a2 n2 d2, .slice a3 n3 d3, .slice a4 n4 d4]) (by simp [results, Tryz.results63, go_sem, z0, z1, z2, z3, z4]) rfl ?_
              exact HS8.out.done hq hz ho ht hu (fun x hx => by injection hx with hx; exact ⟨hx.symm, HY.out⟩) (fun x j' hx => by cases hx)
            | ok p =>
              obtain ⟨els, tag2, j2⟩ := p
              obtain ⟨rfl, ht7, hij7, hjN7, a7, l7⟩ := OK7.out els tag2 j2 rfl
              have HS8 := Lib.hid ((HS6.out.then K7.out a7).setX 4 (.slice a4 n4 d4))
              have HQ8 := Lib.hid (Tr.lies_set (b := X) (c := 4) (u := .slice a4 n4 d4) (Tr.lies_lo l7 HS6.out.hi) (by omega))
              clear HL6 HM6 K7 ER7 OK7 HXB a7 l7 HS6 x0 x1 x2 x3 x4 xf
              generalize w7.setCell ⟨X, 4, none⟩ (.slice a4 n4 d4) = w8 at *
              obtain ⟨x0, x1, x2, x3, x4, xf⟩ := Tr.cells5 (show Bs.Box w8 X #[.int .i64 k, .string ⟨#[]⟩, .slice a2 n2 d2, .slice a3 n3 d3, .slice a4 n4 d4] _ from HS8.out.x)
              have c2 := HS8.out.at_.c2
              have f := HS8.out.at_.fz
              match tag2, ht7 with
              | 0, _ =>
                rw [show Tr.tag 0 = ⟨#[]⟩ from rfl]
                have hG : .error 1600 = G := HG3.out
                subst hG
                clear HG3 HL7 HM7 HQ8
                go_upto_region 16 with fail
                have HS9 := Lib.hid (HS8.out.err 1600)
                clear HS8 c2 f x0 x1 x2 x3 x4 xf
                generalize w8.setCell ⟨g, 2, none⟩ (.int .i64 1600) = w9 at *
                obtain ⟨x0, x1, x2, x3, x4, xf⟩ := Tr.cells5 (show Bs.Box w9 X #[.int .i64 k, .string ⟨#[]⟩, .slice a2 n2 d2, .slice a3 n3 d3, .slice a4 n4 d4] _ from HS9.out.x)
                have c2 := HS9.out.at_.c2
                have ⟨y0, y1, y2, y3, y4, yf⟩ := Tr.cells5 HS9.out.v
                go_wp2_with fail
                obtain ⟨W, hW, hX, hq, hz, ho, ht, hu⟩ := Tr.five HS9.out.v (.int .i64 k) (.string ⟨#[]⟩) (.slice a2 n2 d2) (.slice a3 n3 d3) (.slice a4 n4 d4)
                rw [hW]
                obtain ⟨z0, z1, z2, z3, z4, -⟩ := Tr.cells5 hX
                refine bodyPost_ret (v := .agg #[.int .i64 k, .string ⟨#[]⟩, .slice a2 n2 d2, .slice a3 n3 d3, .slice a4 n4 d4]) (by simp [results, Tryz.results63, go_sem, z0, z1, z2, z3, z4]) rfl ?_
                exact HS9.out.done hq hz ho ht hu (fun x hx => by injection hx with hx; exact ⟨hx.symm, by decide⟩) (fun x j' hx => by cases hx)
              | 1, _ =>
                rw [show Tr.tag 1 = ⟨#[101, 108, 115, 101]⟩ from rfl]
                have hG : .error 1601 = G := HG3.out
                subst hG
                clear HG3 HL7 HM7 HQ8
                go_upto_region 14 with fail
                have HS9 := Lib.hid (HS8.out.err 1601)
                clear HS8 c2 f x0 x1 x2 x3 x4 xf
                generalize w8.setCell ⟨g, 2, none⟩ (.int .i64 1601) = w9 at *
                obtain ⟨x0, x1, x2, x3, x4, xf⟩ := Tr.cells5 (show Bs.Box w9 X #[.int .i64 k, .string ⟨#[]⟩, .slice a2 n2 d2, .slice a3 n3 d3, .slice a4 n4 d4] _ from HS9.out.x)
                have c2 := HS9.out.at_.c2
                have ⟨y0, y1, y2, y3, y4, yf⟩ := Tr.cells5 HS9.out.v
                go_wp2_with fail
                obtain ⟨W, hW, hX, hq, hz, ho, ht, hu⟩ := Tr.five HS9.out.v (.int .i64 k) (.string ⟨#[]⟩) (.slice a2 n2 d2) (.slice a3 n3 d3) (.slice a4 n4 d4)
                rw [hW]
                obtain ⟨z0, z1, z2, z3, z4, -⟩ := Tr.cells5 hX
                refine bodyPost_ret (v := .agg #[.int .i64 k, .string ⟨#[]⟩, .slice a2 n2 d2, .slice a3 n3 d3, .slice a4 n4 d4]) (by simp [results, Tryz.results63, go_sem, z0, z1, z2, z3, z4]) rfl ?_
                exact HS9.out.done hq hz ho ht hu (fun x hx => by injection hx with hx; exact ⟨hx.symm, by decide⟩) (fun x j' hx => by cases hx)
              | 2, _ =>
                rw [show Tr.tag 2 = ⟨#[101, 110, 100]⟩ from rfl]
                have hG : .ok ((It.mk k [] cs thn els), j2) = G := HG3.out
                subst hG
                clear HG3
                have HF : Hid (Mt.fits w8 (Tr.L (X + 2) w8) (It.dt (.mk k [] cs thn els)) [.int .i64 k, .string ⟨#[]⟩, .slice a2 n2 d2, .slice a3 n3 d3, .slice a4 n4 d4]) := by unfold Hid; rw [It.dt_mk]; exact ⟨Mt.i, Mt.s, HL7.out, HM7.out, HQ8.out, trivial⟩
                clear HL7 HM7 HQ8
                have ⟨y0, y1, y2, y3, y4, yf⟩ := Tr.cells5 HS8.out.v
                go_wp2_with fail
                obtain ⟨W, hW, hX, hq, hz, ho, ht, hu⟩ := Tr.five HS8.out.v (.int .i64 k) (.string ⟨#[]⟩) (.slice a2 n2 d2) (.slice a3 n3 d3) (.slice a4 n4 d4)
                rw [hW]
                obtain ⟨z0, z1, z2, z3, z4, -⟩ := Tr.cells5 hX
                refine bodyPost_ret (v := .agg #[.int .i64 k, .string ⟨#[]⟩, .slice a2 n2 d2, .slice a3 n3 d3, .slice a4 n4 d4]) (by simp [results, Tryz.results63, go_sem, z0, z1, z2, z3, z4]) rfl ?_
                exact HS8.out.done hq hz ho ht hu (fun x hx => by cases hx) (fun x j' hx => by injection hx with hx; injection hx with h1 h2; subst h1 h2; exact ⟨rfl, rfl, by omega, hjN7, HF.out⟩)
      · skip
        go_upto_region 8 with (go_at_call 19; refine r1.mono ?_; rintro e w5 ⟨⟨a3, n3, d3, tg, rfl, k5, er5, ok5⟩⟩; have K5 := Lib.hid k5; have ER5 := Lib.hid er5; have OK5 := Lib.hid ok5; have HXB := Lib.hid (Tr.box_kept HS2.out.x k5 (by omega)); clear k5 er5 ok5 r1 c2 f x0 x1 x2 x3 x4 xf; obtain ⟨x0, x1, x2, x3, x4, xf⟩ := Tr.cells5 HXB.out)
        have HL5 := Lib.hid (Tr.lies_kept HL2.out K5.out (by omega))
        have HL6 := Lib.hid (Tr.lies_set (b := X) (c := 3) (u := .slice a3 n3 d3) HL5.out (by omega))
        cases G1 with
        | error y =>
          obtain ⟨hy, j5, a5⟩ := ER5.out y rfl
          have HS6 := Lib.hid ((HS2.out.then K5.out a5).setX 3 (.slice a3 n3 d3))
          clear HL5 K5 ER5 OK5 HXB a5 HS2 HL2 x0 x1 x2 x3 x4 xf
          generalize w5.setCell ⟨X, 3, none⟩ (.slice a3 n3 d3) = w6 at *
          have hG : .error y = G := HG.out
          subst hG
          clear HG
          have hy2 : (y == 0) = false := beq_eq_false_iff_ne.2 hy
          obtain ⟨x0, x1, x2, x3, x4, xf⟩ := Tr.cells5 (show Bs.Box w6 X #[.int .i64 k, .string ⟨#[]⟩, .slice a2 n2 d2, .slice a3 n3 d3, .slice none 0 0] _ from HS6.out.x)
          have c2 := HS6.out.at_.c2
          have HY := Lib.hid hy
          clear hy
          have ⟨y0, y1, y2, y3, y4, yf⟩ := Tr.cells5 HS6.out.v
          go_wp2_with fail
          obtain ⟨W, hW, hX, hq, hz, ho, ht, hu⟩ := Tr.five HS6.out.v (.int .i64 k) (.string ⟨#[]⟩) (.slice a2 n2 d2) (.slice a3 n3 d3) (.slice none 0 0)
          rw [hW]
          obtain ⟨z0, z1, z2, z3, z4, -⟩ := Tr.cells5 hX
          refine bodyPost_ret (v := .agg #[.int .i64 k, .string ⟨#[]⟩, .slice a2 n2 d2, .slice a3 n3 d3, .slice none 0 0]) (by simp [results, Tryz.results63, go_sem, z0, z1, z2, z3, z4]) rfl ?_
          exact HS6.out.done hq hz ho ht hu (fun x hx => by injection hx with hx; exact ⟨hx.symm, HY.out⟩) (fun x j' hx => by cases hx)
        | ok p =>
          obtain ⟨thn, tag, j⟩ := p
          obtain ⟨rfl, ht2, hij, hjN, a5, l5⟩ := OK5.out thn tag j rfl
          have HS6 := Lib.hid ((HS2.out.then K5.out a5).setX 3 (.slice a3 n3 d3))
          have HM5 := Lib.hid (Tr.lies_lo l5 HS2.out.hi)
          have HM6 := Lib.hid (Tr.lies_set (b := X) (c := 3) (u := .slice a3 n3 d3) HM5.out (by omega))
          clear HL5 HM5 K5 ER5 OK5 HXB a5 l5 HS2 HL2 x0 x1 x2 x3 x4 xf
          generalize w5.setCell ⟨X, 3, none⟩ (.slice a3 n3 d3) = w6 at *
          obtain ⟨x0, x1, x2, x3, x4, xf⟩ := Tr.cells5 (show Bs.Box w6 X #[.int .i64 k, .string ⟨#[]⟩, .slice a2 n2 d2, .slice a3 n3 d3, .slice none 0 0] _ from HS6.out.x)
          have c2 := HS6.out.at_.c2
          have f := HS6.out.at_.fz
          match tag, ht2 with
          | 0, _ =>
            rw [show Tr.tag 0 = ⟨#[]⟩ from rfl]
            have hG : .error 1600 = G := HG.out
            subst hG
            clear HG HL6 HM6
            go_upto_region 16 with fail
            have HS7 := Lib.hid (HS6.out.err 1600)
            clear HS6 c2 f x0 x1 x2 x3 x4 xf
            generalize w6.setCell ⟨g, 2, none⟩ (.int .i64 1600) = w7 at *
            obtain ⟨x0, x1, x2, x3, x4, xf⟩ := Tr.cells5 (show Bs.Box w7 X #[.int .i64 k, .string ⟨#[]⟩, .slice a2 n2 d2, .slice a3 n3 d3, .slice none 0 0] _ from HS7.out.x)
            have c2 := HS7.out.at_.c2
            have ⟨y0, y1, y2, y3, y4, yf⟩ := Tr.cells5 HS7.out.v
            go_wp2_with fail
            obtain ⟨W, hW, hX, hq, hz, ho, ht, hu⟩ := Tr.five HS7.out.v (.int .i64 k) (.string ⟨#[]⟩) (.slice a2 n2 d2) (.slice a3 n3 d3) (.slice none 0 0)
            rw [hW]
            obtain ⟨z0, z1, z2, z3, z4, -⟩ := Tr.cells5 hX
            refine bodyPost_ret (v := .agg #[.int .i64 k, .string ⟨#[]⟩, .slice a2 n2 d2, .slice a3 n3 d3, .slice none 0 0]) (by simp [results, Tryz.results63, go_sem, z0, z1, z2, z3, z4]) rfl ?_
            exact HS7.out.done hq hz ho ht hu (fun x hx => by injection hx with hx; exact ⟨hx.symm, by decide⟩) (fun x j' hx => by cases hx)
          | 2, _ =>
            rw [show Tr.tag 2 = ⟨#[101, 110, 100]⟩ from rfl]
            have hG : .ok ((It.mk k [] cs thn []), j) = G := HG.out
            subst hG
            clear HG
            have HF : Hid (Mt.fits w6 (Tr.L (X + 2) w6) (It.dt (.mk k [] cs thn [])) [.int .i64 k, .string ⟨#[]⟩, .slice a2 n2 d2, .slice a3 n3 d3, .slice none 0 0]) := by unfold Hid; rw [It.dt_mk]; exact ⟨Mt.i, Mt.s, HL6.out, HM6.out, Mt.n, trivial⟩
            clear HL6 HM6
            have ⟨y0, y1, y2, y3, y4, yf⟩ := Tr.cells5 HS6.out.v
            go_wp2_with fail
            obtain ⟨W, hW, hX, hq, hz, ho, ht, hu⟩ := Tr.five HS6.out.v (.int .i64 k) (.string ⟨#[]⟩) (.slice a2 n2 d2) (.slice a3 n3 d3) (.slice none 0 0)
            rw [hW]
            obtain ⟨z0, z1, z2, z3, z4, -⟩ := Tr.cells5 hX
            refine bodyPost_ret (v := .agg #[.int .i64 k, .string ⟨#[]⟩, .slice a2 n2 d2, .slice a3 n3 d3, .slice none 0 0]) (by simp [results, Tryz.results63, go_sem, z0, z1, z2, z3, z4]) rfl ?_
            exact HS6.out.done hq hz ho ht hu (fun x hx => by cases hx) (fun x j' hx => by injection hx with hx; injection hx with h1 h2; subst h1 h2; exact ⟨rfl, rfl, hij, hjN, HF.out⟩)
          | 1, _ =>
            rw [show Tr.tag 1 = ⟨#[101, 108, 115, 101]⟩ from rfl]
            have r2 := HR2.out j w6 hij hjN HS6.out.at_ (Tr.pcs HP.out HS6.out.kept)
            obtain ⟨G2, hG2⟩ : ∃ G2, Tm.rows ps n (deep + 1) false j [] = G2 := ⟨_, rfl⟩
            rw [hG2] at r2
            have HG3 : Hid (Tm.els k cs thn G2 = G) := by rw [← hG2]; exact HG.out
            clear HG hG2 HR2
            go_upto_region 12 with (go_at_call 19; refine r2.mono ?_; rintro e w7 ⟨⟨a4, n4, d4, tg, rfl, k7, er7, ok7⟩⟩; have K7 := Lib.hid k7; have ER7 := Lib.hid er7; have OK7 := Lib.hid ok7; have HXB := Lib.hid (Tr.box_kept HS6.out.x k7 (by omega)); clear k7 er7 ok7 r2 c2 f x0 x1 x2 x3 x4 xf; obtain ⟨x0, x1, x2, x3, x4, xf⟩ := Tr.cells5 (show Bs.Box w7 X #[.int .i64 k, .string ⟨#[]⟩, .slice a2 n2 d2, .slice a3 n3 d3, .slice none 0 0] _ from HXB.out))
            have HL7 := Lib.hid (Tr.lies_set (b := X) (c := 4) (u := .slice a4 n4 d4) (Tr.lies_kept HL6.out K7.out (by omega)) (by omega))
            have HM7 := Lib.hid (Tr.lies_set (b := X) (c := 4) (u := .slice a4 n4 d4) (Tr.lies_kept HM6.out K7.out (by omega)) (by omega))
            cases G2 with
            | error y =>
              obtain ⟨hy, j7, a7⟩ := ER7.out y rfl
              have HS8 := Lib.hid ((HS6.out.then K7.out a7).setX 4 (.slice a4 n4 d4))
              clear HL7 HM7 HL6 HM6 K7 ER7 OK7 HXB a7 HS6 x0 x1 x2 x3 x4 xf
              generalize w7.setCell ⟨X, 4, none⟩ (.slice a4 n4 d4) = w8 at *
              have hG : .error y = G := HG3.out
              subst hG
              clear HG3
              have hy2 : (y == 0) = false := beq_eq_false_iff_ne.2 hy
              obtain ⟨x0, x1, x2, x3, x4, xf⟩ := Tr.cells5 (show Bs.Box w8 X #[.int .i64 k, .string ⟨#[]⟩, .slice a2 n2 d2, .slice a3 n3 d3, .slice a4 n4 d4] _ from HS8.out.x)
              have c2 := HS8.out.at_.c2
              have HY := Lib.hid hy
              clear hy
              have ⟨y0, y1, y2, y3, y4, yf⟩ := Tr.cells5 HS8.out.v
              go_wp2_with fail
              obtain ⟨W, hW, hX, hq, hz, ho, ht, hu⟩ := Tr.five HS8.out.v (.int .i64 k) (.string ⟨#[]⟩) (.slice a2 n2 d2) (.slice a3 n3 d3) (.slice a4 n4 d4)
              rw [hW]
              obtain ⟨z0, z1, z2, z3, z4, -⟩ := Tr.cells5 hX
              refine bodyPost_ret (v := .agg #[.int .i64 k, .string ⟨#[]⟩, .slice a2 n2 d2, .slice a3 n3 d3, .slice a4 n4 d4]) (by simp [results, Tryz.results63, go_sem, z0, z1, z2, z3, z4]) rfl ?_
              exact HS8.out.done hq hz ho ht hu (fun x hx => by injection hx with hx; exact ⟨hx.symm, HY.out⟩) (fun x j' hx => by cases hx)
            | ok p =>
              obtain ⟨els, tag2, j2⟩ := p
              obtain ⟨rfl, ht7, hij7, hjN7, a7, l7⟩ := OK7.out els tag2 j2 rfl
              have HS8 := Lib.hid ((HS6.out.then K7.out a7).setX 4 (.slice a4 n4 d4))
              have HQ8 := Lib.hid (Tr.lies_set (b := X) (c := 4) (u := .slice a4 n4 d4) (Tr.lies_lo l7 HS6.out.hi) (by omega))
              clear HL6 HM6 K7 ER7 OK7 HXB a7 l7 HS6 x0 x1 x2 x3 x4 xf
              generalize w7.setCell ⟨X, 4, none⟩ (.slice a4 n4 d4) = w8 at *
              obtain ⟨x0, x1, x2, x3, x4, xf⟩ := Tr.cells5 (show Bs.Box w8 X #[.int .i64 k, .string ⟨#[]⟩, .slice a2 n2 d2, .slice a3 n3 d3, .slice a4 n4 d4] _ from HS8.out.x)
              have c2 := HS8.out.at_.c2
              have f := HS8.out.at_.fz
              match tag2, ht7 with
              | 0, _ =>
                rw [show Tr.tag 0 = ⟨#[]⟩ from rfl]
                have hG : .error 1600 = G := HG3.out
                subst hG
                clear HG3 HL7 HM7 HQ8
                go_upto_region 16 with fail
                have HS9 := Lib.hid (HS8.out.err 1600)
                clear HS8 c2 f x0 x1 x2 x3 x4 xf
                generalize w8.setCell ⟨g, 2, none⟩ (.int .i64 1600) = w9 at *
                obtain ⟨x0, x1, x2, x3, x4, xf⟩ := Tr.cells5 (show Bs.Box w9 X #[.int .i64 k, .string ⟨#[]⟩, .slice a2 n2 d2, .slice a3 n3 d3, .slice a4 n4 d4] _ from HS9.out.x)
                have c2 := HS9.out.at_.c2
                have ⟨y0, y1, y2, y3, y4, yf⟩ := Tr.cells5 HS9.out.v
                go_wp2_with fail
                obtain ⟨W, hW, hX, hq, hz, ho, ht, hu⟩ := Tr.five HS9.out.v (.int .i64 k) (.string ⟨#[]⟩) (.slice a2 n2 d2) (.slice a3 n3 d3) (.slice a4 n4 d4)
                rw [hW]
                obtain ⟨z0, z1, z2, z3, z4, -⟩ := Tr.cells5 hX
                refine bodyPost_ret (v := .agg #[.int .i64 k, .string ⟨#[]⟩, .slice a2 n2 d2, .slice a3 n3 d3, .slice a4 n4 d4]) (by simp [results, Tryz.results63, go_sem, z0, z1, z2, z3, z4]) rfl ?_
                exact HS9.out.done hq hz ho ht hu (fun x hx => by injection hx with hx; exact ⟨hx.symm, by decide⟩) (fun x j' hx => by cases hx)
              | 1, _ =>
                rw [show Tr.tag 1 = ⟨#[101, 108, 115, 101]⟩ from rfl]
                have hG : .error 1601 = G := HG3.out
                subst hG
                clear HG3 HL7 HM7 HQ8
                go_upto_region 14 with fail
                have HS9 := Lib.hid (HS8.out.err 1601)
                clear HS8 c2 f x0 x1 x2 x3 x4 xf
                generalize w8.setCell ⟨g, 2, none⟩ (.int .i64 1601) = w9 at *
                obtain ⟨x0, x1, x2, x3, x4, xf⟩ := Tr.cells5 (show Bs.Box w9 X #[.int .i64 k, .string ⟨#[]⟩, .slice a2 n2 d2, .slice a3 n3 d3, .slice a4 n4 d4] _ from HS9.out.x)
                have c2 := HS9.out.at_.c2
                have ⟨y0, y1, y2, y3, y4, yf⟩ := Tr.cells5 HS9.out.v
                go_wp2_with fail
                obtain ⟨W, hW, hX, hq, hz, ho, ht, hu⟩ := Tr.five HS9.out.v (.int .i64 k) (.string ⟨#[]⟩) (.slice a2 n2 d2) (.slice a3 n3 d3) (.slice a4 n4 d4)
                rw [hW]
                obtain ⟨z0, z1, z2, z3, z4, -⟩ := Tr.cells5 hX
                refine bodyPost_ret (v := .agg #[.int .i64 k, .string ⟨#[]⟩, .slice a2 n2 d2, .slice a3 n3 d3, .slice a4 n4 d4]) (by simp [results, Tryz.results63, go_sem, z0, z1, z2, z3, z4]) rfl ?_
                exact HS9.out.done hq hz ho ht hu (fun x hx => by injection hx with hx; exact ⟨hx.symm, by decide⟩) (fun x j' hx => by cases hx)
              | 2, _ =>
                rw [show Tr.tag 2 = ⟨#[101, 110, 100]⟩ from rfl]
                have hG : .ok ((It.mk k [] cs thn els), j2) = G := HG3.out
                subst hG
                clear HG3
                have HF : Hid (Mt.fits w8 (Tr.L (X + 2) w8) (It.dt (.mk k [] cs thn els)) [.int .i64 k, .string ⟨#[]⟩, .slice a2 n2 d2, .slice a3 n3 d3, .slice a4 n4 d4]) := by unfold Hid; rw [It.dt_mk]; exact ⟨Mt.i, Mt.s, HL7.out, HM7.out, HQ8.out, trivial⟩
                clear HL7 HM7 HQ8
                have ⟨y0, y1, y2, y3, y4, yf⟩ := Tr.cells5 HS8.out.v
                go_wp2_with fail
                obtain ⟨W, hW, hX, hq, hz, ho, ht, hu⟩ := Tr.five HS8.out.v (.int .i64 k) (.string ⟨#[]⟩) (.slice a2 n2 d2) (.slice a3 n3 d3) (.slice a4 n4 d4)
                rw [hW]
                obtain ⟨z0, z1, z2, z3, z4, -⟩ := Tr.cells5 hX
                refine bodyPost_ret (v := .agg #[.int .i64 k, .string ⟨#[]⟩, .slice a2 n2 d2, .slice a3 n3 d3, .slice a4 n4 d4]) (by simp [results, Tryz.results63, go_sem, z0, z1, z2, z3, z4]) rfl ?_
                exact HS8.out.done hq hz ho ht hu (fun x hx => by cases hx) (fun x j' hx => by injection hx with hx; injection hx with h1 h2; subst h1 h2; exact ⟨rfl, rfl, by omega, hjN7, HF.out⟩)
      · skip
        go_upto_region 8 with (go_at_call 19; refine r1.mono ?_; rintro e w5 ⟨⟨a3, n3, d3, tg, rfl, k5, er5, ok5⟩⟩; have K5 := Lib.hid k5; have ER5 := Lib.hid er5; have OK5 := Lib.hid ok5; have HXB := Lib.hid (Tr.box_kept HS2.out.x k5 (by omega)); clear k5 er5 ok5 r1 c2 f x0 x1 x2 x3 x4 xf; obtain ⟨x0, x1, x2, x3, x4, xf⟩ := Tr.cells5 HXB.out)
        have HL5 := Lib.hid (Tr.lies_kept HL2.out K5.out (by omega))
        have HL6 := Lib.hid (Tr.lies_set (b := X) (c := 3) (u := .slice a3 n3 d3) HL5.out (by omega))
        cases G1 with
        | error y =>
          obtain ⟨hy, j5, a5⟩ := ER5.out y rfl
          have HS6 := Lib.hid ((HS2.out.then K5.out a5).setX 3 (.slice a3 n3 d3))
          clear HL5 K5 ER5 OK5 HXB a5 HS2 HL2 x0 x1 x2 x3 x4 xf
          generalize w5.setCell ⟨X, 3, none⟩ (.slice a3 n3 d3) = w6 at *
          have hG : .error y = G := HG.out
          subst hG
          clear HG
          have hy2 : (y == 0) = false := beq_eq_false_iff_ne.2 hy
          obtain ⟨x0, x1, x2, x3, x4, xf⟩ := Tr.cells5 (show Bs.Box w6 X #[.int .i64 k, .string ⟨#[]⟩, .slice a2 n2 d2, .slice a3 n3 d3, .slice none 0 0] _ from HS6.out.x)
          have c2 := HS6.out.at_.c2
          have HY := Lib.hid hy
          clear hy
          have ⟨y0, y1, y2, y3, y4, yf⟩ := Tr.cells5 HS6.out.v
          go_wp2_with fail
          obtain ⟨W, hW, hX, hq, hz, ho, ht, hu⟩ := Tr.five HS6.out.v (.int .i64 k) (.string ⟨#[]⟩) (.slice a2 n2 d2) (.slice a3 n3 d3) (.slice none 0 0)
          rw [hW]
          obtain ⟨z0, z1, z2, z3, z4, -⟩ := Tr.cells5 hX
          refine bodyPost_ret (v := .agg #[.int .i64 k, .string ⟨#[]⟩, .slice a2 n2 d2, .slice a3 n3 d3, .slice none 0 0]) (by simp [results, Tryz.results63, go_sem, z0, z1, z2, z3, z4]) rfl ?_
          exact HS6.out.done hq hz ho ht hu (fun x hx => by injection hx with hx; exact ⟨hx.symm, HY.out⟩) (fun x j' hx => by cases hx)
        | ok p =>
          obtain ⟨thn, tag, j⟩ := p
          obtain ⟨rfl, ht2, hij, hjN, a5, l5⟩ := OK5.out thn tag j rfl
          have HS6 := Lib.hid ((HS2.out.then K5.out a5).setX 3 (.slice a3 n3 d3))
          have HM5 := Lib.hid (Tr.lies_lo l5 HS2.out.hi)
          have HM6 := Lib.hid (Tr.lies_set (b := X) (c := 3) (u := .slice a3 n3 d3) HM5.out (by omega))
          clear HL5 HM5 K5 ER5 OK5 HXB a5 l5 HS2 HL2 x0 x1 x2 x3 x4 xf
          generalize w5.setCell ⟨X, 3, none⟩ (.slice a3 n3 d3) = w6 at *
          obtain ⟨x0, x1, x2, x3, x4, xf⟩ := Tr.cells5 (show Bs.Box w6 X #[.int .i64 k, .string ⟨#[]⟩, .slice a2 n2 d2, .slice a3 n3 d3, .slice none 0 0] _ from HS6.out.x)
          have c2 := HS6.out.at_.c2
          have f := HS6.out.at_.fz
          match tag, ht2 with
          | 0, _ =>
            rw [show Tr.tag 0 = ⟨#[]⟩ from rfl]
            have hG : .error 1600 = G := HG.out
            subst hG
            clear HG HL6 HM6
            go_upto_region 16 with fail
            have HS7 := Lib.hid (HS6.out.err 1600)
            clear HS6 c2 f x0 x1 x2 x3 x4 xf
            generalize w6.setCell ⟨g, 2, none⟩ (.int .i64 1600) = w7 at *
            obtain ⟨x0, x1, x2, x3, x4, xf⟩ := Tr.cells5 (show Bs.Box w7 X #[.int .i64 k, .string ⟨#[]⟩, .slice a2 n2 d2, .slice a3 n3 d3, .slice none 0 0] _ from HS7.out.x)
            have c2 := HS7.out.at_.c2
            have ⟨y0, y1, y2, y3, y4, yf⟩ := Tr.cells5 HS7.out.v
            go_wp2_with fail
            obtain ⟨W, hW, hX, hq, hz, ho, ht, hu⟩ := Tr.five HS7.out.v (.int .i64 k) (.string ⟨#[]⟩) (.slice a2 n2 d2) (.slice a3 n3 d3) (.slice none 0 0)
            rw [hW]
            obtain ⟨z0, z1, z2, z3, z4, -⟩ := Tr.cells5 hX
            refine bodyPost_ret (v := .agg #[.int .i64 k, .string ⟨#[]⟩, .slice a2 n2 d2, .slice a3 n3 d3, .slice none 0 0]) (by simp [results, Tryz.results63, go_sem, z0, z1, z2, z3, z4]) rfl ?_
            exact HS7.out.done hq hz ho ht hu (fun x hx => by injection hx with hx; exact ⟨hx.symm, by decide⟩) (fun x j' hx => by cases hx)
          | 2, _ =>
            rw [show Tr.tag 2 = ⟨#[101, 110, 100]⟩ from rfl]
            have hG : .ok ((It.mk k [] cs thn []), j) = G := HG.out
            subst hG
            clear HG
            have HF : Hid (Mt.fits w6 (Tr.L (X + 2) w6) (It.dt (.mk k [] cs thn [])) [.int .i64 k, .string ⟨#[]⟩, .slice a2 n2 d2, .slice a3 n3 d3, .slice none 0 0]) := by unfold Hid; rw [It.dt_mk]; exact ⟨Mt.i, Mt.s, HL6.out, HM6.out, Mt.n, trivial⟩
            clear HL6 HM6
            have ⟨y0, y1, y2, y3, y4, yf⟩ := Tr.cells5 HS6.out.v
            go_wp2_with fail
            obtain ⟨W, hW, hX, hq, hz, ho, ht, hu⟩ := Tr.five HS6.out.v (.int .i64 k) (.string ⟨#[]⟩) (.slice a2 n2 d2) (.slice a3 n3 d3) (.slice none 0 0)
            rw [hW]
            obtain ⟨z0, z1, z2, z3, z4, -⟩ := Tr.cells5 hX
            refine bodyPost_ret (v := .agg #[.int .i64 k, .string ⟨#[]⟩, .slice a2 n2 d2, .slice a3 n3 d3, .slice none 0 0]) (by simp [results, Tryz.results63, go_sem, z0, z1, z2, z3, z4]) rfl ?_
            exact HS6.out.done hq hz ho ht hu (fun x hx => by cases hx) (fun x j' hx => by injection hx with hx; injection hx with h1 h2; subst h1 h2; exact ⟨rfl, rfl, hij, hjN, HF.out⟩)
          | 1, _ =>
            rw [show Tr.tag 1 = ⟨#[101, 108, 115, 101]⟩ from rfl]
            have r2 := HR2.out j w6 hij hjN HS6.out.at_ (Tr.pcs HP.out HS6.out.kept)
            obtain ⟨G2, hG2⟩ : ∃ G2, Tm.rows ps n (deep + 1) false j [] = G2 := ⟨_, rfl⟩
            rw [hG2] at r2
            have HG3 : Hid (Tm.els k cs thn G2 = G) := by rw [← hG2]; exact HG.out
            clear HG hG2 HR2
            go_upto_region 12 with (go_at_call 19; refine r2.mono ?_; rintro e w7 ⟨⟨a4, n4, d4, tg, rfl, k7, er7, ok7⟩⟩; have K7 := Lib.hid k7; have ER7 := Lib.hid er7; have OK7 := Lib.hid ok7; have HXB := Lib.hid (Tr.box_kept HS6.out.x k7 (by omega)); clear k7 er7 ok7 r2 c2 f x0 x1 x2 x3 x4 xf; obtain ⟨x0, x1, x2, x3, x4, xf⟩ := Tr.cells5 (show Bs.Box w7 X #[.int .i64 k, .string ⟨#[]⟩, .slice a2 n2 d2, .slice a3 n3 d3, .slice none 0 0] _ from HXB.out))
            have HL7 := Lib.hid (Tr.lies_set (b := X) (c := 4) (u := .slice a4 n4 d4) (Tr.lies_kept HL6.out K7.out (by omega)) (by omega))
            have HM7 := Lib.hid (Tr.lies_set (b := X) (c := 4) (u := .slice a4 n4 d4) (Tr.lies_kept HM6.out K7.out (by omega)) (by omega))
            cases G2 with
            | error y =>
              obtain ⟨hy, j7, a7⟩ := ER7.out y rfl
              have HS8 := Lib.hid ((HS6.out.then K7.out a7).setX 4 (.slice a4 n4 d4))
              clear HL7 HM7 HL6 HM6 K7 ER7 OK7 HXB a7 HS6 x0 x1 x2 x3 x4 xf
              generalize w7.setCell ⟨X, 4, none⟩ (.slice a4 n4 d4) = w8 at *
              have hG : .error y = G := HG3.out
              subst hG
              clear HG3
              have hy2 : (y == 0) = false := beq_eq_false_iff_ne.2 hy
              obtain ⟨x0, x1, x2, x3, x4, xf⟩ := Tr.cells5 (show Bs.Box w8 X #[.int .i64 k, .string ⟨#[]⟩, .slice a2 n2 d2, .slice a3 n3 d3, .slice a4 n4 d4] _ from HS8.out.x)
              have c2 := HS8.out.at_.c2
              have HY := Lib.hid hy
              clear hy
              have ⟨y0, y1, y2, y3, y4, yf⟩ := Tr.cells5 HS8.out.v
              go_wp2_with fail
              obtain ⟨W, hW, hX, hq, hz, ho, ht, hu⟩ := Tr.five HS8.out.v (.int .i64 k) (.string ⟨#[]⟩) (.slice a2 n2 d2) (.slice a3 n3 d3) (.slice a4 n4 d4)
              rw [hW]
              obtain ⟨z0, z1, z2, z3, z4, -⟩ := Tr.cells5 hX
              refine bodyPost_ret (v := .agg #[.int .i64 k, .string ⟨#[]⟩, .slice a2 n2 d2, .slice a3 n3 d3, .slice a4 n4 d4]) (by simp [results, Tryz.results63, go_sem, z0, z1, z2, z3, z4]) rfl ?_
              exact HS8.out.done hq hz ho ht hu (fun x hx => by injection hx with hx; exact ⟨hx.symm, HY.out⟩) (fun x j' hx => by cases hx)
            | ok p =>
              obtain ⟨els, tag2, j2⟩ := p
              obtain ⟨rfl, ht7, hij7, hjN7, a7, l7⟩ := OK7.out els tag2 j2 rfl
              have HS8 := Lib.hid ((HS6.out.then K7.out a7).setX 4 (.slice a4 n4 d4))
              have HQ8 := Lib.hid (Tr.lies_set (b := X) (c := 4) (u := .slice a4 n4 d4) (Tr.lies_lo l7 HS6.out.hi) (by omega))
              clear HL6 HM6 K7 ER7 OK7 HXB a7 l7 HS6 x0 x1 x2 x3 x4 xf
              generalize w7.setCell ⟨X, 4, none⟩ (.slice a4 n4 d4) = w8 at *
              obtain ⟨x0, x1, x2, x3, x4, xf⟩ := Tr.cells5 (show Bs.Box w8 X #[.int .i64 k, .string ⟨#[]⟩, .slice a2 n2 d2, .slice a3 n3 d3, .slice a4 n4 d4] _ from HS8.out.x)
              have c2 := HS8.out.at_.c2
              have f := HS8.out.at_.fz
              match tag2, ht7 with
              | 0, _ =>
                rw [show Tr.tag 0 = ⟨#[]⟩ from rfl]
                have hG : .error 1600 = G := HG3.out
                subst hG
                clear HG3 HL7 HM7 HQ8
                go_upto_region 16 with fail
                have HS9 := Lib.hid (HS8.out.err 1600)
                clear HS8 c2 f x0 x1 x2 x3 x4 xf
                generalize w8.setCell ⟨g, 2, none⟩ (.int .i64 1600) = w9 at *
                obtain ⟨x0, x1, x2, x3, x4, xf⟩ := Tr.cells5 (show Bs.Box w9 X #[.int .i64 k, .string ⟨#[]⟩, .slice a2 n2 d2, .slice a3 n3 d3, .slice a4 n4 d4] _ from HS9.out.x)
                have c2 := HS9.out.at_.c2
                have ⟨y0, y1, y2, y3, y4, yf⟩ := Tr.cells5 HS9.out.v
                go_wp2_with fail
                obtain ⟨W, hW, hX, hq, hz, ho, ht, hu⟩ := Tr.five HS9.out.v (.int .i64 k) (.string ⟨#[]⟩) (.slice a2 n2 d2) (.slice a3 n3 d3) (.slice a4 n4 d4)
                rw [hW]
                obtain ⟨z0, z1, z2, z3, z4, -⟩ := Tr.cells5 hX
                refine bodyPost_ret (v := .agg #[.int .i64 k, .string ⟨#[]⟩, .slice a2 n2 d2, .slice a3 n3 d3, .slice a4 n4 d4]) (by simp [results, Tryz.results63, go_sem, z0, z1, z2, z3, z4]) rfl ?_
                exact HS9.out.done hq hz ho ht hu (fun x hx => by injection hx with hx; exact ⟨hx.symm, by decide⟩) (fun x j' hx => by cases hx)
              | 1, _ =>
                rw [show Tr.tag 1 = ⟨#[101, 108, 115, 101]⟩ from rfl]
                have hG : .error 1601 = G := HG3.out
                subst hG
                clear HG3 HL7 HM7 HQ8
                go_upto_region 14 with fail
                have HS9 := Lib.hid (HS8.out.err 1601)
                clear HS8 c2 f x0 x1 x2 x3 x4 xf
                generalize w8.setCell ⟨g, 2, none⟩ (.int .i64 1601) = w9 at *
                obtain ⟨x0, x1, x2, x3, x4, xf⟩ := Tr.cells5 (show Bs.Box w9 X #[.int .i64 k, .string ⟨#[]⟩, .slice a2 n2 d2, .slice a3 n3 d3, .slice a4 n4 d4] _ from HS9.out.x)
                have c2 := HS9.out.at_.c2
                have ⟨y0, y1, y2, y3, y4, yf⟩ := Tr.cells5 HS9.out.v
                go_wp2_with fail
                obtain ⟨W, hW, hX, hq, hz, ho, ht, hu⟩ := Tr.five HS9.out.v (.int .i64 k) (.string ⟨#[]⟩) (.slice a2 n2 d2) (.slice a3 n3 d3) (.slice a4 n4 d4)
                rw [hW]
                obtain ⟨z0, z1, z2, z3, z4, -⟩ := Tr.cells5 hX
                refine bodyPost_ret (v := .agg #[.int .i64 k, .string ⟨#[]⟩, .slice a2 n2 d2, .slice a3 n3 d3, .slice a4 n4 d4]) (by simp [results, Tryz.results63, go_sem, z0, z1, z2, z3, z4]) rfl ?_
                exact HS9.out.done hq hz ho ht hu (fun x hx => by injection hx with hx; exact ⟨hx.symm, by decide⟩) (fun x j' hx => by cases hx)
              | 2, _ =>
                rw [show Tr.tag 2 = ⟨#[101, 110, 100]⟩ from rfl]
                have hG : .ok ((It.mk k [] cs thn els), j2) = G := HG3.out
                subst hG
                clear HG3
                have HF : Hid (Mt.fits w8 (Tr.L (X + 2) w8) (It.dt (.mk k [] cs thn els)) [.int .i64 k, .string ⟨#[]⟩, .slice a2 n2 d2, .slice a3 n3 d3, .slice a4 n4 d4]) := by unfold Hid; rw [It.dt_mk]; exact ⟨Mt.i, Mt.s, HL7.out, HM7.out, HQ8.out, trivial⟩
                clear HL7 HM7 HQ8
                have ⟨y0, y1, y2, y3, y4, yf⟩ := Tr.cells5 HS8.out.v
                go_wp2_with fail
                obtain ⟨W, hW, hX, hq, hz, ho, ht, hu⟩ := Tr.five HS8.out.v (.int .i64 k) (.string ⟨#[]⟩) (.slice a2 n2 d2) (.slice a3 n3 d3) (.slice a4 n4 d4)
                rw [hW]
                obtain ⟨z0, z1, z2, z3, z4, -⟩ := Tr.cells5 hX
                refine bodyPost_ret (v := .agg #[.int .i64 k, .string ⟨#[]⟩, .slice a2 n2 d2, .slice a3 n3 d3, .slice a4 n4 d4]) (by simp [results, Tryz.results63, go_sem, z0, z1, z2, z3, z4]) rfl ?_
                exact HS8.out.done hq hz ho ht hu (fun x hx => by cases hx) (fun x j' hx => by injection hx with hx; injection hx with h1 h2; subst h1 h2; exact ⟨rfl, rfl, by omega, hjN7, HF.out⟩)
  · have dE : (E == 0) = false := beq_eq_false_iff_ne.2 hE
    rw [if_pos hE] at HG
    have hG : .error E = G := HG.out
    subst hG
    have HEE := Lib.hid hE
    clear HG HL2 hE
    have ⟨y0, y1, y2, y3, y4, yf⟩ := Tr.cells5 HS2.out.v
    go_wp2_with fail
    obtain ⟨W, hW, hX, hq, hz, ho, ht, hu⟩ := Tr.five HS2.out.v (.int .i64 k) (.string ⟨#[]⟩) (.slice a2 n2 d2) (.slice none 0 0) (.slice none 0 0)
    rw [hW]
    obtain ⟨z0, z1, z2, z3, z4, -⟩ := Tr.cells5 hX
    refine bodyPost_ret (v := .agg #[.int .i64 k, .string ⟨#[]⟩, .slice a2 n2 d2, .slice none 0 0, .slice none 0 0]) (by simp [results, Tryz.results63, go_sem, z0, z1, z2, z3, z4]) rfl ?_
    exact HS2.out.done hq hz ho ht hu (fun x hx => by injection hx with hx; exact ⟨hx.symm, HEE.out⟩) (fun x j' hx => by cases hx)
end Go.Proofs.YtjppobeomocgbaaGreatDoor

/-
  THE WALK of stolelaw0.SameItems, at the same items.
-/
import Derived.Test.YtjppobeomocgbaaGreatDoorTMPlaintoISame
import Derived.BigQuiet
import Derived.Test.YtjppobeomocgbaaGreatDoorTGDatatoGCopy
import Derived.Test.YtjppobeomocgbaaGreatDoorTGKittoLRef1
import Derived.Lib.ItoaNum
import Derived.CellFam
import Derived.KernelRfl
namespace Go.Proofs.YtjppobeomocgbaaGreatDoor
open Go.RowKit
/-- the worlds that have grown from one: a class for a region that draws its order -/
def Jq.Wd (L : World) : Type := { u : World // Below L.heap.size L u }
theorem Jq.ne (L : World) : Nonempty (Jq.Wd L) := ⟨⟨L, Below.refl _ _⟩⟩
theorem Jq.region {L : World} {id : Nat} {Q : Exit → Act → World → Prop} {a : Act} {l : List Oper} (hB : Region.lexB .any l.toArray = true)
    (h : wpQuiet Tryz.prog l.toArray (fun u => ∃ q : Jq.Wd L, u = q.1) (fun a' => ∀ w', (∃ q : Jq.Wd L, w' = q.1) → Q .normal a' w') l a) : (Code.region id l.toArray true).wp Tryz.prog Q a L :=
  wp_region_quiet (C := fun u => ∃ q : Jq.Wd L, u = q.1) (by kernel_rfl) hB ⟨⟨_, (Below.refl _ _).drew⟩, rfl⟩ (by simpa using h)
theorem Jq.call {L : World} {f : FuncId} {args : Array Value} {v : Value} (q : Jq.Wd L) (h : Calls Tryz.prog f args q.1 fun e w' => e = .returned v ∧ Below q.1.heap.size q.1 w') :
    Calls Tryz.prog f args q.1 fun e w'' => e = .returned v ∧ ∃ m : Jq.Wd L, w'' = m.1 :=
  h.mono fun _ w' ⟨he, hb⟩ => ⟨he, ⟨w', q.2.trans (hb.mono q.2.size)⟩, rfl⟩
/-- what a row of items is: its form, and each cell -/
theorem It.get {w : World} {R : Nat → Prop} {l : List It} {v : Value} (h : Dt.Lies w R (It.rows l) v) :
    ∃ a d, v = .slice a l.length d ∧ l.length ≤ d ∧ d ≤ maxLen ∧ ∀ (i : Nat) (k : Int) t p x y, l[i]? = some (It.mk k t p x y) → ∃ b o pv xv yv, a = some ⟨b, o, none⟩ ∧ R b ∧ w.cell? ⟨b, o + i * 5, none⟩ = some (.int .i64 k) ∧ w.cell? ⟨b, o + i * 5 + 1, none⟩ = some (.string ⟨t.toArray⟩) ∧ w.cell? ⟨b, o + i * 5 + 2, none⟩ = some pv ∧ w.cell? ⟨b, o + i * 5 + 3, none⟩ = some xv ∧ w.cell? ⟨b, o + i * 5 + 4, none⟩ = some yv ∧ Dt.Lies w R (Cm.rows p) pv ∧ Dt.Lies w R (It.rows x) xv ∧ Dt.Lies w R (It.rows y) yv := by
  obtain ⟨a, d, e, h1, h2, hx⟩ := h.get It.dt_len (by decide)
  refine ⟨a, d, e, h1, h2, fun i k t p x y hi => ?_⟩
  obtain ⟨b, o, ea, hb, hc⟩ := hx i _ hi
  rw [It.dt_mk] at hc
  obtain ⟨u0, c0, l0⟩ := hc 0 _ rfl
  obtain ⟨u1, c1, l1⟩ := hc 1 _ rfl
  obtain ⟨u2, c2, l2⟩ := hc 2 _ rfl
  obtain ⟨u3, c3, l3⟩ := hc 3 _ rfl
  obtain ⟨u4, c4, l4⟩ := hc 4 _ rfl
  unfold Dt.Lies at l0 l1
  subst l0 l1
  exact ⟨b, o, u2, u3, u4, ea, hb, c0, c1, c2, c3, c4, l2, l3, l4⟩
theorem It.sub {l : List It} {i N : Nat} {k : Int} {t p x y} (hs : SizeOf.sizeOf l ≤ N + 1) (h : l[i]? = some (It.mk k t p x y)) : SizeOf.sizeOf x ≤ N ∧ SizeOf.sizeOf y ≤ N := by
  have h1 := List.sizeOf_lt_of_mem (List.mem_of_getElem? h)
  simp at h1
  omega
set_option maxRecDepth 100000 in
set_option maxHeartbeats 4000000 in
theorem Sa.items : ∀ (N : Nat) (l : List It), SizeOf.sizeOf l ≤ N → ∀ (v1 v2 : Value) (R R' : Nat → Prop) (w : World), Dt.Lies w R (It.rows l) v1 → Dt.Lies w R' (It.rows l) v2 →
    Calls Tryz.prog 10 #[v1, v2] w fun e w' => e = .returned (.bool true) ∧ Below w.heap.size w w' := by
  intro N
  induction N with
  | zero => intro l hs; cases l <;> simp at hs
  | succ N ih =>
    intro l hs v1 v2 R R' w h1 h2
    obtain ⟨a1, d1, rfl, l1, m1, x1⟩ := It.get h1
    obtain ⟨a2, d2, rfl, l2, m2, x2⟩ := It.get h2
    have X1 := Lib.hid x1
    have X2 := Lib.hid x2
    have IH := Lib.hid ih
    have hml : l.length ≤ 9223372036854775807 := by unfold maxLen at m1; omega
    clear x1 x2 h1 h2 m1 m2 ih
    go_enter Tryz.func10, Tryz.ntmps10
    go_wp2_with fail
    go_loopw [5] (fun iv wr => ∃ i : Nat, i ≤ l.length ∧ iv = .int .i64 (i : Int) ∧ Hid (Below w.heap.size w wr)) (fun iv _ => l.length - (intOf iv).toNat)
    case atStart => exact ⟨0, Nat.zero_le _, rfl, Below.refl _ _⟩
    case round =>
      obtain ⟨i, hi, rfl, HW⟩ := hrel
      by_cases hlt : i < l.length
      · have dlt : decide ((i : Int) < (l.length : Int)) = true := decide_eq_true (by omega)
        obtain ⟨k, t, p, x, y, hx⟩ : ∃ k t p x y, l[i]? = some (It.mk k t p x y) := by
          rw [List.getElem?_eq_getElem hlt]
          cases l[i] with
          | mk k t p x y => exact ⟨k, t, p, x, y, rfl⟩
        obtain ⟨hsx, hsy⟩ := It.sub hs hx
        obtain ⟨b1, o1, p1, q1, r1, rfl, _, c10, c11, c12, c13, c14, e1, e2, e3⟩ := X1.out i k t p x y hx
        obtain ⟨b2, o2, p2, q2, r2, rfl, _, c20, c21, c22, c23, c24, f1, f2, f3⟩ := X2.out i k t p x y hx
        have hid1 : i < d1 := by omega
        have hid2 : i < d2 := by omega
        have ne := Jq.ne wr
        have k10 := fun q : Jq.Wd wr => Tp.keep q.2 (Tp.keep HW.out c10)
        have k11 := fun q : Jq.Wd wr => Tp.keep q.2 (Tp.keep HW.out c11)
        have k12 := fun q : Jq.Wd wr => Tp.keep q.2 (Tp.keep HW.out c12)
        have k13 := fun q : Jq.Wd wr => Tp.keep q.2 (Tp.keep HW.out c13)
        have k14 := fun q : Jq.Wd wr => Tp.keep q.2 (Tp.keep HW.out c14)
        have k20 := fun q : Jq.Wd wr => Tp.keep q.2 (Tp.keep HW.out c20)
        have k21 := fun q : Jq.Wd wr => Tp.keep q.2 (Tp.keep HW.out c21)
        have k22 := fun q : Jq.Wd wr => Tp.keep q.2 (Tp.keep HW.out c22)
        have k23 := fun q : Jq.Wd wr => Tp.keep q.2 (Tp.keep HW.out c23)
        have k24 := fun q : Jq.Wd wr => Tp.keep q.2 (Tp.keep HW.out c24)
        have P := fun q : Jq.Wd wr => (fun hb : Below w.heap.size w q.1 => Jq.call q (Sa.pipe0 p p1 p2 (fun _ => True) (fun _ => True) q.1 (e1.later hb) (f1.later hb))) (HW.out.trans (q.2.mono HW.out.size))
        have Q := fun (q : Jq.Wd wr) a b (hab : a = q1 ∧ b = q2 ∨ a = r1 ∧ b = r2) => (fun hb : Below w.heap.size w q.1 => Jq.call (f := 10) (args := #[a, b]) (v := .bool true) q (by
          rcases hab with ⟨ea, eb⟩ | ⟨ea, eb⟩
          · rw [ea, eb]; exact IH.out x hsx q1 q2 (fun _ => True) (fun _ => True) q.1 (e2.later hb) (f2.later hb)
          · rw [ea, eb]; exact IH.out y hsy r1 r2 (fun _ => True) (fun _ => True) q.1 (e3.later hb) (f3.later hb))) (HW.out.trans (q.2.mono HW.out.size))
        clear e1 e2 e3 f1 f2 f3 hx hsx hsy c10 c11 c12 c13 c14 c20 c21 c22 c23 c24 X1 X2
        have HIH := Lib.hid IH
        clear IH
        go_wp2_with fail
        simp only [List.append]
        refine Jq.region (L := wr) (by kernel_rfl) ?_
        repeat (go_big_quiet_step (first | (go_at_call 20; exact P _) | (go_at_call 10; exact Q _ _ _ (by first | exact Or.inl ⟨rfl, rfl⟩ | exact Or.inr ⟨rfl, rfl⟩))))
        refine wpQuiet_nil ?_
        rintro _ ⟨q, rfl⟩
        go_wp2_with fail
        go_roundw
        case rel => exact ⟨i + 1, by omega, by go_num, HW.out.trans (q.2.mono HW.out.size)⟩
        case measure => simp [intOf]; omega
      · have ei : i = l.length := by omega
        subst ei
        have dlt : decide ((l.length : Int) < (l.length : Int)) = false := decide_eq_false (by omega)
        go_wp2_with fail
        go_ret
        exact ⟨rfl, HW.out⟩
end Go.Proofs.YtjppobeomocgbaaGreatDoor
/-
  stolelaw0.Num; data that were written down.
-/
namespace Go.Proofs.YtjppobeomocgbaaGreatDoor
open Go.RowKit
theorem Iw.num (x : Int) (w : World) : Calls Tryz.prog 11 #[.int .i64 x] w fun e w' => e = .returned (.int .i64 x) ∧ w' = w := by
  go_enter Tryz.func11, Tryz.ntmps11
  go_wp2
  go_ret
  exact ⟨rfl, rfl⟩
/-- cells that are these data -/
def Dt.fits (w : World) (R : Nat → Prop) : List Dt → List Value → Prop
  | [], [] => True
  | d :: ds, v :: vs => Dt.Lies w R d v ∧ Dt.fits w R ds vs
  | _, _ => False
theorem Dt.fits_get {w : World} {R : Nat → Prop} : ∀ (ds : List Dt) (vs : List Value), Dt.fits w R ds vs → ∀ (i : Nat) d, ds[i]? = some d → ∃ u, vs[i]? = some u ∧ Dt.Lies w R d u := by
  intro ds
  induction ds with
  | nil => intro vs _ i d h; simp at h
  | cons x ds ih =>
    intro vs hf i d h
    cases vs with
    | nil => exact hf.elim
    | cons v vs =>
      cases i with
      | zero =>
        simp only [List.getElem?_cons_zero, Option.some.injEq] at h
        subst h
        exact ⟨v, rfl, hf.1⟩
      | succ i =>
        rw [List.getElem?_cons_succ] at h ⊢
        exact ih vs hf.2 i d h
/-- a row that was written down, in a block -/
theorem Dt.lit {α : Type} {k : Nat} {f : α → List Dt} {w : World} {g : Nat} {cs : Array Value} {ty : TypeId} {R : Nat → Prop} (l : List α) (n : Nat) (h : Bs.Box w g cs ty) (hn : l.length = n) (hm : n ≤ 1000) (hR : R g) (hk : ∀ x, (f x).length = k) (hf : Dt.fits w R (l.flatMap f) cs.toList) : Dt.Lies w R (Dt.rows k f l) (.slice (some ⟨g, 0, none⟩) n n) := by
  subst hn
  unfold Dt.rows Dt.flat Dt.Lies
  refine ⟨_, _, rfl, Nat.le_refl _, by unfold maxLen; omega, fun i hi => ?_⟩
  have hd := List.getElem?_eq_getElem (l := l.flatMap f) (show i < (l.flatMap f).length by rw [Dt.flat_len hk]; exact hi)
  obtain ⟨u, h1, h2⟩ := Dt.fits_get _ _ hf i _ hd
  refine ⟨g, 0, u, rfl, hR, h.cell _ (by rw [Nat.zero_add, ← Array.getElem?_toList]; exact h1), ?_⟩
  simp only [List.getD_eq_getElem?_getD]
  rw [hd, Option.getD_some]
  exact h2
theorem Dt.i {w : World} {R : Nat → Prop} {k : IntKind} {x : Int} : Dt.Lies w R (.int k x) (.int k x) := by unfold Dt.Lies; rfl
theorem Dt.s {w : World} {R : Nat → Prop} {t : List UInt8} : Dt.Lies w R (.str t) (.string ⟨t.toArray⟩) := by unfold Dt.Lies; rfl
theorem Dt.n {w : World} {R : Nat → Prop} {α : Type} {k : Nat} {f : α → List Dt} : Dt.Lies w R (Dt.rows k f []) (.slice none 0 0) := Dt.Lies.nil _ _ _ _
/-- what lies below stays -/
theorem Dt.Lies.below {w w' : World} {B : Nat} {t : Dt} {v : Value} (h : Dt.Lies w (fun k => B ≤ k ∧ k < w.heap.size ∧ Rm.Ub w k) t v) (hb : Below w.heap.size w w') : Dt.Lies w' (fun k => B ≤ k ∧ k < w'.heap.size ∧ Rm.Ub w' k) t v :=
  h.on fun k hk => ⟨⟨hk.1, Nat.lt_of_lt_of_le hk.2.1 hb.size, hk.2.2.on (hb.block k hk.2.1)⟩, hb.block k hk.2.1⟩
theorem Iw.drewN {B : Nat} {a w : World} (h : Below B a w) (n : Nat) : Below B a (w.drewN n) := ⟨h.os, h.tape, h.output, h.size, h.block⟩
theorem Iw.b1 (w : World) (a : Obj) : Below w.heap.size w (w.alloc a) := (Below.refl _ _).alloc (Nat.le_refl _) a
theorem Iw.b2 (w : World) (a b : Obj) : Below w.heap.size w ((w.alloc a).alloc b) := (Iw.b1 w a).alloc (by simp) b
theorem Iw.b3 (w : World) (a b c : Obj) : Below w.heap.size w (((w.alloc a).alloc b).alloc c) := (Iw.b2 w a b).alloc (by simp; omega) c
theorem Iw.b4 (w : World) (a b c d : Obj) : Below w.heap.size w ((((w.alloc a).alloc b).alloc c).alloc d) := (Iw.b3 w a b c).alloc (by simp; omega) d
/-- texts that were written down -/
theorem Dt.tx {w : World} {R : Nat → Prop} {g : Nat} {cs : Array Value} {ty : TypeId} (ts : List (List UInt8)) (n : Nat) (h : Bs.Box w g cs ty) (hn : ts.length = n) (hm : n ≤ 1000) (hR : R g) (hc : cs.toList = ts.map fun t => .string ⟨t.toArray⟩) : Dt.Lies w R (Dt.texts ts) (.slice (some ⟨g, 0, none⟩) n n) := by
  refine Dt.lit ts n h hn hm hR (fun _ => rfl) ?_
  rw [hc]
  clear hc hn h
  induction ts with
  | nil => exact trivial
  | cons t ts ih => exact ⟨Dt.s, ih⟩
end Go.Proofs.YtjppobeomocgbaaGreatDoor
/-
  stolelaw16.hole; items that were written down.
-/
namespace Go.Proofs.YtjppobeomocgbaaGreatDoor
open Go.RowKit
/-- the pipe of Dot -/
def Mh.dot : List Cm := [⟨[], [⟨0, [], [], 0, []⟩]⟩]
def Mh.hole : It := .mk 1 [] Mh.dot [] []
/-- its five cells, its pipe in block g -/
def Mh.val (g : Nat) : Value := .agg #[.int .i64 1, .string ⟨#[]⟩, .slice (some ⟨g, 0, none⟩) 1 1, .slice none 0 0, .slice none 0 0]
/-- the three blocks that it lays: its result's, its argument, its command -/
def Mh.lay (w : World) : World := ((w.alloc (.cells #[.int .i64 1, .string ⟨#[]⟩, .slice (some ⟨w.heap.size + 1 + 1, 0, none⟩) 1 1, .slice none 0 0, .slice none 0 0] 37)).alloc (.cells #[.int .i64 0, .string ⟨#[]⟩, .slice none 0 0, .int .i64 0, .string ⟨#[]⟩] 43)).alloc (.cells #[.string ⟨#[]⟩, .slice (some ⟨w.heap.size + 1, 0, none⟩) 1 1] 46)
theorem Mh.box0 (w : World) : Bs.Box (Mh.lay w) w.heap.size #[.int .i64 1, .string ⟨#[]⟩, .slice (some ⟨w.heap.size + 1 + 1, 0, none⟩) 1 1, .slice none 0 0, .slice none 0 0] 37 := ((Bs.Box.new _ _ _ _ rfl).alloc _).alloc _
theorem Mh.below (w : World) : Below w.heap.size w (Mh.lay w) := (((Below.refl _ _).alloc (Nat.le_refl _) _).alloc (by simp) _).alloc (by simp; omega) _
theorem Mh.lies (w : World) : Dt.Lies (Mh.lay w) (fun _ => True) (Cm.rows Mh.dot) (.slice (some ⟨w.heap.size + 1 + 1, 0, none⟩) 1 1) :=
  Dt.lit Mh.dot 1 (Bs.Box.new _ _ _ _ (by simp)) rfl (by decide) trivial (fun _ => rfl) ⟨Dt.s, Dt.lit [_] 1 (cs := #[.int .i64 0, .string ⟨#[]⟩, .slice none 0 0, .int .i64 0, .string ⟨#[]⟩]) (ty := 43) ((Bs.Box.new _ _ _ _ (by simp)).alloc _) rfl (by decide) trivial (fun _ => rfl) ⟨Dt.i, Dt.s, Dt.n, Dt.i, Dt.s, trivial⟩, trivial⟩
theorem Mh.hole_ok (w : World) : Calls Tryz.prog 15 #[] w fun e w' => ∃ g, e = .returned (Mh.val g) ∧ Dt.Lies w' (fun _ => True) (Cm.rows Mh.dot) (.slice (some ⟨g, 0, none⟩) 1 1) ∧ Below w.heap.size w w' := by
  go_enter Tryz.func15, Tryz.ntmps15
  go_wp2_with fail
  obtain ⟨z0, z1, z2, z3, z4, -⟩ := Tr.cells5 (Mh.box0 w)
  have hb := Mh.below w
  have hl := Mh.lies w
  unfold Mh.lay at z0 z1 z2 z3 z4 hb hl
  refine bodyPost_ret (v := Mh.val (w.heap.size + 1 + 1)) (by simp [Mh.val, results, Tryz.results15, go_sem, z0, z1, z2, z3, z4]) rfl ?_
  exact ⟨_, rfl, hl, hb⟩
end Go.Proofs.YtjppobeomocgbaaGreatDoor
/-
  THE WALK of stoleref0.Decimal at a number that is not negative: it returns its digits, and turns nothing that was there.
-/
namespace Go.Proofs.YtjppobeomocgbaaGreatDoor
open Go.RowKit
theorem Dm.info5 : (Tryz.prog.info? 5).map (fun i => (i.zero, i.size, i.bytes)) = some (some (.int .u8 0), 1, 1) := by kernel_rfl
theorem Rt.dec_le (u : Nat) (h : u < 18446744073709551616) : (Lib.decDigits u).length ≤ 20 := by
  rw [Lib.decDigits_length]
  by_cases h0 : u = 0
  · subst h0; rw [Lib.nDigits_small (by omega)]; omega
  · have := Lib.numDigits_eq u (by omega) h; split at this <;> omega
/-- a number that is written so far: z stands ahead of the digits -/
structure Dm.Half (k z : Nat) (l : List UInt8) : Prop where
  first : l = [] → z = k
  later : l ≠ [] → Lib.decDigits k = (if z = 0 then [] else Lib.decDigits z) ++ l
theorem Dm.Half.step {k z : Nat} {l : List UInt8} (h : Dm.Half k z l) (hz : 0 < z ∨ l = []) (c : UInt8) (hc : c.toNat = 48 + z % 10) : Dm.Half k (z / 10) (c :: l) := by
  have e : (if z / 10 = 0 then [] else Lib.decDigits (z / 10)) ++ [c] = Lib.decDigits z := by
    have hc' : c = UInt8.ofNat (48 + z % 10) := by
      apply UInt8.toNat_inj.1
      rw [hc, UInt8.toNat_ofNat']
      omega
    by_cases h1 : z < 10
    · rw [if_pos (by omega), Lib.decDigits_one h1, hc', Nat.mod_eq_of_lt h1]; rfl
    · conv => rhs; rw [Lib.decDigits, dif_neg h1]
      rw [if_neg (by omega), hc']
  refine ⟨(fun h => by cases h), fun _ => ?_⟩
  rw [show c :: l = [c] ++ l by rfl, ← List.append_assoc, e]
  by_cases hl : l = []
  · rw [h.first hl, hl, List.append_nil]
  · rw [h.later hl, if_neg]
    rcases hz with hz | hz
    · omega
    · exact absurd hz hl
theorem Dm.Half.len {k z : Nat} {l : List UInt8} (h : Dm.Half k z l) (hk : k < 18446744073709551616) : l.length ≤ 20 := by
  by_cases hl : l = []
  · rw [hl]; simp
  · have h1 := Rt.dec_le k hk
    rw [h.later hl, List.length_append] at h1
    omega
theorem Dm.Half.fin {k : Nat} {l : List UInt8} (h : Dm.Half k 0 l) (hl : l ≠ []) : Lib.decDigits k = l := by
  rw [h.later hl, if_pos rfl, List.nil_append]

def Dm.len : Value → Nat
  | .slice _ n _ => n
  | _ => 0
theorem Dm.len_own {w : World} {B : Nat} {v : Value} {n : Nat} {xs : List Value} (h : w.ownsRow B 5 1 v n xs) : Dm.len v = n := by
  rcases h.2 with ⟨rfl, h0⟩ | ⟨g, cap, cur, rfl, _⟩
  · exact h0.symm
  · rfl
theorem Dm.one (W : World) (B : Nat) (x : Int) (hB : B ≤ W.heap.size) : (W.alloc (.cells #[.int .u8 x] 5)).ownsRow B 5 1 (.slice (some ⟨W.heap.size, 0, none⟩) 1 1) 1 [.int .u8 x] :=
  World.ownsRow_lit (e := 5) (size := 1) W #[.int .u8 x] 1 hB (by unfold maxLen; omega) rfl
theorem Dm.ones (l : List UInt8) : ∀ u ∈ Lib.byteCells l, u.oneCell' = true := by
  intro u hu
  simp only [Lib.byteCells, List.mem_map] at hu
  obtain ⟨c, _, rfl⟩ := hu
  rfl
theorem Dm.rel {w wr w1 : World} {v' : Value} {acc : List UInt8} {X : Obj} {c : UInt8} (hb : Below w.heap.size w wr)
    (hown' : w1.ownsRow w.heap.size 5 1 v' (1 + acc.length) ([.int .u8 c.toNat] ++ Lib.byteCells acc)) (hg : (wr.alloc X).grownBy w1 (some wr.heap.size)) :
    w1.ownsRow w.heap.size 5 1 v' (c :: acc).length (Lib.byteCells (c :: acc)) ∧ Below w.heap.size w w1 := by
  refine ⟨?_, (hb.alloc hb.size X).grown hg (by have := hb.size; simp; omega) (fun k hk => by cases hk; exact hb.size)⟩
  rw [List.length_cons, Nat.add_comm]
  exact hown'

set_option maxRecDepth 100000 in
set_option maxHeartbeats 2000000 in
theorem Dm.decimal (k : Nat) (hk : k < 9223372036854775808) (w : World) :
    Calls Tryz.prog 14 #[.int .i64 (k : Int)] w fun e w' => e = .returned (.string ⟨(Lib.decDigits k).toArray⟩) ∧ Below w.heap.size w w' := by
  obtain ⟨i0, hi, hz0, hz1, hz2⟩ := info_parts Dm.info5
  have k0 : decide ((k : Int) < 0) = false := decide_eq_false (by omega)
  go_enter Tryz.func14, Tryz.ntmps14
  go_wp2
  go_loopw [3, 4] (fun y o wr => ∃ (z : Nat) (acc : List UInt8), y = .int .u64 z ∧ z ≤ k ∧ wr.ownsRow w.heap.size 5 1 o acc.length (Lib.byteCells acc) ∧ Below w.heap.size w wr ∧ Hid (Dm.Half k z acc) ∧ (acc = [] → o = .slice none 0 0)) (fun y o _ => 2 * (intOf y).toNat + (if Dm.len o = 0 then 1 else 0))
  case atStart => exact ⟨k, [], by go_num, Nat.le_refl _, World.ownsRow_nil _ _ _ _, Below.refl _ _, ⟨fun _ => rfl, fun h => absurd rfl h⟩, fun _ => rfl⟩
  case round =>
    obtain ⟨z, acc, rfl, hzk, hown, hb, HH, hnil⟩ := hrel
    have hsr := hb.size
    obtain ⟨c, hc⟩ : ∃ c : UInt8, c.toNat = 48 + z % 10 := ⟨UInt8.ofNat (48 + z % 10), by rw [UInt8.toNat_ofNat']; omega⟩
    have HC := Lib.hid hc
    have hcI : 48 + (z : Int) % 10 = (c.toNat : Int) := by omega
    clear hc
    rcases hown.2 with ⟨rfl, h0⟩ | ⟨g, cap, cur, rfl, _⟩
    · have hacc : acc = [] := List.eq_nil_of_length_eq_zero h0
      subst hacc
      have HS : Hid (Dm.Half k (z / 10) [c]) := HH.out.step (.inr rfl) c HC.out
      have R := Dm.one wr w.heap.size c.toNat hsr
      have hb' := hb.alloc hb.size (.cells #[.int .u8 c.toNat] 5)
      clear h0 hnil HC HH hown hb
      by_cases hz : 0 < z
      · go_wp2_with fail
        refine ⟨⟨z / 10, [c], by go_num, by omega, R, hb', HS, fun h => by cases h⟩, ?_⟩
        simp [intOf, Dm.len]
        omega
      · go_wp2_with fail
        refine ⟨⟨z / 10, [c], by go_num, by omega, R, hb', HS, fun h => by cases h⟩, ?_⟩
        simp [intOf, Dm.len]
        omega
    · have hne : acc ≠ [] := fun h => by have := hnil h; cases this
      have hpos : 0 < acc.length := List.length_pos_iff.2 hne
      have hlen := HH.out.len (by omega)
      clear hnil
      by_cases hz : 0 < z
      · have HS : Hid (Dm.Half k (z / 10) (c :: acc)) := HH.out.step (.inl hz) c HC.out
        have hl := Dm.len_own hown
        clear HC HH
        go_wp2_with (at_builtin; refine wpList_append_own _ rfl _ _ 70 rfl w.heap.size 5 i0 (.int .u8 0) 1 1 Tryz.underlying70 hi hz0 hz1 hz2 rfl (by decide) _ _ _ rfl (Dm.one wr w.heap.size c.toNat hsr) ⟨g, 0, none⟩ acc.length cap (Lib.byteCells acc) rfl (by rw [Lib.byteCells_length]; omega) ((hown.alloc _).cells rfl) (Dm.ones acc) (by unfold maxLen; omega) (by omega) (by simp; omega) ?_)
        intro v' w1 hown' hgrow _
        have R := Dm.rel (c := c) hb hown' hgrow
        have hl' := Dm.len_own R.1
        clear hown' hgrow hown hb
        go_wp2_with fail
        refine ⟨⟨z / 10, c :: acc, by go_num, by omega, R.1, R.2, HS, fun h => by cases h⟩, ?_⟩
        rw [hl', hl]
        simp [intOf]
        omega
      · have hz0' : z = 0 := by omega
        subst hz0'
        have HF : Hid (Lib.decDigits k = acc) := HH.out.fin hne
        have hl0 : ((acc.length : Int) == 0) = false := beq_eq_false_iff_ne.2 (by omega)
        have hconv := Dm.conv hown
        clear HH HC hown hcI
        go_wp2
        go_ret
        refine ⟨?_, hb⟩
        rw [HF.out]
        rfl
theorem Dm.digit : ∀ (u : Nat), ∀ c ∈ Lib.decDigits u, 48 ≤ c.toNat ∧ c.toNat ≤ 57 := by
  intro u
  induction u using Nat.strongRecOn with
  | _ u ih =>
    intro c hc
    rw [Lib.decDigits] at hc
    split at hc
    · rw [List.mem_singleton.1 hc, UInt8.toNat_ofNat']
      omega
    · rcases List.mem_append.1 hc with hc | hc
      · exact ih (u / 10) (by omega) c hc
      · rw [List.mem_singleton.1 hc, UInt8.toNat_ofNat']
        omega
theorem Dm.digits_len : ∀ (n u : Nat), u < 10 ^ (n + 1) → (Lib.decDigits u).length ≤ n + 1 := by
  intro n
  induction n with
  | zero =>
    intro u hu
    rw [Lib.decDigits, dif_pos (by simpa using hu)]
    exact Nat.le_refl _
  | succ n ih =>
    intro u hu
    rw [Lib.decDigits]
    split
    · simp
    · rw [List.length_append]
      have := ih (u / 10) (by rw [Nat.pow_succ] at hu; omega)
      simp only [List.length_cons, List.length_nil]
      omega
end Go.Proofs.YtjppobeomocgbaaGreatDoor
/-
  PLAIN: actions with a number: what is read of each of forty.
-/
namespace Go.Proofs.YtjppobeomocgbaaGreatDoor
def Mr.d (i : Nat) : List UInt8 := Lib.decDigits i
/-- a set, a call, a text as a hole -/
def Mr.set (i : Nat) : List UInt8 := [36, 118] ++ Mr.d i ++ [32, 58, 61, 32] ++ Mr.d i
def Mr.call (i : Nat) : List UInt8 := [116, 101, 109, 112, 108, 97, 116, 101, 32, 34, 110] ++ Mr.d i ++ [34]
def Mr.quo (i : Nat) : List UInt8 := [34, 113] ++ Mr.d i ++ [34]
def Mr.iSet (i : Nat) : It := .mk 2 ([118] ++ Mr.d i) [⟨[], [⟨2, [], [], (i : Int), []⟩]⟩] [] []
def Mr.iCall (i : Nat) : It := .mk 6 ([110] ++ Mr.d i) [] [] []
def Mr.iQuo (i : Nat) : It := .mk 1 [] [⟨[], [⟨3, [], [], 0, [113] ++ Mr.d i⟩]⟩] [] []
structure Mr.Fact (i : Nat) : Prop where
  g1 : Mq.good (Mr.set i) = true
  g2 : Mq.good (Mr.call i) = true
  g3 : Mq.good (Mr.quo i) = true
  f1 : Tm.flat (Mr.set i) = some (Mr.iSet i)
  f2 : Tm.flat (Mr.call i) = some (Mr.iCall i)
  f3 : Tm.flat (Mr.quo i) = some (Mr.iQuo i)
theorem Mr.fact (i : Nat) (h : i < 40) : Mr.Fact i :=
  match i, h with
  | 0, _ => ⟨by kernel_rfl, by kernel_rfl, by kernel_rfl, by kernel_rfl, by kernel_rfl, by kernel_rfl⟩
  | 1, _ => ⟨by kernel_rfl, by kernel_rfl, by kernel_rfl, by kernel_rfl, by kernel_rfl, by kernel_rfl⟩
  | 2, _ => ⟨by kernel_rfl, by kernel_rfl, by kernel_rfl, by kernel_rfl, by kernel_rfl, by kernel_rfl⟩
  | 3, _ => ⟨by kernel_rfl, by kernel_rfl, by kernel_rfl, by kernel_rfl, by kernel_rfl, by kernel_rfl⟩
  | 4, _ => ⟨by kernel_rfl, by kernel_rfl, by kernel_rfl, by kernel_rfl, by kernel_rfl, by kernel_rfl⟩
  | 5, _ => ⟨by kernel_rfl, by kernel_rfl, by kernel_rfl, by kernel_rfl, by kernel_rfl, by kernel_rfl⟩
  | 6, _ => ⟨by kernel_rfl, by kernel_rfl, by kernel_rfl, by kernel_rfl, by kernel_rfl, by kernel_rfl⟩
  | 7, _ => ⟨by kernel_rfl, by kernel_rfl, by kernel_rfl, by kernel_rfl, by kernel_rfl, by kernel_rfl⟩
  | 8, _ => ⟨by kernel_rfl, by kernel_rfl, by kernel_rfl, by kernel_rfl, by kernel_rfl, by kernel_rfl⟩
  | 9, _ => ⟨by kernel_rfl, by kernel_rfl, by kernel_rfl, by kernel_rfl, by kernel_rfl, by kernel_rfl⟩
  | 10, _ => ⟨by kernel_rfl, by kernel_rfl, by kernel_rfl, by kernel_rfl, by kernel_rfl, by kernel_rfl⟩
  | 11, _ => ⟨by kernel_rfl, by kernel_rfl, by kernel_rfl, by kernel_rfl, by kernel_rfl, by kernel_rfl⟩
  | 12, _ => ⟨by kernel_rfl, by kernel_rfl, by kernel_rfl, by kernel_rfl, by kernel_rfl, by kernel_rfl⟩
  | 13, _ => ⟨by kernel_rfl, by kernel_rfl, by kernel_rfl, by kernel_rfl, by kernel_rfl, by kernel_rfl⟩
  | 14, _ => ⟨by kernel_rfl, by kernel_rfl, by kernel_rfl, by kernel_rfl, by kernel_rfl, by kernel_rfl⟩
  | 15, _ => ⟨by kernel_rfl, by kernel_rfl, by kernel_rfl, by kernel_rfl, by kernel_rfl, by kernel_rfl⟩
  | 16, _ => ⟨by kernel_rfl, by kernel_rfl, by kernel_rfl, by kernel_rfl, by kernel_rfl, by kernel_rfl⟩
  | 17, _ => ⟨by kernel_rfl, by kernel_rfl, by kernel_rfl, by kernel_rfl, by kernel_rfl, by kernel_rfl⟩
  | 18, _ => ⟨by kernel_rfl, by kernel_rfl, by kernel_rfl, by kernel_rfl, by kernel_rfl, by kernel_rfl⟩
  | 19, _ => ⟨by kernel_rfl, by kernel_rfl, by kernel_rfl, by kernel_rfl, by kernel_rfl, by kernel_rfl⟩
  | 20, _ => ⟨by kernel_rfl, by kernel_rfl, by kernel_rfl, by kernel_rfl, by kernel_rfl, by kernel_rfl⟩
  | 21, _ => ⟨by kernel_rfl, by kernel_rfl, by kernel_rfl, by kernel_rfl, by kernel_rfl, by kernel_rfl⟩
  | 22, _ => ⟨by kernel_rfl, by kernel_rfl, by kernel_rfl, by kernel_rfl, by kernel_rfl, by kernel_rfl⟩
  | 23, _ => ⟨by kernel_rfl, by kernel_rfl, by kernel_rfl, by kernel_rfl, by kernel_rfl, by kernel_rfl⟩
  | 24, _ => ⟨by kernel_rfl, by kernel_rfl, by kernel_rfl, by kernel_rfl, by kernel_rfl, by kernel_rfl⟩
  | 25, _ => ⟨by kernel_rfl, by kernel_rfl, by kernel_rfl, by kernel_rfl, by kernel_rfl, by kernel_rfl⟩
  | 26, _ => ⟨by kernel_rfl, by kernel_rfl, by kernel_rfl, by kernel_rfl, by kernel_rfl, by kernel_rfl⟩
  | 27, _ => ⟨by kernel_rfl, by kernel_rfl, by kernel_rfl, by kernel_rfl, by kernel_rfl, by kernel_rfl⟩
  | 28, _ => ⟨by kernel_rfl, by kernel_rfl, by kernel_rfl, by kernel_rfl, by kernel_rfl, by kernel_rfl⟩
  | 29, _ => ⟨by kernel_rfl, by kernel_rfl, by kernel_rfl, by kernel_rfl, by kernel_rfl, by kernel_rfl⟩
  | 30, _ => ⟨by kernel_rfl, by kernel_rfl, by kernel_rfl, by kernel_rfl, by kernel_rfl, by kernel_rfl⟩
  | 31, _ => ⟨by kernel_rfl, by kernel_rfl, by kernel_rfl, by kernel_rfl, by kernel_rfl, by kernel_rfl⟩
  | 32, _ => ⟨by kernel_rfl, by kernel_rfl, by kernel_rfl, by kernel_rfl, by kernel_rfl, by kernel_rfl⟩
  | 33, _ => ⟨by kernel_rfl, by kernel_rfl, by kernel_rfl, by kernel_rfl, by kernel_rfl, by kernel_rfl⟩
  | 34, _ => ⟨by kernel_rfl, by kernel_rfl, by kernel_rfl, by kernel_rfl, by kernel_rfl, by kernel_rfl⟩
  | 35, _ => ⟨by kernel_rfl, by kernel_rfl, by kernel_rfl, by kernel_rfl, by kernel_rfl, by kernel_rfl⟩
  | 36, _ => ⟨by kernel_rfl, by kernel_rfl, by kernel_rfl, by kernel_rfl, by kernel_rfl, by kernel_rfl⟩
  | 37, _ => ⟨by kernel_rfl, by kernel_rfl, by kernel_rfl, by kernel_rfl, by kernel_rfl, by kernel_rfl⟩
  | 38, _ => ⟨by kernel_rfl, by kernel_rfl, by kernel_rfl, by kernel_rfl, by kernel_rfl, by kernel_rfl⟩
  | 39, _ => ⟨by kernel_rfl, by kernel_rfl, by kernel_rfl, by kernel_rfl, by kernel_rfl, by kernel_rfl⟩
  | n + 40, h => absurd h (by omega)
end Go.Proofs.YtjppobeomocgbaaGreatDoor

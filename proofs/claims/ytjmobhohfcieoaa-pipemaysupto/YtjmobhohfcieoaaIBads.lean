/-
  stolelaw15.PipeMays: the commands that are none, as they were written down; a row of one's own with an older base.
-/
import Derived.Test.YtjmobhohfcieoaaIAw
import Derived.Test.YtjmobhohfcieoaaIMays
namespace Go.Proofs.Ytjmobhohfcieoaa
open Go.RowKit
theorem Iw.index8 (wh : Int) : ∃ q : Nat, q < 8 ∧ wrap64 ((IntKind.u64.wrap wh).tmod 8) = (q : Int) ∧ IntKind.i64.wrap ((IntKind.u64.wrap wh).tmod 8) = (q : Int) := by
  have h1 : 0 ≤ IntKind.u64.wrap wh := by
    simp [IntKind.wrap, IntKind.bits, IntKind.signed]; omega
  have h2 : (IntKind.u64.wrap wh).tmod 8 = IntKind.u64.wrap wh % 8 := Int.tmod_eq_emod_of_nonneg h1
  refine ⟨(IntKind.u64.wrap wh % 8).toNat, by omega, ?_, ?_⟩
  · rw [h2]
    unfold wrap64
    omega
  · rw [h2, IntKind.wrap_i64]
    omega
def Iw.zero : Ar := ⟨0, [], [], 0, []⟩
theorem Iw.zeros : (madeCells #[.int .i64 0, .string ⟨#[]⟩, .slice none 0 0, .int .i64 0, .string ⟨#[]⟩] 45).toList = (List.replicate 9 [Value.int .i64 0, .string ⟨#[]⟩, .slice none 0 0, .int .i64 0, .string ⟨#[]⟩]).flatten := by kernel_rfl
theorem Dt.fits_append {w : World} {R : Nat → Prop} : ∀ (ds : List Dt) (vs : List Value) (es : List Dt) (us : List Value), Dt.fits w R ds vs → Dt.fits w R es us → Dt.fits w R (ds ++ es) (vs ++ us) := by
  intro ds
  induction ds with
  | nil => intro vs es us h1 h2; cases vs with
    | nil => exact h2
    | cons v vs => exact h1.elim
  | cons d ds ih => intro vs es us h1 h2; cases vs with
    | nil => exact h1.elim
    | cons v vs => exact ⟨h1.1, ih vs es us h1.2 h2⟩
/-- a row of blank arguments, made -/
theorem Iw.made : ∃ M : Array Value, (∀ u : World, (Instr.makeSlice 36 (.int .i64 9) (.int .i64 9)).run Try.prog u = .ok (.slice (some ⟨u.heap.size, 0, none⟩) 9 9) (u.alloc (.cells M 41))) ∧
    ∀ (u : World) (R : Nat → Prop) (g : Nat), R g → Bs.Box u g M 41 → Dt.Lies u R (Ar.rows (List.replicate 9 Iw.zero)) (.slice (some ⟨g, 0, none⟩) 9 9) := by
  obtain ⟨i0, hi, hz0, hz1, hz2⟩ := info_parts Ar.info
  refine ⟨madeCells #[.int .i64 0, .string ⟨#[]⟩, .slice none 0 0, .int .i64 0, .string ⟨#[]⟩] 45, fun u => ?_, fun u R g hR hb => ?_⟩
  · have h := run_make (P := Try.prog) u 36 41 i0 _ Try.underlying36 hi hz0 .i64 .i64 9 9 (by omega) (Int.le_refl _) (by rw [hz2]; omega) (by omega)
    simpa [hz1, Value.cells] using h
  · refine Dt.lit (List.replicate 9 Iw.zero) 9 hb rfl (by decide) hR (fun _ => rfl) ?_
    rw [Iw.zeros]
    have z : ∀ n : Nat, Dt.fits u R ((List.replicate n Iw.zero).flatMap Ar.dt) ((List.replicate n [Value.int .i64 0, .string ⟨#[]⟩, .slice none 0 0, .int .i64 0, .string ⟨#[]⟩]).flatten) := by
      intro n
      induction n with
      | zero => exact trivial
      | succ n ih =>
        rw [List.replicate_succ, List.replicate_succ, List.flatMap_cons, List.flatten_cons]
        exact Dt.fits_append (Ar.dt Iw.zero) _ _ _ ⟨Dt.i, Dt.s, Dt.n, Dt.i, Dt.s, trivial⟩ ih
    exact z 9
/-- the world behind them -/
def Iw.bw (M : Array Value) (w : World) : World := ((((((w.alloc (.cells #[.int .i64 2, .string ⟨#[]⟩, .slice none 0 0, .int .i64 1, .string ⟨#[]⟩] 41)).alloc (.cells #[.int .i64 99, .string ⟨#[]⟩, .slice none 0 0, .int .i64 0, .string ⟨#[]⟩] 41)).alloc (.cells #[.int .i64 1, .string ⟨#[]⟩, .slice none 0 0, .int .i64 0, .string ⟨#[]⟩] 41)).alloc (.cells #[.int .i64 4, .string ⟨#[]⟩, .slice none 0 0, .int .i64 2, .string ⟨#[]⟩] 41)).alloc (.cells #[.int .i64 5, .string ⟨#[]⟩, .slice none 0 0, .int .i64 0, .string ⟨#[120]⟩] 41)).alloc (.cells M 41)).alloc (.cells #[.string ⟨#[]⟩, .slice none 0 0, .string ⟨#[102, 111, 111]⟩, .slice none 0 0, .string ⟨#[]⟩, .slice (some ⟨w.heap.size, 0, none⟩) 1 1, .string ⟨#[99, 97, 116]⟩, .slice (some ⟨w.heap.size + 1, 0, none⟩) 1 1, .string ⟨#[99, 97, 116]⟩, .slice (some ⟨w.heap.size + 1 + 1, 0, none⟩) 1 1, .string ⟨#[99, 97, 116]⟩, .slice (some ⟨w.heap.size + 1 + 1 + 1, 0, none⟩) 1 1, .string ⟨#[99, 97, 116]⟩, .slice (some ⟨w.heap.size + 1 + 1 + 1 + 1, 0, none⟩) 1 1, .string ⟨#[99, 97, 116]⟩, .slice (some ⟨w.heap.size + 1 + 1 + 1 + 1 + 1, 0, none⟩) 9 9] 38)
theorem Iw.bw_below (M : Array Value) (w : World) : Below w.heap.size w (Iw.bw M w) := by
  unfold Iw.bw
  exact ((((((((Below.refl _ w).alloc (Nat.le_refl _) _).alloc (by simp) _).alloc (by simp; omega) _).alloc (by simp; omega) _).alloc (by simp; omega) _).alloc (by simp; omega) _).alloc (by simp; omega) _)
set_option maxRecDepth 100000 in
theorem Iw.ub_alloc {w : World} {n : Nat} (cs : Array Value) (ty : TypeId) (h : ∀ k, n ≤ k → k < w.heap.size → Rm.Ub w k) : ∀ k, n ≤ k → k < (w.alloc (.cells cs ty)).heap.size → Rm.Ub (w.alloc (.cells cs ty)) k := by
  intro k hk hl
  by_cases hlt : k < w.heap.size
  · exact (h k hk hlt).on (Below.heap_alloc _ _ _ hlt)
  · have e : k = w.heap.size := by simp at hl; omega
    exact fun o => (Bs.Box.new w cs ty k e).frozen o
theorem Iw.bw_ub (M : Array Value) (w : World) : ∀ k, w.heap.size ≤ k → k < (Iw.bw M w).heap.size → Rm.Ub (Iw.bw M w) k := by
  unfold Iw.bw
  exact Iw.ub_alloc _ _ (Iw.ub_alloc _ _ (Iw.ub_alloc _ _ (Iw.ub_alloc _ _ (Iw.ub_alloc _ _ (Iw.ub_alloc _ _ (Iw.ub_alloc _ _ (fun k hk hl => absurd hl (by omega))))))))
theorem Iw.bw_size (M : Array Value) (w : World) : (Iw.bw M w).heap.size = w.heap.size + 7 := by
  unfold Iw.bw
  simp
theorem Iw.badsLies (M : Array Value) (hM : ∀ (u : World) (R : Nat → Prop) (g : Nat), R g → Bs.Box u g M 41 → Dt.Lies u R (Ar.rows (List.replicate 9 Iw.zero)) (.slice (some ⟨g, 0, none⟩) 9 9)) (w : World) (R : Nat → Prop) (hR : ∀ k, w.heap.size ≤ k → k < w.heap.size + 7 → R k) : Dt.Lies (Iw.bw M w) R (Cm.rows Pi.bads) (.slice (some ⟨w.heap.size + 1 + 1 + 1 + 1 + 1 + 1, 0, none⟩) 8 8) := by
  unfold Iw.bw
  refine Dt.lit Pi.bads 8 (Bs.Box.new _ _ _ _ (by simp)) rfl (by decide) (hR _ (by omega) (by omega)) (fun _ => rfl) ?_
  refine ⟨Dt.s, Dt.n, Dt.s, Dt.n, Dt.s, ?_, Dt.s, ?_, Dt.s, ?_, Dt.s, ?_, Dt.s, ?_, Dt.s, ?_, trivial⟩
  · exact Dt.lit [_] 1 (cs := #[.int .i64 2, .string ⟨#[]⟩, .slice none 0 0, .int .i64 1, .string ⟨#[]⟩]) (ty := 41) (((((((Bs.Box.new _ _ _ _ (by simp)).alloc _).alloc _).alloc _).alloc _).alloc _).alloc _) rfl (by decide) (hR _ (by omega) (by omega)) (fun _ => rfl) ⟨Dt.i, Dt.s, Dt.n, Dt.i, Dt.s, trivial⟩
  · exact Dt.lit [_] 1 (cs := #[.int .i64 99, .string ⟨#[]⟩, .slice none 0 0, .int .i64 0, .string ⟨#[]⟩]) (ty := 41) ((((((Bs.Box.new _ _ _ _ (by simp)).alloc _).alloc _).alloc _).alloc _).alloc _) rfl (by decide) (hR _ (by omega) (by omega)) (fun _ => rfl) ⟨Dt.i, Dt.s, Dt.n, Dt.i, Dt.s, trivial⟩
  · exact Dt.lit [_] 1 (cs := #[.int .i64 1, .string ⟨#[]⟩, .slice none 0 0, .int .i64 0, .string ⟨#[]⟩]) (ty := 41) (((((Bs.Box.new _ _ _ _ (by simp)).alloc _).alloc _).alloc _).alloc _) rfl (by decide) (hR _ (by omega) (by omega)) (fun _ => rfl) ⟨Dt.i, Dt.s, Dt.n, Dt.i, Dt.s, trivial⟩
  · exact Dt.lit [_] 1 (cs := #[.int .i64 4, .string ⟨#[]⟩, .slice none 0 0, .int .i64 2, .string ⟨#[]⟩]) (ty := 41) ((((Bs.Box.new _ _ _ _ (by simp)).alloc _).alloc _).alloc _) rfl (by decide) (hR _ (by omega) (by omega)) (fun _ => rfl) ⟨Dt.i, Dt.s, Dt.n, Dt.i, Dt.s, trivial⟩
  · exact Dt.lit [_] 1 (cs := #[.int .i64 5, .string ⟨#[]⟩, .slice none 0 0, .int .i64 0, .string ⟨#[120]⟩]) (ty := 41) (((Bs.Box.new _ _ _ _ (by simp)).alloc _).alloc _) rfl (by decide) (hR _ (by omega) (by omega)) (fun _ => rfl) ⟨Dt.i, Dt.s, Dt.n, Dt.i, Dt.s, trivial⟩
  · exact hM _ _ _ (hR _ (by omega) (by omega)) ((Bs.Box.new _ _ _ _ (by simp)).alloc _)
theorem Iw.held_bad (k : Nat) (c : Cm) (hk : Pi.bads[k]? = some c) : c.fn.length ≤ 1048576 ∧ c.args.length ≤ 1048576 ∧ ∀ x ∈ c.args, x.name.length ≤ 1048576 ∧ x.text.length ≤ 1048576 ∧ x.path.length ≤ 1048576 ∧ ∀ t ∈ x.path, t.length ≤ 1048576 := by
  have hm := List.mem_of_getElem? hk
  unfold Pi.bads at hm
  simp only [List.mem_cons, List.not_mem_nil, or_false] at hm
  rcases hm with rfl | rfl | rfl | rfl | rfl | rfl | rfl | rfl
  all_goals refine ⟨by decide, by decide, fun x hx => ?_⟩
  all_goals simp only [List.mem_cons, List.not_mem_nil, or_false, List.mem_replicate] at hx
  all_goals first | exact hx.elim | (subst hx; exact ⟨by decide, by decide, by decide, fun t ht => by cases ht⟩) | (rw [hx.2]; exact ⟨by decide, by decide, by decide, fun t ht => by cases ht⟩)
theorem Iw.held_snoc {cs : List Cm} {c : Cm} {k : Nat} (h : Cm.Held cs) (hl : cs.length ≤ 8) (hk : Pi.bads[k]? = some c) : Cm.Held (cs ++ [c]) :=
  ⟨by rw [List.length_append]; show cs.length + 1 ≤ _; omega, fun q hq => by
    rcases List.mem_append.1 hq with hq | hq
    · exact h.2 q hq
    · rw [List.mem_singleton.1 hq]; exact Iw.held_bad k c hk⟩
/-- a row of one's own, seen from an older base -/
theorem Gr.Own.older {base base' : Nat} {no : Nat → Prop} {ty k n : Nat} {ds : List Dt} {w : World} {v : Value} {xs : List Value} (h : Gr.Own base no ty k n ds w v xs) (hb : base' ≤ base) : Gr.Own base' no ty k n ds w v xs := by
  refine ⟨h.len, ⟨h.own.1, ?_⟩, fun i d hi => ?_⟩
  · rcases h.own.2 with q | ⟨g, cap, cur, e, q1, q⟩
    · exact Or.inl q
    · exact Or.inr ⟨g, cap, cur, e, Nat.le_trans hb q1, q⟩
  · obtain ⟨u, h1, h2⟩ := h.cells i d hi
    exact ⟨u, h1, h2.on fun b hk => ⟨⟨Nat.le_trans hb hk.1, hk.2⟩, rfl⟩⟩
/-- they lie there still, behind the copy -/
theorem Iw.bads_at (M : Array Value) (hM : ∀ (u : World) (R : Nat → Prop) (g : Nat), R g → Bs.Box u g M 41 → Dt.Lies u R (Ar.rows (List.replicate 9 Iw.zero)) (.slice (some ⟨g, 0, none⟩) 9 9)) (w w4 : World) {no : Nat → Prop} (hno : ∀ k, ¬ no k) {ty k n : Nat} {ds : List Dt} {v : Value} {xs : List Value} (ho : Gr.Own (Iw.bw M w).heap.size no ty k n ds w4 v xs) (b4 : Below (Iw.bw M w).heap.size (Iw.bw M w) w4) : Dt.Lies w4 (Gr.R w.heap.size no w4 v) (Cm.rows Pi.bads) (.slice (some ⟨w.heap.size + 1 + 1 + 1 + 1 + 1 + 1, 0, none⟩) 8 8) :=
  (Iw.badsLies M hM w (fun k => w.heap.size ≤ k ∧ k < (Iw.bw M w).heap.size) (fun k h1 h2 => ⟨h1, by rw [Iw.bw_size]; exact h2⟩)).on fun k hk => by
    have e := b4.block k hk.2
    exact ⟨⟨hk.1, Nat.lt_of_lt_of_le hk.2 b4.size, fun q => by have := (ho.own.lt k q).1; have := hk.2; omega, hno k, (Iw.bw_ub M w k hk.1 hk.2).on e⟩, e⟩
theorem Iw.bad_get {w : World} {R : Nat → Prop} {g : Nat} (h : Dt.Lies w R (Cm.rows Pi.bads) (.slice (some ⟨g, 0, none⟩) 8 8)) (q : Nat) (c : Cm) (hc : Pi.bads[q]? = some c) : ∃ av, w.cell? ⟨g, q * 2, none⟩ = some (.string ⟨c.fn.toArray⟩) ∧ w.cell? ⟨g, q * 2 + 1, none⟩ = some av ∧ Dt.Lies w R (Ar.rows c.args) av := by
  obtain ⟨a, d, e, _, _, hx⟩ := Cm.get h
  injection e with e1 e2 e3
  subst e1
  obtain ⟨b, o, av, ea, _, c0, c1, hl⟩ := hx q c hc
  injection ea with ea
  injection ea with e1 e2
  subst e1 e2
  rw [Nat.zero_add] at c0 c1
  exact ⟨av, c0, c1, hl⟩
/-- the copy with a command more -/
theorem Iw.pushed {W w4 u w7 : World} {X : List Cm} {c : Cm} {F : ByteArray} {B : Nat} {a4 : Option Addr} {d4 : Nat} {xs : List Value} {av v7 : Value} (ho : Cm.Own B X w4 (.slice a4 X.length d4) xs) (hF : F = ⟨c.fn.toArray⟩) (ha : Dt.Lies w4 (Gr.R B (fun _ => False) w4 (.slice a4 X.length d4)) (Ar.rows c.args) av) (hu : Below w4.heap.size w4 u)
    (R7 : w7.ownsRow B 38 2 v7 (X.length + 1) (xs ++ Cm.two F av)) (hg : u.grownBy w7 (Value.slice a4 X.length d4).ownBlock) (hf : v7.ownBlock = (Value.slice a4 X.length d4).ownBlock ∨ v7.ownBlock = some u.heap.size)
    (b4 : Below W.heap.size W w4) (hown : ∀ k, (Value.slice a4 X.length d4).ownBlock = some k → W.heap.size ≤ k) : (∃ a d, v7 = .slice a (X.length + 1) d) ∧ Dt.Lies w7 (fun _ => True) (Cm.rows (X ++ [c])) v7 ∧ Below W.heap.size W w7 := by
  have h7 := ho.push hu (nd := Cm.dt c) rfl (Cm.cells hF ha) R7 hg hf
  refine ⟨Gr.form R7, ?_, ?_⟩
  · have := h7.lies
    have e : (X ++ [c]).flatMap Cm.dt = X.flatMap Cm.dt ++ Cm.dt c := by rw [List.flatMap_append]; simp
    show Dt.Lies w7 _ (Dt.flat _ 2 _) v7
    rw [e, List.length_append]
    exact this.on fun k hk => ⟨trivial, rfl⟩
  · exact (b4.trans (hu.mono b4.size)).grown hg (by have := hu.size; have := b4.size; omega) hown
/-- a command's arguments, behind the copy -/
theorem Iw.args4 {W u w4 : World} {B ty k n : Nat} {ds : List Dt} {v4 v : Value} {xs : List Value} {t : Dt} (hl : Dt.Lies W (fun k => B ≤ k ∧ k < W.heap.size ∧ Rm.Ub W k) t v) (hu : Below W.heap.size W u) (ho : Gr.Own u.heap.size (fun _ => False) ty k n ds w4 v4 xs) (b4 : Below u.heap.size u w4) : Dt.Lies w4 (Gr.R B (fun _ => False) w4 v4) t v :=
  hl.on fun k hk => by
    have b := Wk.below_step hu b4
    have e := b.block k hk.2.1
    exact ⟨⟨hk.1, Nat.lt_of_lt_of_le hk.2.1 b.size, fun q => by have := (ho.own.lt k q).1; have := hu.size; have := hk.2.1; omega, fun q => q, hk.2.2.on e⟩, e⟩
end Go.Proofs.Ytjmobhohfcieoaa

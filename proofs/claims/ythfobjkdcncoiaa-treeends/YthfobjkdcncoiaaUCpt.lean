/-
  THE WALK of stolelaw0.CopyTokens.
-/
import Derived.Test.YthfobjkdcncoiaaUCopy
namespace Go.Proofs.Ythfobjkdcncoiaa
open Go.RowKit
def Rm.five (t : Tk) (tav : Value) : List Value := [.int .i64 t.kind, .string t.name, .string t.text, tav, .bool t.self]
theorem Rm.toks_push {base : Nat} {ts : List Tk} {w0 w w4 : World} {tv v' : Value} {no : Option Nat} {xs : List Value} {t : Tk} {tav : Value} (ho : w0.ownsRow base 41 5 tv ts.length xs)
    (hx : ∀ i t, ts[i]? = some t → ∃ av, xs[i * 5]? = some (.int .i64 t.kind) ∧ xs[i * 5 + 1]? = some (.string t.name) ∧ xs[i * 5 + 2]? = some (.string t.text) ∧ xs[i * 5 + 3]? = some av ∧ xs[i * 5 + 4]? = some (.bool t.self) ∧ Ak.Lies w0 (fun k => base ≤ k ∧ k < w0.heap.size ∧ tv.ownBlock ≠ some k ∧ no ≠ some k ∧ Rm.Ub w0 k) t.attrs av)
    (hl : Ak.Lies w0 (fun k => base ≤ k ∧ k < w0.heap.size ∧ tv.ownBlock ≠ some k ∧ Rm.Ub w0 k) t.attrs tav) (hs : w0.heap.size ≤ w.heap.size) (hw : ∀ k, k < w0.heap.size → w.heap[k]? = w0.heap[k]?)
    (R4 : w4.ownsRow base 41 5 v' (ts.length + 1) (xs ++ Rm.five t tav)) (hg : w.grownBy w4 tv.ownBlock) (hf : v'.ownBlock = tv.ownBlock ∨ v'.ownBlock = some w.heap.size) : Rm.Toks base (ts ++ [t]) w4 v' none := by
  have hkeep : ∀ k, base ≤ k → k < w0.heap.size → tv.ownBlock ≠ some k → Rm.Ub w0 k → (base ≤ k ∧ k < w4.heap.size ∧ v'.ownBlock ≠ some k ∧ (none : Option Nat) ≠ some k ∧ Rm.Ub w4 k) ∧ w4.heap[k]? = w0.heap[k]? := fun k h1 h2 h3 h4 =>
    have hq : w4.heap[k]? = w0.heap[k]? := (hg.block k (by omega) (fun e => h3 e.symm)).trans (hw k h2)
    ⟨⟨h1, by have := hg.size; omega, fun e => by
      rcases hf with e' | e'
      · rw [e'] at e; exact h3 e
      · rw [e'] at e; have := Option.some.inj e; omega, (fun e => by cases e), h4.on hq⟩, hq⟩
  have hlen := ho.1
  refine ⟨_, by rw [List.length_append]; exact R4, fun i u hi => ?_⟩
  by_cases e : i < ts.length
  · rw [List.getElem?_append_left e] at hi
    obtain ⟨av, x0, x1, x2, x3, x4, hl'⟩ := hx i u hi
    refine ⟨av, ?_, ?_, ?_, ?_, ?_, hl'.on fun k hk => hkeep k hk.1 hk.2.1 hk.2.2.1 hk.2.2.2.2⟩
    all_goals rw [List.getElem?_append_left (by omega)]
    all_goals assumption
  · have hi' : i = ts.length := by
      have := (List.getElem?_eq_some_iff.1 hi).1
      simp at this; omega
    subst hi'
    rw [List.getElem?_append_right (Nat.le_refl _), Nat.sub_self] at hi
    have : t = u := by simpa using hi
    subst this
    have at5 : ∀ r, (xs ++ Rm.five t tav)[ts.length * 5 + r]? = (Rm.five t tav)[r]? := fun r => by rw [List.getElem?_append_right (by omega), hlen, Nat.add_sub_cancel_left]
    exact ⟨tav, at5 0, at5 1, at5 2, at5 3, at5 4, hl.on fun k hk => hkeep k hk.1 hk.2.1 hk.2.2.1 hk.2.2.2⟩

theorem Rm.five_cells (W : World) (t : Tk) (tav : Value) (g1 : Nat) (h : g1 = W.heap.size) : ∀ j u, (Rm.five t tav)[j]? = some u → (W.alloc (.cells #[.int .i64 t.kind, .string t.name, .string t.text, tav, .bool t.self] 41)).cell? ⟨g1, j, none⟩ = some u := by
  subst h
  intro j u hj
  unfold World.cell?
  rw [show (W.alloc (.cells #[.int .i64 t.kind, .string t.name, .string t.text, tav, .bool t.self] 41)).heap[W.heap.size]? = some _ from heap_alloc_new W _]
  simpa [Rm.five] using hj
theorem Rm.five_one (t : Tk) (ta : Option Addr) (m td : Nat) : ∀ u ∈ Rm.five t (.slice ta m td), u.oneCell' = true := by
  intro u hu
  simp only [Rm.five, List.mem_cons, List.not_mem_nil, or_false] at hu
  rcases hu with rfl | rfl | rfl | rfl | rfl <;> rfl
/-- a row of tokens of one's own is a row of tokens -/
theorem Um.toks_nil (base : Nat) (w : World) : Rm.Toks base [] w (.slice none 0 0) none := ⟨[], World.ownsRow_nil _ _ _ _, fun i t h => by simp at h⟩
theorem Um.tokenAt {w : World} {R : Nat → Prop} {ts : List Tk} {a : Option Addr} {d : Nat} (h : Tk.Lies w R ts (.slice a ts.length d)) {i : Nat} (hi : i < ts.length) : ∃ b o aa ad, a = some ⟨b, o, none⟩ ∧ w.cell? ⟨b, o + i * 5, none⟩ = some (.int .i64 ts[i].kind) ∧ w.cell? ⟨b, o + i * 5 + 1, none⟩ = some (.string ts[i].name) ∧ w.cell? ⟨b, o + i * 5 + 2, none⟩ = some (.string ts[i].text) ∧ w.cell? ⟨b, o + i * 5 + 3, none⟩ = some (.slice aa ts[i].attrs.length ad) ∧ w.cell? ⟨b, o + i * 5 + 4, none⟩ = some (.bool ts[i].self) ∧ Ak.Lies w R ts[i].attrs (.slice aa ts[i].attrs.length ad) := by
  obtain ⟨a', d', e, h1, h2, hx⟩ := h
  injection e with e1 e2 e3
  subst e1
  obtain ⟨b, o, av, ea, hb, c0, c1, c2, c3, c4, hl⟩ := hx i ts[i] (List.getElem?_eq_getElem hi)
  obtain ⟨aa, ad, rfl, g1, g2, gx⟩ := id hl
  exact ⟨b, o, aa, ad, ea, c0, c1, c2, c3, c4, hl⟩
set_option maxRecDepth 100000 in
set_option maxHeartbeats 4000000 in
theorem Um.copyTokens (ts : List Tk) (a : Option Addr) (d : Nat) (w : World) (h : Tk.Lies w (· < w.heap.size) ts (.slice a ts.length d)) (hn : ts.length ≤ 1048576) (hal : ∀ t ∈ ts, t.attrs.length ≤ 1048576) :
    Calls Try.prog 8 #[.slice a ts.length d] w fun e w' => ∃ v, e = .returned v ∧ Tk.Lies w' (fun k => w.heap.size ≤ k ∧ k < w'.heap.size ∧ Rm.Ub w' k) ts v ∧ Below w.heap.size w w' := by
  have hlen : ts.length ≤ d := by
    obtain ⟨a', d', e, h1, h2, hx⟩ := h
    injection e with e1 e2 e3
    omega
  have H := Lib.hid h
  have HAL := Lib.hid hal
  clear h hal
  go_enter Try.func8, Try.ntmps8
  go_wp2_with fail
  go_loopw [3, 4] (fun out ix wr => ∃ (i : Nat), i ≤ ts.length ∧ ix = .int .i64 (i : Int) ∧ Hid (Rm.Toks w.heap.size (ts.take i) wr out none) ∧ Hid (Below w.heap.size w wr)) (fun _ ix _ => ts.length - (intOf ix).toNat)
  case atStart => exact ⟨0, Nat.zero_le _, rfl, Um.toks_nil _ _, Below.refl _ _⟩
  case round =>
    obtain ⟨i, hi, rfl, HT, HB⟩ := hrel
    by_cases hlt : i < ts.length
    · have d1 : decide ((i : Int) < (ts.length : Int)) = true := decide_eq_true (by omega)
      have HL : Hid (Tk.Lies wr (· < w.heap.size) ts (.slice a ts.length d)) := H.out.on fun k hk => ⟨hk, HB.out.block k hk⟩
      obtain ⟨b, o, aa, ad, rfl, c0, c1, c2, c3, c4, hl⟩ := Um.tokenAt HL.out hlt
      have hid : i < d := by omega
      obtain ⟨T, hT⟩ : ∃ T, ts[i] = T := ⟨_, rfl⟩
      rw [hT] at c0 c1 c2 c3 c4 hl
      obtain ⟨xs, hx⟩ := id HT.out
      have hti : (ts.take i).length = i := by rw [List.length_take]; omega
      obtain ⟨ua, ud, rfl⟩ : ∃ ua ud, u3 = .slice ua i ud := by
        rcases hx.1.2 with ⟨rfl, q⟩ | ⟨g, cap, cur, rfl, _⟩
        · exact ⟨none, 0, by rw [← hti, q]⟩
        · exact ⟨_, _, by rw [hti]⟩
      have HTI := Lib.hid hti
      clear hti
      have hmem : T ∈ ts := by rw [← hT]; exact List.getElem_mem hlt
      have hta := HAL.out T hmem
      have HTS : Hid (ts.take (i + 1) = ts.take i ++ [T]) := by unfold Hid; rw [List.take_succ_eq_append_getElem hlt, hT]
      have hws : w.heap.size ≤ wr.heap.size := HB.out.size
      go_upto_region 6 with fail
      obtain ⟨W1, hW1⟩ : ∃ W1, wr.alloc (.cells #[.int .i64 T.kind, .string T.name, .string T.text, .slice aa T.attrs.length ad, .bool T.self] 41) = W1 := ⟨_, rfl⟩
      have hb1 : Below wr.heap.size wr W1 := by rw [← hW1]; exact (Below.refl _ _).alloc (Nat.le_refl _) _
      have hs1 : W1.heap.size = wr.heap.size + 1 := by rw [← hW1]; simp
      have k0 : W1.cell? ⟨wr.heap.size, 0, none⟩ = some (.int .i64 T.kind) := by rw [← hW1]; simp
      have k1 : W1.cell? ⟨wr.heap.size, 1, none⟩ = some (.string T.name) := by rw [← hW1]; simp
      have k2 : W1.cell? ⟨wr.heap.size, 2, none⟩ = some (.string T.text) := by rw [← hW1]; simp
      have k3 : W1.cell? ⟨wr.heap.size, 3, none⟩ = some (.slice aa T.attrs.length ad) := by rw [← hW1]; simp
      have k4 : W1.cell? ⟨wr.heap.size, 4, none⟩ = some (.bool T.self) := by rw [← hW1]; simp
      have kf : ∀ j, W1.frozen? ⟨wr.heap.size, j, none⟩ = false := fun j => by rw [← hW1]; simp
      have q3 := Tp.keep hb1 c3
      have hbq : b < W1.heap.size := World.block_lt_of_cell? _ _ q3
      have q3' : ∀ o', (W1.alloc o').cell? ⟨b, o + i * 5 + 3, none⟩ = _ := fun o' => (World.cell?_alloc_lt _ _ _ hbq).trans q3
      have HKC : Hid (∀ o' j y, (Ak.cells T.attrs)[j]? = some y → ∃ b, aa = some b ∧ (W1.alloc o').cell? (b.add j) = some y) := fun o' => (Um.attr_cells (hl.on (R' := fun _ => True) fun k (hk : k < w.heap.size) => ⟨trivial, (Below.heap_alloc _ _ _ (by omega)).trans (hb1.block k (by omega))⟩)).2
      have HB1 := Lib.hid hb1
      have HX := Lib.hid hx
      have HS1 := Lib.hid hs1
      have hwW : wr.heap.size < W1.heap.size := by omega
      clear hs1
      rw [hW1]
      clear hW1 hb1 c0 c1 c2 c3 c4 hl hT HL hx
      go_wp2_with (at_builtin; refine Um.copy rfl _ _ 36 48 2 32 _ rfl Try.underlying36 Rm.infoA rfl (by decide) (base := W1.heap.size) W1.heap.size rfl (Um.noAttrs W1 _ (Nat.le_refl _)) T.attrs.length (Ak.cells T.attrs) aa ad rfl (HKC.out _) (Ak.cells_length _) (Ak.cells_one _) (by unfold maxLen; omega) (by omega) (by simp) ?_)
      intro v4 w4 R4 hg4 hf4
      obtain ⟨a4, d4, rfl⟩ := Um.form R4
      have hb4 : Below W1.heap.size W1 w4 := ((Below.refl W1.heap.size W1).alloc (Nat.le_refl _) _).grown hg4 (by simp) (fun k hk => by cases hk; exact Nat.le_refl _)
      have m0 := Tp.keep hb4 k0
      have m1 := Tp.keep hb4 k1
      have m2 := Tp.keep hb4 k2
      have m3 := Tp.keep hb4 k3
      have m4 := Tp.keep hb4 k4
      have mf := Tp.keepF hb4 (by omega) kf
      have HL4 := Lib.hid ((Ak.Lies.own R4).on (R' := fun k => W1.heap.size ≤ k ∧ k < w4.heap.size ∧ Rm.Ub w4 k) fun k hk => ⟨⟨(R4.lt k hk).1, (R4.lt k hk).2, Rm.Ub.own R4 hk⟩, rfl⟩)
      have hs4 := hb4.size
      have HB4 : Hid (Below wr.heap.size wr w4) := HB1.out.trans (hb4.mono (by omega))
      clear R4 hg4 hf4 hb4 k0 k1 k2 k3 k4 kf q3 q3' HKC HB1
      go_upto_region 7 with fail
      obtain ⟨V, hV⟩ : ∃ V, w4.setCell ⟨wr.heap.size, 3, none⟩ (.slice a4 T.attrs.length d4) = V := ⟨_, rfl⟩
      have e0 : V.cell? ⟨wr.heap.size, 0, none⟩ = some (.int .i64 T.kind) := by rw [← hV, World.cell?_setCell_other _ _ _ _ (fun e => by injection e with e1 e2; cases e2)]; exact m0
      have e1 : V.cell? ⟨wr.heap.size, 1, none⟩ = some (.string T.name) := by rw [← hV, World.cell?_setCell_other _ _ _ _ (fun e => by injection e with e1 e2; cases e2)]; exact m1
      have e2 : V.cell? ⟨wr.heap.size, 2, none⟩ = some (.string T.text) := by rw [← hV, World.cell?_setCell_other _ _ _ _ (fun e => by injection e with e1 e2; cases e2)]; exact m2
      have e3 : V.cell? ⟨wr.heap.size, 3, none⟩ = some (.slice a4 T.attrs.length d4) := by rw [← hV]; exact World.cell?_setCell_same _ _ _ m3
      have e4 : V.cell? ⟨wr.heap.size, 4, none⟩ = some (.bool T.self) := by rw [← hV, World.cell?_setCell_other _ _ _ _ (fun e => by injection e with e1 e2; cases e2)]; exact m4
      have hbV : Below wr.heap.size wr V := by rw [← hV]; exact HB4.out.setCell (Nat.le_refl _) _
      have hsV : V.heap.size = w4.heap.size := by rw [← hV]; simp
      have HLV : Hid (Ak.Lies V (fun k => w.heap.size ≤ k ∧ k < V.heap.size ∧ (Value.slice ua i ud).ownBlock ≠ some k ∧ Rm.Ub V k) T.attrs (.slice a4 T.attrs.length d4)) := by
        refine HL4.out.on fun k hk => ?_
        have hne : k ≠ wr.heap.size := by omega
        have hb : V.heap[k]? = w4.heap[k]? := by rw [← hV]; exact Below.heap_setCell _ _ _ _ hne
        refine ⟨⟨by omega, by omega, fun e => ?_, hk.2.2.on hb⟩, hb⟩
        have := (HX.out.1.lt k e).2
        omega
      have hOV : V.ownsRow w.heap.size 41 5 (.slice ua i ud) (ts.take i).length xs := Rm.own_on HX.out.1 fun k hk => hbV.block k (HX.out.1.lt k hk).2
      have HXV : Hid (∀ j t, (ts.take i)[j]? = some t → ∃ av, xs[j * 5]? = some (.int .i64 t.kind) ∧ xs[j * 5 + 1]? = some (.string t.name) ∧ xs[j * 5 + 2]? = some (.string t.text) ∧ xs[j * 5 + 3]? = some av ∧ xs[j * 5 + 4]? = some (.bool t.self) ∧ Ak.Lies V (fun k => w.heap.size ≤ k ∧ k < V.heap.size ∧ (Value.slice ua i ud).ownBlock ≠ some k ∧ none ≠ some k ∧ Rm.Ub V k) t.attrs av) := fun j t hj => by
        obtain ⟨av, x0, x1, x2, x3, x4, hl⟩ := HX.out.2 j t hj
        exact ⟨av, x0, x1, x2, x3, x4, hl.on fun k hk => ⟨⟨hk.1, by omega, hk.2.2.1, hk.2.2.2.1, hk.2.2.2.2.on (hbV.block k hk.2.1)⟩, hbV.block k hk.2.1⟩⟩
      have HOV := Lib.hid hOV
      have HO2 : Hid (V.ownsRow w.heap.size 41 5 (.slice ua i ud) i xs) := by have := hOV; rw [HTI.out] at this; exact this
      have HBV : Hid (Below w.heap.size w V) := HB.out.trans (hbV.mono hws)
      have hwV : w.heap.size ≤ V.heap.size := HBV.out.size
      rw [hV]
      clear hV hbV hsV hOV m0 m1 m2 m3 m4 mf HL4 HB4 hs4
      go_wp2_with (at_builtin; refine Ro.push rfl _ _ 22 41 5 72 _ rfl Try.underlying22 Rm.infoT rfl (by decide) _ rfl (HO2.out.alloc _) V.heap.size (Rm.five T (.slice a4 T.attrs.length d4)) rfl (Rm.five_cells V T _ _ rfl) rfl (Rm.five_one _ _ _ _) (by unfold maxLen; omega) (by omega) (by simp; omega) ?_)
      intro v5 w5 R5 hg5 hf5
      have HT5 := Lib.hid (Rm.toks_push (w := V.alloc (.cells #[.int .i64 T.kind, .string T.name, .string T.text, .slice a4 T.attrs.length d4, .bool T.self] 41)) HOV.out HXV.out HLV.out (by simp) (fun k hk => Below.heap_alloc _ _ _ hk) (by rw [HTI.out]; exact R5) hg5 (by simpa using hf5))
      have HB5 := Lib.hid ((HBV.out.alloc HBV.out.size _).grown hg5 (by simp; omega) (fun k hk => (HO2.out.lt k hk).1))
      clear R5 hg5 hf5 e0 e1 e2 e3 e4
      go_wp2
      go_roundw
      case rel => exact ⟨i + 1, by omega, by go_num, (by rw [HTS.out]; exact HT5), HB5⟩
      case measure => simp [intOf]; omega
    · have e : i = ts.length := by omega
      subst e
      have d1 : decide ((ts.length : Int) < (ts.length : Int)) = false := decide_eq_false (by omega)
      rw [List.take_length] at HT
      go_wp2_with fail
      go_ret
      exact ⟨_, rfl, HT.out.liesU, HB.out⟩
end Go.Proofs.Ythfobjkdcncoiaa

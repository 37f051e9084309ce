/-
  THE WALK of stolelaw5.at: the state behind a text.
-/
import Derived.Test.YtjbkgokiikbaeaaGreatDoorTRead
import Derived.Test.YtjbkgokiikbaeaaGreatDoorTPre
namespace Go.Proofs.YtjbkgokiikbaeaaGreatDoor
open Go.RowKit
def Ts.all (l : List UInt8) : Ts := l.foldl Ts.step Ts.start
theorem Ts.all_small (l : List UInt8) : (Ts.all l).Small := by
  unfold Ts.all
  have : ∀ (l : List UInt8) (s : Ts), s.Small → (l.foldl Ts.step s).Small := by
    intro l
    induction l with
    | nil => intro s h; exact h
    | cons c l ih => intro s h; exact ih _ (Ts.step_small h c)
  exact this l _ ⟨by decide, by decide, by decide⟩
theorem Ts.Small.fits {s : Ts} (h : s.Small) : s.Fits := ⟨by have := h.1; unfold maxLen; omega, by have := h.2.1; unfold maxLen; omega, by have := h.2.2; unfold maxLen; omega⟩
set_option maxHeartbeats 4000000 in
theorem Aw.at (s : ByteArray) (w : World) (hs : s.size ≤ 1000000) : Calls Tryz.prog 18 #[.string s] w fun e w' => e = .returned (.agg #[.int .i64 (Ts.all s.data.toList).pl, .string (Ts.all s.data.toList).name, .bool (Ts.all s.data.toList).fin, .string (Ts.all s.data.toList).attr, .string (Ts.all s.data.toList).held, .int .i64 (Ts.all s.data.toList).read]) ∧ Below w.heap.size w w' := by
  go_enter Tryz.func18, Tryz.ntmps18
  go_wp2_with (go_at_call 10; refine (Tp.Start _).mono ?_; rintro e w1 ⟨rfl, hb1⟩)
  have z0 := Tp.keep hb1 (b := w.heap.size) (o := 0) (v := .int .i64 0) (by simp)
  have z1 := Tp.keep hb1 (b := w.heap.size) (o := 1) (v := .string ⟨#[]⟩) (by simp)
  have z2 := Tp.keep hb1 (b := w.heap.size) (o := 2) (v := .bool false) (by simp)
  have z3 := Tp.keep hb1 (b := w.heap.size) (o := 3) (v := .string ⟨#[]⟩) (by simp)
  have z4 := Tp.keep hb1 (b := w.heap.size) (o := 4) (v := .string ⟨#[]⟩) (by simp)
  have z5 := Tp.keep hb1 (b := w.heap.size) (o := 5) (v := .int .i64 0) (by simp)
  have zf := Tp.keepF hb1 (b := w.heap.size) (by simp) (fun i => by simp)
  have hs1 := hb1.size
  simp at hs1
  have q1 : Below w.heap.size w w1 := ((Below.refl _ _).alloc (Nat.le_refl _) _).trans (hb1.mono (by simp))
  clear hb1
  have hS0 : Rm.Six (w1.alloc (.cells #[.int .i64 Ts.start.pl, .string Ts.start.name, .bool Ts.start.fin, .string Ts.start.attr, .string Ts.start.held, .int .i64 Ts.start.read] 23)) w1.heap.size Ts.start := Rm.Six.new w1 Ts.start _ rfl
  have hbA := (Below.refl w1.heap.size w1).alloc (Nat.le_refl _) (.cells #[.int .i64 Ts.start.pl, .string Ts.start.name, .bool Ts.start.fin, .string Ts.start.attr, .string Ts.start.held, .int .i64 Ts.start.read] 23)
  have hfS0 : ∀ i, (w1.alloc (.cells #[.int .i64 Ts.start.pl, .string Ts.start.name, .bool Ts.start.fin, .string Ts.start.attr, .string Ts.start.held, .int .i64 Ts.start.read] 23)).frozen? ⟨w1.heap.size, i, none⟩ = false := fun i => by simp
  have y0 := Tp.keep hbA z0
  have y1 := Tp.keep hbA z1
  have y2 := Tp.keep hbA z2
  have y3 := Tp.keep hbA z3
  have y4 := Tp.keep hbA z4
  have y5 := Tp.keep hbA z5
  have yf := Tp.keepF hbA (by omega) zf
  have qA := q1.trans (hbA.mono q1.size)
  clear z0 z1 z2 z3 z4 z5 zf q1 hbA
  generalize w1.heap.size = g at *
  go_loopw [4] (fun i wr => ∃ k : Nat, k ≤ s.size ∧ i = .int .i64 (k : Int) ∧ Rm.Six wr g (Ts.all (s.data.toList.take k)) ∧ (∀ i, wr.frozen? ⟨g, i, none⟩ = false) ∧ (wr.cell? ⟨w.heap.size, 0, none⟩ = some (.int .i64 0) ∧ wr.cell? ⟨w.heap.size, 1, none⟩ = some (.string ⟨#[]⟩) ∧ wr.cell? ⟨w.heap.size, 2, none⟩ = some (.bool false) ∧ wr.cell? ⟨w.heap.size, 3, none⟩ = some (.string ⟨#[]⟩) ∧ wr.cell? ⟨w.heap.size, 4, none⟩ = some (.string ⟨#[]⟩) ∧ wr.cell? ⟨w.heap.size, 5, none⟩ = some (.int .i64 0)) ∧ (∀ i, wr.frozen? ⟨w.heap.size, i, none⟩ = false) ∧ Below w.heap.size w wr) (fun i _ => s.size - (intOf i).toNat)
  case atStart =>
    exact ⟨0, Nat.zero_le _, rfl, hS0, hfS0, ⟨y0, y1, y2, y3, y4, y5⟩, yf, qA⟩
  case round =>
    clear hS0 hfS0 y0 y1 y2 y3 y4 y5 yf qA
    obtain ⟨k, hk, rfl, hS, hfS, ⟨z0, z1, z2, z3, z4, z5⟩, zf, hb⟩ := hrel
    by_cases hlt : k < s.size
    · have HA : Hid (Ts.all (s.data.toList.take (k + 1)) = (Ts.all (s.data.toList.take k)).step s[k]) := by
        unfold Hid Ts.all
        have e : s.data.toList.take (k + 1) = s.data.toList.take k ++ [s[k]] := by
          rw [List.take_succ_eq_append_getElem (by rw [Wk.len_data]; exact hlt)]; rfl
        rw [e, List.foldl_append]
        rfl
      have hfit := (Ts.all_small (s.data.toList.take k)).fits
      obtain ⟨Y, hY⟩ : ∃ Y, Ts.all (s.data.toList.take (k + 1)) = Y := ⟨_, rfl⟩
      have HY := Lib.hid hY
      rw [hY] at HA
      clear hY
      generalize Ts.all (s.data.toList.take k) = X at *
      have hst := fun u => Tp.Step X s[k] u hfit
      rw [← HA.out] at hst
      have c0 := hS.c0
      have c1 := hS.c1
      have c2 := hS.c2
      have c3 := hS.c3
      have c4 := hS.c4
      have c5 := hS.c5
      have hglt := hS.lt
      have hwg : w.heap.size ≠ g := by omega
      clear hS HA hfit
      go_wp2_with fail
      go_region_with (go_at_call 8; refine (hst _).mono ?_; rintro e w4 ⟨rfl, hb4⟩; have d0 := Tp.keep hb4 c0; have d1 := Tp.keep hb4 c1; have d2 := Tp.keep hb4 c2; have d3 := Tp.keep hb4 c3; have d4 := Tp.keep hb4 c4; have d5 := Tp.keep hb4 c5; have df := Tp.keepF hb4 hglt hfS; have e0 := Tp.keep hb4 z0; have e1 := Tp.keep hb4 z1; have e2 := Tp.keep hb4 z2; have e3 := Tp.keep hb4 z3; have e4 := Tp.keep hb4 z4; have e5 := Tp.keep hb4 z5; have ef := Tp.keepF hb4 (b := w.heap.size) (by first | omega | (simp; omega)) zf; have q4 : Below w.heap.size w w4 := hb.drew.trans (hb4.mono (by first | exact hb.size | (simp; exact hb.size))); clear hb4)
      all_goals
        obtain ⟨V, hV, v0, v1, v2, v3, v4, v5, vf, vo, vfo, vs, vb⟩ := Tp.six w4 g (.int .i64 Y.pl) (.string Y.name) (.bool Y.fin) (.string Y.attr) (.string Y.held) (.int .i64 Y.read) d0 d1 d2 d3 d4 d5 df
        rw [hV]
        have y0 := (vo w.heap.size 0 hwg).trans e0
        have y1 := (vo w.heap.size 1 hwg).trans e1
        have y2 := (vo w.heap.size 2 hwg).trans e2
        have y3 := (vo w.heap.size 3 hwg).trans e3
        have y4 := (vo w.heap.size 4 hwg).trans e4
        have y5 := (vo w.heap.size 5 hwg).trans e5
        have yf : ∀ i, V.frozen? ⟨w.heap.size, i, none⟩ = false := fun i => (vfo _ i).trans (ef i)
        have qV := vb w.heap.size w (by omega) q4
        clear hV vo vfo vs vb d0 d1 d2 d3 d4 d5 df e0 e1 e2 e3 e4 e5 ef q4 c0 c1 c2 c3 c4 c5 z0 z1 z2 z3 z4 z5 zf hb hfS
        go_wp2
        go_roundw
        case rel => exact ⟨k + 1, by omega, by go_num, by rw [HY.out]; exact ⟨v0, v1, v2, v3, v4, v5⟩, vf, ⟨y0, y1, y2, y3, y4, y5⟩, yf, qV⟩
        case measure => simp [intOf]; omega
    · have hke : k = s.size := by omega
      subst hke
      rw [show s.data.toList.take s.size = s.data.toList by rw [← Wk.len_data]; exact List.take_length] at hS
      have hglt := hS.lt
      have hwg : w.heap.size ≠ g := by omega
      obtain ⟨X, hX⟩ : ∃ X, Ts.all s.data.toList = X := ⟨_, rfl⟩
      have HX := Lib.hid hX
      rw [hX] at hS
      clear hX
      have c0 := hS.c0
      have c1 := hS.c1
      have c2 := hS.c2
      have c3 := hS.c3
      have c4 := hS.c4
      have c5 := hS.c5
      go_wp2
      refine bodyPost_ret (v := .agg #[.int .i64 X.pl, .string X.name, .bool X.fin, .string X.attr, .string X.held, .int .i64 X.read]) (by simp [results, Tryz.results18, go_sem, *]) rfl ⟨Tp.ret HX.out.symm, ?_⟩
      repeat (refine Below.setCell ?_ (by simp) _)
      exact hb
end Go.Proofs.YtjbkgokiikbaeaaGreatDoor

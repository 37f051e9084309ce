/-
  THE WALKS of stolelaw0.SpoilTexts and SpoilValue.
-/
import Derived.Test.YtggfemdnoccmeaaDoorVKit
import Derived.Test.YtggfemdnoccmeaaDoorVPlain2
namespace Go.Proofs.YtggfemdnoccmeaaDoor
open Go.RowKit

/-- what lies outside of the blocks from lo below hi, and was there, has not turned -/
structure Sp.Out (lo hi : Nat) (w w' : World) : Prop where
  os : w'.os = w.os
  tape : w'.tape = w.tape
  output : w'.output = w.output
  size : w.heap.size ≤ w'.heap.size
  block : ∀ k, k < w.heap.size → (k < lo ∨ hi ≤ k) → w'.heap[k]? = w.heap[k]?
theorem Sp.Out.refl (lo hi : Nat) (w : World) : Sp.Out lo hi w w := ⟨rfl, rfl, rfl, Nat.le_refl _, fun _ _ _ => rfl⟩
theorem Sp.Out.wide {lo hi lo' hi' : Nat} {w w' : World} (h : Sp.Out lo hi w w') (h1 : lo' ≤ lo) (h2 : hi ≤ hi') : Sp.Out lo' hi' w w' :=
  ⟨h.os, h.tape, h.output, h.size, fun k hk hh => h.block k hk (by omega)⟩
theorem Sp.Out.trans {lo hi : Nat} {w w' w'' : World} (h : Sp.Out lo hi w w') (g : Sp.Out lo hi w' w'') : Sp.Out lo hi w w'' :=
  ⟨g.os.trans h.os, g.tape.trans h.tape, g.output.trans h.output, Nat.le_trans h.size g.size, fun k hk hh => (g.block k (Nat.lt_of_lt_of_le hk h.size) hh).trans (h.block k hk hh)⟩
theorem Sp.Out.below {lo hi : Nat} {w w' : World} (h : Below w.heap.size w w') : Sp.Out lo hi w w' := ⟨h.os, h.tape, h.output, h.size, fun k hk _ => h.block k hk⟩
theorem Sp.Out.set {lo hi : Nat} {w w' : World} (h : Sp.Out lo hi w w') {g : Nat} (h1 : lo ≤ g) (h2 : g < hi) (i : Nat) (v : Value) : Sp.Out lo hi w (w'.setCell ⟨g, i, none⟩ v) :=
  ⟨h.os, h.tape, h.output, by simp; exact h.size, fun k hk hh => (Below.heap_setCell _ _ _ _ (by simp; omega)).trans (h.block k hk hh)⟩

theorem Sp.Out.drew {lo hi : Nat} {w w' : World} (h : Sp.Out lo hi w w') : Sp.Out lo hi w w'.drew := ⟨h.os, h.tape, h.output, h.size, h.block⟩
/-- a row of texts of its own -/
structure Sp.Row (w : World) (lo hi m : Nat) (ak : Option Addr) (d : Nat) : Prop where
  le : m ≤ d
  max : d ≤ maxLen
  row : 0 < m → ∃ g cur, ak = some ⟨g, 0, none⟩ ∧ lo ≤ g ∧ g < hi ∧ w.heap[g]? = some (.cells cur 9) ∧ ∀ j, j < m → ∃ s : ByteArray, cur[j]? = some (.string s) ∧ s.size ≤ 100

set_option maxRecDepth 100000 in
set_option maxHeartbeats 4000000 in
theorem Sp.texts (lo hi m : Nat) (ak : Option Addr) (d : Nat) (w : World) (h : Sp.Row w lo hi m ak d) :
    Calls Tryd.prog 33 #[.slice ak m d] w fun e w' => e = .returned (.tuple #[]) ∧ Sp.Out lo hi w w' := by
  have hm : m ≤ 9223372036854775807 := by have := h.le; have := h.max; unfold maxLen at this; omega
  have hle := h.le
  go_enter Tryd.func33, Tryd.ntmps33
  go_wp2
  go_loopw [2] (fun ix wr => ∃ j : Nat, j ≤ m ∧ ix = .int .i64 (j : Int) ∧ Sp.Out lo hi w wr ∧ (0 < m → ∃ g cur, ak = some ⟨g, 0, none⟩ ∧ lo ≤ g ∧ g < hi ∧ wr.heap[g]? = some (.cells cur 9) ∧ ∀ i, j ≤ i → i < m → ∃ s : ByteArray, cur[i]? = some (.string s) ∧ s.size ≤ 100)) (fun ix _ => m - (intOf ix).toNat)
  case atStart => exact ⟨0, Nat.zero_le _, by go_num, Sp.Out.refl _ _ _, fun h0 => by
    obtain ⟨g, cur, e, g1, g2, hg, hc⟩ := h.row h0
    exact ⟨g, cur, e, g1, g2, hg, fun i _ hi => hc i hi⟩⟩
  case round =>
    obtain ⟨j, hj, rfl, hO, hR⟩ := hrel
    by_cases hlt : j < m
    · obtain ⟨g, cur, rfl, g1, g2, hg, hc⟩ := hR (by omega)
      obtain ⟨s, hs, hz⟩ := hc j (Nat.le_refl _) hlt
      have c0 := Vm.boxCell hg j hs
      have f0 := Vc.row_frozen hg
      have hjd : j < d := by omega
      have HG := Lib.hid hg
      have HC := Lib.hid hc
      clear hR hg hc hs
      go_wp2
      refine ⟨⟨j + 1, hlt, by go_num, hO.set g1 g2 _ _, fun _ => ⟨g, _, rfl, g1, g2, Vm.setAt HG.out j _, fun i h1 h2 => ?_⟩⟩, ?_⟩
      · obtain ⟨s', hs', hz'⟩ := HC.out i (by omega) h2
        exact ⟨s', by rw [Array.getElem?_setIfInBounds_ne (by omega)]; exact hs', hz'⟩
      · simp [intOf]
        omega
    · have e : j = m := by omega
      subst e
      go_wp2
      go_end0
      exact ⟨rfl, hO⟩

/-- no key is long -/
def Vt.short : Vt → Prop
  | .nil => True
  | .mk _ _ _ _ n it m ks => (∀ j, j < m → (ks j).size ≤ 100) ∧ ∀ i, i < n → (it i).short
theorem Vt.fit.short : ∀ {t : Vt}, t.fit → t.short := by
  intro t
  induction t with
  | nil => intro h; exact h.elim
  | mk k x b s n it m ks ih =>
    rintro ⟨h1, h2⟩
    refine ⟨fun j hj => ?_, fun i hi => ih i (h2 i hi)⟩
    by_cases k6 : k = 6
    · subst k6
      have := Vt.keysOk_of (Vt.formed6 h1).2.2 hj
      unfold Vt.key at this
      simp at this
      omega
    · unfold Vt.formed at h1
      repeat' split at h1
      all_goals simp_all
      all_goals omega

set_option maxRecDepth 100000 in
set_option maxHeartbeats 8000000 in
theorem Sp.value : ∀ (t : Vt), t.short → ∀ (lo hi : Nat) (v : Value) (w : World), t.Own w lo hi v → hi ≤ w.heap.size →
    Calls Tryd.prog 14 #[v] w fun e w' => e = .returned (.tuple #[]) ∧ Sp.Out lo hi w w' := by
  intro t
  induction t with
  | nil => intro _ lo hi v w h; exact h.elim
  | mk k x b s n it m ks ih =>
    rintro ⟨hsh, hsi⟩ lo hi v w h hhi
    have HI : Hid (∀ i, (it i).short → ∀ (lo hi : Nat) (v : Value) (w : World), (it i).Own w lo hi v → hi ≤ w.heap.size →
      Calls Tryd.prog 14 #[v] w fun e w' => e = .returned (.tuple #[]) ∧ Sp.Out lo hi w w') := ih
    obtain ⟨ai, c, ak, d, mid, rfl, hb, hd, hc, hlm, hmh, hk, hi'⟩ := h
    have HSI := Lib.hid hsi
    have HSH := Lib.hid hsh
    have HK := Lib.hid hk
    have HR := Lib.hid hi'
    clear ih hsi hsh hk hi'
    have hnm : n ≤ 9223372036854775807 := by have := hc.1; have := hc.2; unfold maxLen at this; omega
    go_enter Tryd.func14, Tryd.ntmps14
    go_wp2
    have BX : Vm.Box _ _ _ _ _ _ _ _ := ⟨Vm.Has.new w (.cells #[.int .i64 k, .int .i64 x, .int .u64 (b : Int), .string s, .slice ai n c, .slice ak m d] 26) _ rfl⟩
    have hbA := (Below.refl w.heap.size w).alloc (Nat.le_refl _) (.cells #[.int .i64 k, .int .i64 x, .int .u64 (b : Int), .string s, .slice ai n c, .slice ak m d] 26)
    generalize w.alloc (.cells #[.int .i64 k, .int .i64 x, .int .u64 (b : Int), .string s, .slice ai n c, .slice ak m d] 26) = W at *
    have HBX := Lib.hid BX
    have HBA := Lib.hid hbA
    clear BX hbA
    go_loopw [2] (fun ix wr => ∃ j : Nat, j ≤ n ∧ ix = .int .i64 (j : Int) ∧ Sp.Out mid hi W wr ∧ (0 < n → ∃ g cur, ∃ A B : Nat → Nat, ai = some ⟨g, 0, none⟩ ∧ mid ≤ g ∧ g < hi ∧ wr.heap[g]? = some (.cells cur 26) ∧
      (∀ i, j ≤ i → i < n → g < A i ∧ B i ≤ hi ∧ ∃ u0 u1 u2 u3 u4 u5, cur[i * 6]? = some u0 ∧ cur[i * 6 + 1]? = some u1 ∧ cur[i * 6 + 2]? = some u2 ∧ cur[i * 6 + 3]? = some u3 ∧ cur[i * 6 + 4]? = some u4 ∧ cur[i * 6 + 5]? = some u5 ∧ (it i).Own wr (A i) (B i) (.agg #[u0, u1, u2, u3, u4, u5])) ∧
      ∀ i i', i < i' → i' < n → B i ≤ A i')) (fun ix _ => n - (intOf ix).toNat)
    case atStart =>
      refine ⟨0, Nat.zero_le _, by go_num, Sp.Out.refl _ _ _, fun h0 => ?_⟩
      obtain ⟨g, cur, A, B, e, g1, g2, hg, hj, hp⟩ := HR.out h0
      refine ⟨g, cur, A, B, e, g1, g2, (HBA.out.block g (by omega)).trans hg, fun i _ hin => ?_, hp⟩
      obtain ⟨a1, a2, u0, u1, u2, u3, u4, u5, q0, q1, q2, q3, q4, q5, ho⟩ := hj i hin
      exact ⟨a1, a2, u0, u1, u2, u3, u4, u5, q0, q1, q2, q3, q4, q5, ho.on fun q l1 l2 => HBA.out.block q (by omega)⟩
    case round =>
      obtain ⟨j, hj, rfl, hO, hR⟩ := hrel
      have BX : Vm.Box wr w.heap.size _ _ _ _ _ _ := ⟨(hO.block _ HBX.out.lt (by omega)).trans HBX.out.all⟩
      have hsW : w.heap.size < W.heap.size := HBX.out.lt
      have hsr : W.heap.size ≤ wr.heap.size := hO.size
      by_cases hlt : j < n
      · have dj : decide ((j : Int) < (n : Int)) = true := decide_eq_true (by omega)
        obtain ⟨g, cur, A, B, rfl, g1, g2, hg, hcs, hp⟩ := hR (by omega)
        obtain ⟨hA, hBB, u0, u1, u2, u3, u4, u5, x0, x1, x2, x3, x4, x5, hown⟩ := hcs j (Nat.le_refl _) hlt
        obtain ⟨k', x', b', s', ai', n', c', ak', m', d', eqf⟩ := hown.form
        injection eqf with eqf
        injection eqf with eqf
        injection eqf with e0 eqf
        injection eqf with e1 eqf
        injection eqf with e2 eqf
        injection eqf with e3 eqf
        injection eqf with e4 eqf
        injection eqf with e5 eqf
        subst e0 e1 e2 e3 e4 e5
        have hjc : j < c := Nat.lt_of_lt_of_le hlt hc.1
        have y0 := Vm.boxCell hg _ x0
        have y1 := Vm.boxCell hg _ x1
        have y2 := Vm.boxCell hg _ x2
        have y3 := Vm.boxCell hg _ x3
        have y4 := Vm.boxCell hg _ x4
        have y5 := Vm.boxCell hg _ x5
        have c4 := BX.cells.2.2.2.2.1
        have HX : Hid (cur[j * 6]? = some (.int .i64 k') ∧ cur[j * 6 + 1]? = some (.int .i64 x')) := ⟨x0, x1⟩
        have HOW := Lib.hid hown
        have HG := Lib.hid hg
        have HCS := Lib.hid hcs
        have HP := Lib.hid hp
        have HBW := Lib.hid BX
        have HO := Lib.hid hO
        clear x0 x1 x2 x3 x4 x5 hown hg hcs hp BX hO hR
        go_wp2_with fail
        clear y0 y1 y2 y3 y4 y5 c4
        refine (HI.out j (HSI.out j hlt) (A j) (B j) _ _ HOW.out (by omega)).mono ?_
        rintro e w3 ⟨rfl, hO3⟩
        have hg3 : w3.heap[g]? = some (.cells cur 26) := (hO3.block g (by omega) (by omega)).trans HG.out
        have B3 : Vm.Box w3 w.heap.size _ _ _ _ _ _ := ⟨(hO3.block _ HBW.out.lt (by omega)).trans HBW.out.all⟩
        have c4 := B3.cells.2.2.2.2.1
        have y0 := Vm.boxCell hg3 _ HX.out.1
        have y1 := Vm.boxCell hg3 _ HX.out.2
        have ff := fun i => Vc.row_frozen hg3 i
        have HG3 := Lib.hid hg3
        have HO3 := Lib.hid hO3
        clear hO3 hg3 B3 HOW
        obtain ⟨X9, hX9⟩ : ∃ X9 : Int, Go.bits .xor .i64 x' 90 = X9 := ⟨_, rfl⟩
        go_wp2_with fail
        go_region
        go_wp2
        refine ⟨⟨j + 1, hlt, by go_num, (((HO.out.trans (HO3.out.wide (by omega) hBB)).set g1 g2 _ _).set g1 g2 _ _).drew, fun _ => ⟨g, _, A, B, rfl, g1, g2, Vm.setAt (Vm.setAt HG3.out (j * 6 + 1) (.int .i64 X9)) (j * 6) (.int .i64 2), fun i h1 h2 => ?_, HP.out⟩⟩, ?_⟩
        · obtain ⟨hA', hB', u0, u1, u2, u3, u4, u5, x0, x1, x2, x3, x4, x5, ho⟩ := HCS.out i (by omega) h2
          have hab := HP.out j i (by omega) h2
          refine ⟨hA', hB', u0, u1, u2, u3, u4, u5, ?_, ?_, ?_, ?_, ?_, ?_, ho.on fun q l1 l2 => ?_⟩
          case refine_7 =>
            show ((w3.setCell ⟨g, j * 6 + 1, none⟩ (.int .i64 X9)).setCell ⟨g, j * 6, none⟩ (.int .i64 2)).heap[q]? = _
            rw [Below.heap_setCell _ _ _ _ (by simp; omega), Below.heap_setCell _ _ _ _ (by simp; omega)]
            exact HO3.out.block q (by omega) (by omega)
          all_goals rw [Array.getElem?_setIfInBounds_ne (by omega), Array.getElem?_setIfInBounds_ne (by omega)]
          all_goals assumption
        · simp [intOf]
          omega
      · have e : j = n := by omega
        subst e
        have dj : decide ((j : Int) < (j : Int)) = false := decide_eq_false (by omega)
        have hRT : Sp.Row wr lo mid m ak d := ⟨hd.1, hd.2, fun hm => by
          obtain ⟨g, cur, e, g1, g2, hg, hc⟩ := HK.out hm
          exact ⟨g, cur, e, g1, g2, (hO.block g (by have := HBA.out.size; omega) (by omega)).trans ((HBA.out.block g (by omega)).trans hg), fun i hi => ⟨ks i, hc i hi, HSH.out i hi⟩⟩⟩
        obtain ⟨c0, c1, c2, c3, c4, c5⟩ := BX.cells
        have HRT := Lib.hid hRT
        have HO := Lib.hid hO
        clear hRT hO hR BX
        go_wp2_with fail
        refine (Sp.texts lo mid m ak d _ HRT.out).mono ?_
        rintro e w3 ⟨rfl, hO3⟩
        clear c0 c1 c2 c3 c4 c5
        have hF : Sp.Out lo hi w w3 := (Sp.Out.below HBA.out).trans (((HO.out.wide hlm (Nat.le_refl _)).trans (hO3.wide (Nat.le_refl _) hmh)))
        clear hO3
        go_wp2
        go_end0
        exact ⟨rfl, hF⟩
end Go.Proofs.YtggfemdnoccmeaaDoor

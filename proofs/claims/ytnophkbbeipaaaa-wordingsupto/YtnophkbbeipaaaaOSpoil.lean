/-
  THE WALKS of stolelaw0.SpoilTexts and SpoilWords: a text in its cell becomes another text, a number another number; nothing else turns.
-/
import Derived.Test.YtnophkbbeipaaaaOMem
import Derived.Test.YtnophkbbeipaaaaGSpoil
namespace Go.Proofs.Ytnophkbbeipaaaa
open Go.RowKit
/-- a row of words whose kinds and whose paths' texts may be written -/
def Sw.Wrds (w : World) (R : Nat → Prop) (a : Option Addr) (n L : Nat) : Prop := ∀ i, i < n → ∃ b o, ∃ x : Int, ∃ aa am ad, a = some ⟨b, o, none⟩ ∧ R b ∧ (∀ q, w.frozen? ⟨b, q, none⟩ = false) ∧ w.cell? ⟨b, o + i * 4, none⟩ = some (.int .i64 x) ∧ w.cell? ⟨b, o + i * 4 + 2, none⟩ = some (.slice aa am ad) ∧ am ≤ 8 ∧ am ≤ ad ∧ Sw.Txts w R aa am L
theorem Sw.Wrds.on {w w' : World} {R : Nat → Prop} {a : Option Addr} {m L n : Nat} (h : Sw.Wrds w R a m L) (g : Sw.Rel R n w w') : Sw.Wrds w' R a m (L + n) := fun j hj => by
  obtain ⟨b, o, x, aa, am, ad, e, hb, hf, hc, hc3, h1, h2, hn⟩ := h j hj
  obtain ⟨y, hy⟩ := g.num _ _ _ hc
  exact ⟨b, o, y, aa, am, ad, e, hb, fun q => (g.fz _ _).trans (hf q), hy, g.row _ _ _ _ _ hc3, h1, h2, hn.on g⟩
/-- what lies and may be written -/
theorem Sw.Wrds.of {w : World} {R : Nat → Prop} {ws : List Wo} {a : Option Addr} {n d L : Nat} (h : Wo.Lies w (fun k => R k ∧ Rm.Ub w k) ws (.slice a n d)) (hp : ∀ x ∈ ws, x.path.length ≤ 8 ∧ ∀ t ∈ x.path, t.length ≤ L) : Sw.Wrds w R a n L := by
  obtain ⟨a', d', e, h1, h2, hx⟩ := h
  injection e with e1 e2 e3
  subst e1
  subst e2
  intro i hi
  obtain ⟨b, o, pv, ea, hb, c0, c1, c2, c3, hl⟩ := hx i ws[i] (List.getElem?_eq_getElem hi)
  obtain ⟨pa, pd, rfl, p1, p2, px⟩ := hl
  have hpx := hp ws[i] (List.getElem_mem hi)
  refine ⟨b, o, _, pa, _, pd, ea, hb.1, hb.2, c0, c2, hpx.1, p1, fun j hj => ?_⟩
  obtain ⟨b2, o2, ea2, hb2, cc⟩ := px j _ (List.getElem?_eq_getElem hj)
  exact ⟨b2, o2, _, ea2, hb2.1, hb2.2, cc, by rw [← Wk.len_data]; exact hpx.2 _ (List.getElem_mem hj)⟩
set_option maxHeartbeats 2000000 in
theorem Sw.words (R : Nat → Prop) (a : Option Addr) (m d L : Nat) (w : World) (h : Sw.Wrds w R a m L) (hm : m ≤ 4398046511104) (hd : m ≤ d) (hL : L ≤ 1152921504606846976) :
    Calls Try.prog 11 #[.slice a m d] w fun e w' => e = .returned (.tuple #[]) ∧ Sw.Rel R (m * 8) w w' := by
  have H := Lib.hid h
  clear h
  go_enter Try.func11, Try.ntmps11
  go_wp2
  go_loopw [2] (fun ix wr => ∃ j : Nat, j ≤ m ∧ ix = .int .i64 (j : Int) ∧ Hid (Sw.Rel R (j * 8) w wr)) (fun ix _ => m - (intOf ix).toNat)
  case atStart => exact ⟨0, Nat.zero_le _, by go_num, Sw.Rel.refl _ _⟩
  case round =>
    obtain ⟨j, hj, rfl, HR⟩ := hrel
    by_cases hlt : j < m
    · obtain ⟨b, o, x, aa, am, ad, rfl, hb, hf, hc, hc3, h1, h2, hn⟩ := (H.out.on HR.out) j hlt
      have d1 : decide ((j : Int) < (m : Int)) = true := decide_eq_true (by omega)
      have hjd : j < d := by omega
      have sp := Sw.texts R aa am ad (L + j * 8) wr hn (by omega) h2 (by omega)
      have HB := Lib.hid hb
      have HC := Lib.hid hc
      have HF := Lib.hid hf
      clear H hn hb hc hf h2
      go_wp2_with (go_at_call 20; refine sp.mono ?_; rintro e w2 ⟨rfl, hR2⟩; clear sp; obtain ⟨x2, c2⟩ := hR2.num _ _ _ HC.out; have f2 : ∀ q, w2.frozen? ⟨b, q, none⟩ = false := (fun q => (hR2.fz _ _).trans (HF.out q)); have HN : Hid (∀ y, Sw.Rel R ((j + 1) * 8) w (w2.setCell ⟨b, o + j * 4, none⟩ (.int .i64 y))) := (fun y => ((HR.out.trans hR2).trans (Sw.setN HB.out c2)).wide (by omega)); clear hR2)
      go_roundw
      case rel => exact ⟨j + 1, by omega, by go_num, HN.out _⟩
      case measure => simp [intOf]; omega
    · have e : j = m := by omega
      subst e
      have d1 : decide ((j : Int) < (j : Int)) = false := decide_eq_false (by omega)
      go_wp2
      go_end0
      exact ⟨rfl, HR.out⟩
end Go.Proofs.Ytnophkbbeipaaaa

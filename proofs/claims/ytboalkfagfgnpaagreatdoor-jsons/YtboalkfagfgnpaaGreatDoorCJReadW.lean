/-
  THE WALK of stolelaw10.read.
-/
import Derived.Test.YtboalkfagfgnpaaGreatDoorCJAwtoJCopy
import Derived.Test.YtboalkfagfgnpaaGreatDoorCVPlain2toVRead
import Derived.Test.YtboalkfagfgnpaaGreatDoorCRefNormtoRRune
import Derived.Test.YtboalkfagfgnpaaGreatDoorCReRef2
import Derived.Deep.RegionHeldLaw
namespace Go.Proofs.YtboalkfagfgnpaaGreatDoor
open Go.RowKit
/-- behind the first statement: the parameter's box, the result's, the variable, and its row of keys -/
structure Jb.R (w : World) (k x : Int) (b : Nat) (s : ByteArray) (ai : Option Addr) (n c : Nat) (ak : Option Addr) (m d : Nat) (ks : Nat → ByteArray) (N : ByteArray) (G : Nat) (a1 : Option Addr) (d1 : Nat) (u : World) : Prop where
  old : Below w.heap.size w u
  A : Vm.Box u w.heap.size (.int .i64 k) (.int .i64 x) (.int .u64 (b : Int)) (.string s) (.slice ai n c) (.slice ak m d)
  Z : Vm.Box u (w.heap.size + 1) (.int .i64 0) (.int .i64 0) (.int .u64 0) (.string ⟨#[]⟩) (.slice none 0 0) (.slice none 0 0)
  var : Vm.Box u G (.int .i64 k) (.int .i64 x) (.int .u64 0) (.string N) (.slice none 0 0) (.slice a1 m d1)
  row : u.ownsRow (w.heap.size + 2) 9 1 (.slice a1 m d1) m (Vc.texts m ks)
  low : w.heap.size + 2 ≤ G
theorem Jb.root (e : Nat) {k : Int} (h : k ≠ 3) (x : Int) (b : Nat) (s : ByteArray) (n : Nat) (it : Nat → Vt) (m : Nat) (ks : Nat → ByteArray) : Js.readT e (.mk k x b s n it m ks) = .mk k x 0 ⟨(Pl.normL s.data.toList).toArray⟩ (if e = 0 then 0 else n) (fun i => if e = 0 then .nil else Js.readT (e - 1) (it i)) m ks := by
  cases e with
  | zero => rw [Js.readT, if_neg h]; simp
  | succ e => rw [Js.readT, if_neg h]; simp
theorem Jb.real (e : Nat) (x : Int) (b : Nat) (s : ByteArray) (n : Nat) (it : Nat → Vt) (m : Nat) (ks : Nat → ByteArray) : Js.readT e (.mk 3 x b s n it m ks) = Js.realBack b := by
  cases e <;> rw [Js.readT, if_pos rfl]
theorem Jb.void {s : ByteArray} (h : s.toList = []) : s = ⟨#[]⟩ := by
  rw [ByteArray.toList_eq] at h
  cases s with
  | mk d =>
    have : d = #[] := by
      apply Array.toList_inj.1
      exact h
    rw [this]
theorem Jb.fin1 {w W2 u : World} {k x : Int} {b : Nat} {s : ByteArray} {ai : Option Addr} {n c : Nat} {ak : Option Addr} {m d : Nat} {ks : Nat → ByteArray} {N : ByteArray} {a1 : Option Addr} {d1 : Nat} (hB : Below w.heap.size w W2) (hA : Vm.Box W2 w.heap.size (.int .i64 k) (.int .i64 x) (.int .u64 (b : Int)) (.string s) (.slice ai n c) (.slice ak m d)) (hZ : Vm.Box W2 (w.heap.size + 1) (.int .i64 0) (.int .i64 0) (.int .u64 0) (.string ⟨#[]⟩) (.slice none 0 0) (.slice none 0 0)) (hX : Below (w.heap.size + 2) W2 u) (hs : w.heap.size + 2 ≤ u.heap.size) (hR : u.ownsRow (w.heap.size + 2) 9 1 (.slice a1 m d1) m (Vc.texts m ks)) :
    Jb.R w k x b s ai n c ak m d ks N u.heap.size a1 d1 (u.alloc (.cells #[.int .i64 k, .int .i64 x, .int .u64 0, .string N, .slice none 0 0, .slice a1 m d1] 26)) :=
  ⟨hB.trans ((hX.mono (by omega)).alloc (by omega) _), ⟨((Below.heap_alloc _ _ _ (by omega)).trans (hX.block _ (by omega))).trans hA.all⟩, ⟨((Below.heap_alloc _ _ _ (by omega)).trans (hX.block _ (by omega))).trans hZ.all⟩, ⟨Vm.Has.new u _ _ rfl⟩, Jb.row_alloc hR _, hs⟩
theorem Jb.keysW {w u : World} {k x : Int} {b : Nat} {s : ByteArray} {ai : Option Addr} {n c : Nat} {ak : Option Addr} {m d : Nat} {ks : Nat → ByteArray} {N : ByteArray} {G : Nat} {a1 : Option Addr} {d1 : Nat} (h : Jb.R w k x b s ai n c ak m d ks N G a1 d1 u) : Vt.Keys u (fun q => (w.heap.size + 2 ≤ q ∧ q < u.heap.size) ∧ q ≠ G) m ks a1 d1 := by
  obtain ⟨a, dd, e, hK⟩ := Vc.keysOf h.row
  injection e with e1 _ e2
  subst e1 e2
  refine ⟨hK.le, hK.max, fun j hj => ?_⟩
  obtain ⟨b0, o0, e, r, hc⟩ := hK.cell j hj
  refine ⟨b0, o0, e, ⟨r, ?_⟩, hc⟩
  rintro rfl
  rcases h.row.2 with ⟨q, _⟩ | ⟨g, cap, cur, q, _, hg, _⟩
  · rw [e] at q
    cases q
  · rw [e] at q
    injection q with q _ _
    injection q with q
    injection q with q _ _
    subst q
    have hv := h.var.all
    rw [hg] at hv
    injection hv with hv
    injection hv with _ hv _
    exact absurd hv (by decide)
theorem Jb.fin2 {w W2 u : World} {k x : Int} {b : Nat} {s : ByteArray} {ai : Option Addr} {n c : Nat} {ak : Option Addr} {m d : Nat} {ks : Nat → ByteArray} {N : ByteArray} {a1 : Option Addr} {d1 G : Nat} (hB : Below w.heap.size w W2) (hA : Vm.Box W2 w.heap.size (.int .i64 k) (.int .i64 x) (.int .u64 (b : Int)) (.string s) (.slice ai n c) (.slice ak m d)) (hZ : Vm.Box W2 (w.heap.size + 1) (.int .i64 0) (.int .i64 0) (.int .u64 0) (.string ⟨#[]⟩) (.slice none 0 0) (.slice none 0 0)) (hX : Below (w.heap.size + 2) W2 u) (_hs : w.heap.size + 2 ≤ u.heap.size) (hR : u.ownsRow (w.heap.size + 2) 9 1 (.slice a1 m d1) m (Vc.texts m ks)) {u0 u1 u2 u3 u4 u5 : Value} (hV : Vm.Box u G u0 u1 u2 u3 u4 u5) (hG : w.heap.size + 2 ≤ G) :
    Jb.R w k x b s ai n c ak m d ks N G a1 d1 ((((((u.setCell ⟨G, 0, none⟩ (.int .i64 k)).setCell ⟨G, 1, none⟩ (.int .i64 x)).setCell ⟨G, 2, none⟩ (.int .u64 0)).setCell ⟨G, 3, none⟩ (.string N)).setCell ⟨G, 4, none⟩ (.slice none 0 0)).setCell ⟨G, 5, none⟩ (.slice a1 m d1)) := by
  obtain ⟨W, hW, hX6, hb⟩ := Jr.six hV (.int .i64 k) (.int .i64 x) (.int .u64 0) (.string N) (.slice none 0 0) (.slice a1 m d1)
  have hoth : ∀ q, q ≠ G → W.heap[q]? = u.heap[q]? := fun q hq => by rw [← hW]; exact Jr.six_other u G 0 _ _ _ _ _ _ q hq
  rw [hW]
  refine ⟨hB.trans ((hX.mono (by omega)).trans (hb.mono (by omega))), ⟨((hoth _ (by omega)).trans (hX.block _ (by omega))).trans hA.all⟩, ⟨((hoth _ (by omega)).trans (hX.block _ (by omega))).trans hZ.all⟩, hX6, Jr.own_kept hR fun q hq => hoth q ?_, hG⟩
  rintro rfl
  rcases hR.2 with ⟨e, _⟩ | ⟨g, cap, cur, e, _, hg, _⟩
  · rw [e] at hq
    cases hq
  · rw [e] at hq
    injection hq with hq
    subst hq
    rw [hV.all] at hg
    injection hg with hg
    injection hg with _ hg _
    exact absurd hg (by decide)
set_option maxRecDepth 100000 in
set_option maxHeartbeats 4000000 in
theorem Jb.read1 (d0 : Nat) (k x : Int) (b : Nat) (s : ByteArray) (n : Nat) (it : Nat → Vt) (m : Nat) (ks : Nat → ByteArray) (hok : Js.Ok (d0 + 1) (.mk k x b s n it m ks)) (e : Nat) (v : Value) (w : World) (he : e ≤ 40) (h : (Vt.mk k x b s n it m ks).Lies w (· < w.heap.size) v) (hs : s.size ≤ 65536) (hm : m ≤ 64) (hn64 : n ≤ 64)
    (ih : ∀ i, i < n → ∀ (e : Nat) (v : Value) (w : World), e ≤ 40 → (it i).Lies w (· < w.heap.size) v → Calls Tryz.prog 14 #[v, .int .i64 (e : Int)] w fun r w' => ∃ v', r = .returned v' ∧ (Js.readT e (it i)).Lies w' (fun q => w.heap.size ≤ q ∧ q < w'.heap.size) v' ∧ Below w.heap.size w w') :
    Calls Tryz.prog 14 #[v, .int .i64 (e : Int)] w fun r w' => ∃ v', r = .returned v' ∧ (Js.readT e (.mk k x b s n it m ks)).Lies w' (fun q => w.heap.size ≤ q ∧ q < w'.heap.size) v' ∧ Below w.heap.size w w' := by
  have HI : Hid (∀ i, i < n → ∀ (e : Nat) (v : Value) (w : World), e ≤ 40 → (it i).Lies w (· < w.heap.size) v → Calls Tryz.prog 14 #[v, .int .i64 (e : Int)] w fun r w' => ∃ v', r = .returned v' ∧ (Js.readT e (it i)).Lies w' (fun q => w.heap.size ≤ q ∧ q < w'.heap.size) v' ∧ Below w.heap.size w w') := ih
  have HFM := Lib.hid hok.1
  have HRT : Hid (k ≠ 3 → Js.readT e (.mk k x b s n it m ks) = .mk k x 0 ⟨(Pl.normL s.data.toList).toArray⟩ (if e = 0 then 0 else n) (fun i => if e = 0 then .nil else Js.readT (e - 1) (it i)) m ks) := fun q => Jb.root e q x b s n it m ks
  clear ih hok
  have H := Lib.hid h
  obtain ⟨ai, c, ak, d, rfl, hb, hn, hc, hk, hi⟩ := h
  have hdm := hk.max
  have HK := Lib.hid hk
  have hnm : ∀ u, Calls Tryz.prog 30 #[.string s] u fun e w' => e = .returned (.string ⟨(Pl.normL s.data.toList).toArray⟩) ∧ Below u.heap.size u w' := fun u => Sz.norm s u (by omega)
  have HT : Hid (∀ u, Below w.heap.size w u → ∀ j v, (Vc.texts m ks)[j]? = some v → ∃ ad, ak = some ad ∧ u.cell? (ad.add j) = some v) := fun u hu => Vc.texts_cell HK.out hu
  obtain ⟨N, hN⟩ : ∃ N : ByteArray, (⟨(Pl.normL s.data.toList).toArray⟩ : ByteArray) = N := ⟨_, rfl⟩
  rw [hN] at hnm
  have HN := Lib.hid hN
  clear hN
  have HA : Hid (Vm.Box ((w.alloc (.cells #[.int .i64 k, .int .i64 x, .int .u64 (b : Int), .string s, .slice ai n c, .slice ak m d] 26)).alloc (.cells #[.int .i64 0, .int .i64 0, .int .u64 0, .string ⟨#[]⟩, .slice none 0 0, .slice none 0 0] 26)) w.heap.size (.int .i64 k) (.int .i64 x) (.int .u64 (b : Int)) (.string s) (.slice ai n c) (.slice ak m d)) := ⟨(Vm.Has.new w _ _ rfl).alloc _⟩
  have HZ : Hid (Vm.Box ((w.alloc (.cells #[.int .i64 k, .int .i64 x, .int .u64 (b : Int), .string s, .slice ai n c, .slice ak m d] 26)).alloc (.cells #[.int .i64 0, .int .i64 0, .int .u64 0, .string ⟨#[]⟩, .slice none 0 0, .slice none 0 0] 26)) (w.heap.size + 1) (.int .i64 0) (.int .i64 0) (.int .u64 0) (.string ⟨#[]⟩) (.slice none 0 0) (.slice none 0 0)) := ⟨Vm.Has.new _ _ _ (by simp)⟩
  have HB2 : Hid (Below w.heap.size w ((w.alloc (.cells #[.int .i64 k, .int .i64 x, .int .u64 (b : Int), .string s, .slice ai n c, .slice ak m d] 26)).alloc (.cells #[.int .i64 0, .int .i64 0, .int .u64 0, .string ⟨#[]⟩, .slice none 0 0, .slice none 0 0] 26))) := ((Below.refl _ _).alloc (Nat.le_refl _) _).alloc (by simp) _
  have hS2 : ((w.alloc (.cells #[.int .i64 k, .int .i64 x, .int .u64 (b : Int), .string s, .slice ai n c, .slice ak m d] 26)).alloc (.cells #[.int .i64 0, .int .i64 0, .int .u64 0, .string ⟨#[]⟩, .slice none 0 0, .slice none 0 0] 26)).heap.size = w.heap.size + 2 := by simp
  clear hk hi
  generalize hW2 : (w.alloc (.cells #[.int .i64 k, .int .i64 x, .int .u64 (b : Int), .string s, .slice ai n c, .slice ak m d] 26)).alloc (.cells #[.int .i64 0, .int .i64 0, .int .u64 0, .string ⟨#[]⟩, .slice none 0 0, .slice none 0 0] 26) = W2 at *
  have HW2 := Lib.hid hW2
  clear hW2
  obtain ⟨c0, c1, c2, c3, c4, c5⟩ := HA.out.cells
  have q5 : ¬ w.heap.size = w.heap.size + 2 + 1 := by omega
  have q6 : ¬ w.heap.size + 2 + 1 = w.heap.size := by omega
  have q7 : ¬ w.heap.size = w.heap.size + 2 := by omega
  have q8 : ¬ w.heap.size + 2 = w.heap.size := by omega
  go_enter Tryz.func14, Tryz.ntmps14
  go_wp2_with fail
  rw [HW2.out]
  go_cut [5] from 6 (fun p5 wc => ∃ G a1 d1, p5 = .pointer (some ⟨G, 0, none⟩) ∧ Hid (Jb.R w k x b s ai n c ak m d ks N G a1 d1 wc))
  case first =>
    go_region_held_law (fun u => u.cell? ⟨w.heap.size, 0, none⟩ = some (.int .i64 k) ∧ u.cell? ⟨w.heap.size, 1, none⟩ = some (.int .i64 x) ∧ u.cell? ⟨w.heap.size, 3, none⟩ = some (.string s) ∧ u.cell? ⟨w.heap.size, 5, none⟩ = some (.slice ak m d)) (go_keep) (first | (go_at_call 30; refine (hnm _).mono ?_; rintro e w3 ⟨rfl, b3⟩; have HX3 : Hid (Below (w.heap.size + 2) W2 w3) := Below.trans (show Below (w.heap.size + 2) W2 _ from by repeat (first | with_reducible exact HX3.out | with_reducible exact Below.refl _ _ | with_reducible refine Below.drew ?_ | (with_reducible refine Below.alloc ?_ ?_ _; rotate_left; (first | omega | (simp; omega))))) (b3.mono (by first | omega | (simp; omega) | (simp; done))); have HN3 := Lib.hid b3; have hz3 := b3.size; (try simp [hS2] at hz3); have hs3 : w.heap.size + 2 ≤ w3.heap.size := (by have := HX3.out.size; omega); obtain ⟨c0, c1, c2, c3, c4, c5⟩ := (show Vm.Box w3 w.heap.size _ _ _ _ _ _ from ⟨(HX3.out.block _ (by omega)).trans HA.out.all⟩).cells; clear b3; have q1 : ¬ w.heap.size = w3.heap.size := (by omega); have q2 : ¬ w3.heap.size = w.heap.size := (by omega); have q3 : ¬ w.heap.size = w3.heap.size + 1 := (by omega); have q4 : ¬ w3.heap.size + 1 = w.heap.size := (by omega); (first | (refine Jb.has (p := Vm.Box w3 (w.heap.size + 2) (.int .i64 0) (.int .i64 0) (.int .u64 0) (.string ⟨#[]⟩) (.slice none 0 0) (.slice none 0 0)) ?_ (fun z => ?_); (focus (refine ⟨Vm.Has.on ?_ HN3.out⟩; (repeat (first | (with_reducible refine Vm.Has.new _ _ _ ?_; first | omega | (simp; omega) | (simp; done)) | with_reducible refine Vm.Has.on ?_ HN3.out | with_reducible refine Jb.has_drew ?_ | with_reducible refine Vm.Has.alloc ?_ _)); done)); obtain ⟨e0, e1, e2, e3, e4, e5⟩ := z.cells; have g0 := z.has.frozen 0; have g1 := z.has.frozen 1; have g2 := z.has.frozen 2; have g3 := z.has.frozen 3; have g4' := z.has.frozen 4; have g5 := z.has.frozen 5; have HV := Lib.hid z; clear z) | (refine Jb.has (p := Vm.Box w3 (w.heap.size + 2 + 1) (.int .i64 0) (.int .i64 0) (.int .u64 0) (.string ⟨#[]⟩) (.slice none 0 0) (.slice none 0 0)) ?_ (fun z => ?_); (focus (refine ⟨Vm.Has.on ?_ HN3.out⟩; (repeat (first | (with_reducible refine Vm.Has.new _ _ _ ?_; first | omega | (simp; omega) | (simp; done)) | with_reducible refine Vm.Has.on ?_ HN3.out | with_reducible refine Jb.has_drew ?_ | with_reducible refine Vm.Has.alloc ?_ _)); done)); obtain ⟨e0, e1, e2, e3, e4, e5⟩ := z.cells; have g0 := z.has.frozen 0; have g1 := z.has.frozen 1; have g2 := z.has.frozen 2; have g3 := z.has.frozen 3; have g4' := z.has.frozen 4; have g5 := z.has.frozen 5; have HV := Lib.hid z; clear z) | skip)) | (refine Jb.step_copy rfl (.tmp 16) (.tmp 18) rfl (base := w.heap.size + 2) _ (by rfl) ?_ m ks ak d (by rfl) ?_ (by omega) ?_ ?_; (focus repeat (first | with_reducible refine Jb.row_drew ?_ | with_reducible refine Jb.row_on ?_ HN3.out | (with_reducible refine Jb.empty _ _ _ ?_ ?_ <;> first | omega | (simp; omega) | (simp; done)) | with_reducible refine Jb.row_alloc ?_ _)); (focus exact HT.out _ (HB2.out.trans ((show Below (w.heap.size + 2) W2 _ from by repeat (first | with_reducible exact HX3.out | with_reducible exact Below.refl _ _ | with_reducible refine Below.drew ?_ | (with_reducible refine Below.alloc ?_ ?_ _; rotate_left; (first | omega | (simp; omega))))).mono (by omega)))); (focus (first | omega | (simp; omega))); intro v4 w4 R4 g4 hg1; obtain ⟨a4, d4, rfl, -⟩ := Vc.keysOf R4; have HX4 : Hid (Below (w.heap.size + 2) W2 w4) := Below.grown (show Below (w.heap.size + 2) W2 _ from by repeat (first | with_reducible exact HX3.out | with_reducible exact Below.refl _ _ | with_reducible refine Below.drew ?_ | (with_reducible refine Below.alloc ?_ ?_ _; rotate_left; (first | omega | (simp; omega))))) g4 (by first | omega | (simp; omega) | (simp; done)) (fun k hk => by cases hk; omega); have HP4 := Lib.hid g4; have HR4 := Lib.hid R4; have hs4 : w.heap.size + 2 ≤ w4.heap.size := (by have := HX4.out.size; omega); obtain ⟨c0, c1, c2, c3, c4, c5⟩ := (show Vm.Box w4 w.heap.size _ _ _ _ _ _ from ⟨(HX4.out.block _ (by omega)).trans HA.out.all⟩).cells; clear R4 g4; (first | (refine Jb.has (p := Vm.Box w4 (w.heap.size + 2) (.int .i64 0) (.int .i64 0) (.int .u64 0) (.string ⟨#[]⟩) (.slice none 0 0) (.slice none 0 0)) ?_ (fun z => ?_); (focus (refine ⟨Jb.has_grown ?_ HP4.out ?_⟩; rotate_left; (focus (first | omega | (simp; omega))); (repeat (first | (with_reducible refine Vm.Has.new _ _ _ ?_; first | omega | (simp; omega) | (simp; done)) | with_reducible refine Vm.Has.on ?_ HN3.out | with_reducible refine Jb.has_drew ?_ | with_reducible refine Vm.Has.alloc ?_ _)); done)); obtain ⟨e0, e1, e2, e3, e4, e5⟩ := z.cells; have g0 := z.has.frozen 0; have g1 := z.has.frozen 1; have g2 := z.has.frozen 2; have g3 := z.has.frozen 3; have g4' := z.has.frozen 4; have g5 := z.has.frozen 5; have HV := Lib.hid z; clear z) | (refine Jb.has (p := Vm.Box w4 (w.heap.size + 2 + 1) (.int .i64 0) (.int .i64 0) (.int .u64 0) (.string ⟨#[]⟩) (.slice none 0 0) (.slice none 0 0)) ?_ (fun z => ?_); (focus (refine ⟨Jb.has_grown ?_ HP4.out ?_⟩; rotate_left; (focus (first | omega | (simp; omega))); (repeat (first | (with_reducible refine Vm.Has.new _ _ _ ?_; first | omega | (simp; omega) | (simp; done)) | with_reducible refine Vm.Has.on ?_ HN3.out | with_reducible refine Jb.has_drew ?_ | with_reducible refine Vm.Has.alloc ?_ _)); done)); obtain ⟨e0, e1, e2, e3, e4, e5⟩ := z.cells; have g0 := z.has.frozen 0; have g1 := z.has.frozen 1; have g2 := z.has.frozen 2; have g3 := z.has.frozen 3; have g4' := z.has.frozen 4; have g5 := z.has.frozen 5; have HV := Lib.hid z; clear z) | (refine Jb.has (p := Vm.Box w4 (w3.heap.size) (.int .i64 0) (.int .i64 0) (.int .u64 0) (.string ⟨#[]⟩) (.slice none 0 0) (.slice none 0 0)) ?_ (fun z => ?_); (focus (refine ⟨Jb.has_grown ?_ HP4.out ?_⟩; rotate_left; (focus (first | omega | (simp; omega))); (repeat (first | (with_reducible refine Vm.Has.new _ _ _ ?_; first | omega | (simp; omega) | (simp; done)) | with_reducible refine Vm.Has.on ?_ HN3.out | with_reducible refine Jb.has_drew ?_ | with_reducible refine Vm.Has.alloc ?_ _)); done)); obtain ⟨e0, e1, e2, e3, e4, e5⟩ := z.cells; have g0 := z.has.frozen 0; have g1 := z.has.frozen 1; have g2 := z.has.frozen 2; have g3 := z.has.frozen 3; have g4' := z.has.frozen 4; have g5 := z.has.frozen 5; have HV := Lib.hid z; clear z) | (refine Jb.has (p := Vm.Box w4 (w3.heap.size + 1) (.int .i64 0) (.int .i64 0) (.int .u64 0) (.string ⟨#[]⟩) (.slice none 0 0) (.slice none 0 0)) ?_ (fun z => ?_); (focus (refine ⟨Jb.has_grown ?_ HP4.out ?_⟩; rotate_left; (focus (first | omega | (simp; omega))); (repeat (first | (with_reducible refine Vm.Has.new _ _ _ ?_; first | omega | (simp; omega) | (simp; done)) | with_reducible refine Vm.Has.on ?_ HN3.out | with_reducible refine Jb.has_drew ?_ | with_reducible refine Vm.Has.alloc ?_ _)); done)); obtain ⟨e0, e1, e2, e3, e4, e5⟩ := z.cells; have g0 := z.has.frozen 0; have g1 := z.has.frozen 1; have g2 := z.has.frozen 2; have g3 := z.has.frozen 3; have g4' := z.has.frozen 4; have g5 := z.has.frozen 5; have HV := Lib.hid z; clear z) | skip)))
    all_goals go_wp2_with fail
    all_goals go_meet
    all_goals refine ⟨_, a4, d4, rfl, Lib.hid ?_⟩
    all_goals first | with_reducible exact Jb.fin1 HB2.out HA.out HZ.out HX4.out hs4 HR4.out | (with_reducible refine Jb.fin2 HB2.out HA.out HZ.out HX4.out hs4 HR4.out HV.out ?_; omega)
  case rest =>
    obtain ⟨G, a1, d1, rfl, HR⟩ := hcut
    clear c0 c1 c2 c3 c4 c5 hnm HA HZ HB2 HT hS2 HW2 q5 q6 q7 q8 HK
    obtain ⟨c0, c1, c2, c3, c4, c5⟩ := HR.out.A.cells
    by_cases hk3 : k = 3
    · have e3 : (k == 3) = true := beq_iff_eq.2 hk3
      have HRB : Hid (Js.readT e (.mk k x b s n it m ks) = Js.realBack b) := by unfold Hid; rw [hk3]; exact Jb.real e x b s n it m ks
      have HF3 : Hid (x = 0 ∧ s = ⟨#[]⟩ ∧ n = 0 ∧ m = 0) := by
        have hf := HFM.out
        have hs0 := Js.empty_text hf (by omega)
        subst hk3
        simp [Vt.formed] at hf
        exact ⟨hf.1.1.1, Jb.void hs0, hf.1.2, hf.2⟩
      have kd := Rs.real b hb
      have HZ6 := Lib.hid HR.out.Z
      obtain ⟨z0, z1, z2, z3, z4, z5⟩ := HR.out.Z.cells
      have f0 := HR.out.Z.has.frozen 0
      have f1 := HR.out.Z.has.frozen 1
      have f2 := HR.out.Z.has.frozen 2
      have f3 := HR.out.Z.has.frozen 3
      have f4 := HR.out.Z.has.frozen 4
      have f5 := HR.out.Z.has.frozen 5
      have HB6 := Lib.hid HR.out.old
      clear HR HRT HI HFM H
      have hle := Rt.kind_le b
      by_cases h2 : Re.kind b < 2
      · have HBK : Hid (Js.realBack b = Js.leaf 0 0 0 ⟨#[]⟩) := by unfold Hid Js.realBack; rw [if_pos h2]
        have hq : Re.kind b = 0 ∨ Re.kind b = 1 := by omega
        generalize Re.kind b = kk at *
        clear h2 hle hk3
        rcases hq with rfl | rfl
        all_goals
          go_wp2_with (go_at_call 31; refine (kd _).mono ?_; rintro e w' ⟨rfl, hw⟩; have hw := hw.symm; subst hw)
          obtain ⟨W, hW, hX, hb6⟩ := Jr.six HZ6.out (.int .i64 0) (.int .i64 0) (.int .u64 0) (.string ⟨#[]⟩) (.slice none 0 0) (.slice none 0 0)
          rw [hW]
          obtain ⟨x0, x1, x2, x3, x4, x5⟩ := hX.cells
          refine bodyPost_ret (v := .agg #[.int .i64 0, .int .i64 0, .int .u64 0, .string ⟨#[]⟩, .slice none 0 0, .slice none 0 0]) (by simp [results, Tryz.results14, go_sem, x0, x1, x2, x3, x4, x5]) rfl ?_
          refine ⟨_, rfl, ?_, HB6.out.trans (hb6.mono (by omega))⟩
          rw [HRB.out, HBK.out]
          exact Jr.leaf_lies _ _ 0 0 0 ⟨#[]⟩ (by decide)
      · by_cases h4 : Re.kind b = 4
        · have HBK : Hid (Js.realBack b = Js.leaf 4 0 0 ⟨(Re.text b).toArray⟩) := by unfold Hid Js.realBack; rw [if_neg h2, if_pos h4]
          have tx := Rs.text b hb
          rw [h4] at kd
          clear h2 h4 hle hk3
          generalize (⟨(Re.text b).toArray⟩ : ByteArray) = X at *
          have tv := fun u => Jn.text X u
          go_wp2_with (first | (go_at_call 31; refine (kd _).mono ?_; rintro e w' ⟨rfl, hw⟩; have hw := hw.symm; subst hw) | (go_at_call 32; refine (tx _).mono ?_; rintro e w3 ⟨rfl, b3⟩; have HZ3 : Hid (Vm.Box w3 (w.heap.size + 1) (.int .i64 0) (.int .i64 0) (.int .u64 0) (.string ⟨#[]⟩) (.slice none 0 0) (.slice none 0 0)) := ⟨(b3.block _ HZ6.out.lt).trans HZ6.out.all⟩; have HB3 := Lib.hid (HB6.out.trans (b3.mono HB6.out.size)); clear b3 tx) | (go_at_call 27; refine (tv _).mono ?_; rintro e w4 ⟨rfl, b4⟩; have HZ4 : Hid (Vm.Box w4 (w.heap.size + 1) (.int .i64 0) (.int .i64 0) (.int .u64 0) (.string ⟨#[]⟩) (.slice none 0 0) (.slice none 0 0)) := ⟨(b4.block _ HZ3.out.lt).trans HZ3.out.all⟩; have HB4 := Lib.hid (HB3.out.trans (b4.mono HB3.out.size)); obtain ⟨z0, z1, z2, z3, z4, z5⟩ := HZ4.out.cells; have f0 := HZ4.out.has.frozen 0; have f1 := HZ4.out.has.frozen 1; have f2 := HZ4.out.has.frozen 2; have f3 := HZ4.out.has.frozen 3; have f4 := HZ4.out.has.frozen 4; have f5 := HZ4.out.has.frozen 5; clear b4 tv))
          obtain ⟨W, hW, hX, hb6⟩ := Jr.six HZ4.out (.int .i64 4) (.int .i64 0) (.int .u64 0) (.string X) (.slice none 0 0) (.slice none 0 0)
          rw [hW]
          obtain ⟨x0, x1, x2, x3, x4, x5⟩ := hX.cells
          refine bodyPost_ret (v := .agg #[.int .i64 4, .int .i64 0, .int .u64 0, .string X, .slice none 0 0, .slice none 0 0]) (by simp [results, Tryz.results14, go_sem, x0, x1, x2, x3, x4, x5]) rfl ?_
          refine ⟨_, rfl, ?_, HB4.out.trans (hb6.mono (by omega))⟩
          rw [HRB.out, HBK.out]
          exact Jr.leaf_lies _ _ 4 0 0 X (by decide)
        · have r0 : ((Re.kind b : Int) == 0) = false := beq_eq_false_iff_ne.2 (by omega)
          have r1 : ((Re.kind b : Int) == 1) = false := beq_eq_false_iff_ne.2 (by omega)
          have r4 : ((Re.kind b : Int) == 4) = false := beq_eq_false_iff_ne.2 (by omega)
          by_cases hz : b = 9223372036854775808
          · have HBK : Hid (Js.realBack b = Js.leaf 3 0 b ⟨#[]⟩) := by unfold Hid Js.realBack; rw [if_neg h2, if_neg h4, if_pos hz]
            have ez : ((b : Int) == 9223372036854775808) = true := beq_iff_eq.2 (by omega)
            have HK3 := Lib.hid hk3
            clear h2 h4 hle hz hk3
            generalize Re.kind b = kk at *
            go_wp2_with (go_at_call 31; refine (kd _).mono ?_; rintro e w' ⟨rfl, hw⟩; have hw := hw.symm; subst hw)
            obtain ⟨W, hW, hX, hb6⟩ := Jr.six HZ6.out (.int .i64 k) (.int .i64 x) (.int .u64 (b : Int)) (.string s) (.slice ai n c) (.slice ak m d)
            rw [hW]
            obtain ⟨x0, x1, x2, x3, x4, x5⟩ := hX.cells
            refine bodyPost_ret (v := .agg #[.int .i64 k, .int .i64 x, .int .u64 (b : Int), .string s, .slice ai n c, .slice ak m d]) (by simp [results, Tryz.results14, go_sem, x0, x1, x2, x3, x4, x5]) rfl ?_
            refine ⟨_, rfl, ?_, HB6.out.trans (hb6.mono (by omega))⟩
            rw [HRB.out, HBK.out]
            obtain ⟨g1, g2, g3, g4⟩ := HF3.out
            have g0 := HK3.out
            subst g0 g1 g2 g3 g4
            exact ⟨ai, c, ak, d, rfl, hb, hn, hc, ⟨Nat.zero_le _, hdm, fun j hj => absurd hj (by omega)⟩, fun i hi => absurd hi (by omega)⟩
          · have HBK : Hid (Js.realBack b = Js.leaf 2 (Re.whole b) 0 ⟨#[]⟩) := by unfold Hid Js.realBack; rw [if_neg h2, if_neg h4, if_neg hz]
            have ez : ((b : Int) == 9223372036854775808) = false := beq_eq_false_iff_ne.2 (by omega)
            have wl := Rs.wholes b hb
            clear h2 h4 hle hz hk3
            generalize Re.kind b = kk at *
            generalize Re.whole b = X at *
            generalize Re.is b = I at *
            have tv := fun u => Jn.num X u
            go_wp2_with (first | (go_at_call 31; refine (kd _).mono ?_; rintro e w' ⟨rfl, hw⟩; have hw := hw.symm; subst hw) | (go_at_call 33; refine (wl _).mono ?_; rintro e w' ⟨rfl, hw⟩; have hw := hw.symm; subst hw; clear wl) | (go_at_call 26; refine (tv _).mono ?_; rintro e w4 ⟨rfl, b4⟩; have HZ4 : Hid (Vm.Box w4 (w.heap.size + 1) (.int .i64 0) (.int .i64 0) (.int .u64 0) (.string ⟨#[]⟩) (.slice none 0 0) (.slice none 0 0)) := ⟨(b4.block _ HZ6.out.lt).trans HZ6.out.all⟩; have HB4 := Lib.hid (HB6.out.trans (b4.mono HB6.out.size)); obtain ⟨z0, z1, z2, z3, z4, z5⟩ := HZ4.out.cells; have f0 := HZ4.out.has.frozen 0; have f1 := HZ4.out.has.frozen 1; have f2 := HZ4.out.has.frozen 2; have f3 := HZ4.out.has.frozen 3; have f4 := HZ4.out.has.frozen 4; have f5 := HZ4.out.has.frozen 5; clear b4 tv))
            obtain ⟨W, hW, hX, hb6⟩ := Jr.six HZ4.out (.int .i64 2) (.int .i64 X) (.int .u64 0) (.string ⟨#[]⟩) (.slice none 0 0) (.slice none 0 0)
            rw [hW]
            obtain ⟨x0, x1, x2, x3, x4, x5⟩ := hX.cells
            refine bodyPost_ret (v := .agg #[.int .i64 2, .int .i64 X, .int .u64 0, .string ⟨#[]⟩, .slice none 0 0, .slice none 0 0]) (by simp [results, Tryz.results14, go_sem, x0, x1, x2, x3, x4, x5]) rfl ?_
            refine ⟨_, rfl, ?_, HB4.out.trans (hb6.mono (by omega))⟩
            rw [HRB.out, HBK.out]
            exact Jr.leaf_lies _ _ 2 X 0 ⟨#[]⟩ (by decide)
    · have e3 : (k == 3) = false := beq_eq_false_iff_ne.2 hk3
      replace HRT := Lib.hid (HRT.out hk3)
      rw [HN.out] at HRT
      clear hk3 HN HFM
      have HBA := Lib.hid HR.out.A
      have HBR := Lib.hid HR.out.Z
      have BB := HR.out.var
      have HBW := Lib.hid HR.out.old
      have hG2 := HR.out.low
      have HKW := Lib.hid (Jb.keysW HR.out)
      have hgB : G < wc.heap.size := BB.lt
      have HQB : Hid (¬ wc.heap.size ≤ G) := by unfold Hid; omega
      have hnm : n ≤ 9223372036854775807 := by omega
      clear HR
      go_wp2_with fail
      go_loopw [8] (fun ix wr => ∃ j : Nat, (j ≤ n ∧ (e = 0 → j = 0)) ∧ ix = .int .i64 (j : Int) ∧ Vr.Lo wc wr (G) ∧ ∃ ai2 c2, Vm.Box wr (G) (.int .i64 k) (.int .i64 x) (.int .u64 0) (.string N) (.slice ai2 j c2) (.slice a1 m d1) ∧ Vr.Row (fun q => wc.heap.size ≤ q) wc.heap.size (fun i => if e = 0 then .nil else Js.readT (e - 1) (it i)) j wr (.slice ai2 j c2)) (fun ix _ => n - (intOf ix).toNat)
      case atStart => exact ⟨0, ⟨Nat.zero_le _, fun _ => rfl⟩, by go_num, Vr.Lo.refl _ _, _, _, BB, Vr.Row.nil _ _ _ _⟩
      case round =>
        obtain ⟨j, ⟨hjn, hje⟩, rfl, hL, ai2, c2, hB, hRow⟩ := hrel
        clear BB
        have BA : Vm.Box wr w.heap.size _ _ _ _ _ _ := ⟨(hL.block _ (by omega) (by omega)).trans HBA.out.all⟩
        have BR : Vm.Box wr (w.heap.size + 1) _ _ _ _ _ _ := ⟨(hL.block _ (by omega) (by omega)).trans HBR.out.all⟩
        have hbr := hL.below HBW.out (show w.heap.size ≤ G by omega)
        have c4 := BA.cells.2.2.2.2.1
        by_cases hgo : j < n ∧ 0 < e
        · obtain ⟨hlt, hpos⟩ := hgo
          have dj : decide ((j : Int) < (n : Int)) = true := decide_eq_true (by omega)
          have de : decide ((0 : Int) < (e : Int)) = true := decide_eq_true (by omega)
          obtain ⟨E, hE, hE1⟩ : ∃ E : Nat, (e : Int) - 1 = (E : Int) ∧ E = e - 1 := ⟨e - 1, by omega, rfl⟩
          have hEw : IntKind.i64.wrap (E : Int) = E := by rw [IntKind.wrap_i64]; omega
          have HE1 := Lib.hid hE1
          have HE40 : Hid (E ≤ 40) := by unfold Hid; omega
          obtain ⟨bi, oi, v0, v1, v2, v3, v4, v5, rfl, hbi, y0, y1, y2, y3, y4, y5, hli0⟩ := (H.out.keys).2.2 j hlt
          have hli := hli0.on' hbr
          have hbl := hbr.block bi hbi
          replace y0 := Vt.cell_on hbl y0
          replace y1 := Vt.cell_on hbl y1
          replace y2 := Vt.cell_on hbl y2
          replace y3 := Vt.cell_on hbl y3
          replace y4 := Vt.cell_on hbl y4
          replace y5 := Vt.cell_on hbl y5
          clear hli0 hbl
          have hjc : j < c := Nat.lt_of_lt_of_le hlt hn
          obtain ⟨k', x', b', s', ai', n', c', ak', m', d', rfl, rfl, rfl, rfl, rfl, rfl⟩ := hli.cells
          have HLI := Lib.hid hli.drew
          have HMJ := Lib.hid hlt
          have HN0 : Hid (¬ e = 0) := by unfold Hid; omega
          have z4 := hB.cells.2.2.2.2.1
          have HB := Lib.hid hB
          have HRow := Lib.hid hRow
          have HL := Lib.hid hL
          have hn1 : (j + 1) * 88 ≤ 140737488355328 := by omega
          have HN1 := Lib.hid hn1
          clear hn1 hli hB hRow hL hbr hE1 BA BR hje hpos
          go_wp2_with fail
          have nB1 : G ≠ w.heap.size := by omega
          have nB2 : G ≠ bi := by omega
          go_region_law (first | (refine Vr.step_push rfl (.tmp 61) (.tmp 70) rfl (.slice ai2 j c2) (by simp [Act.eval]) (HR3.out.alloc hgB HQB.out _) w3.heap.size k3 x3 b3 s3 ai3 n3 c3 ak3 m3 d3 (by simp [Act.eval]) (Vm.Has.new w3 _ _ rfl) (HLC3.out _) HN1.out (by have := HL3.out.size; simp; omega) ?_; intro v' w4 R4 hb4; obtain ⟨a4, d4, rfl, _, _⟩ := R4.form; have B4 : Vm.Box w4 (G) _ _ _ _ _ _ := ⟨(hb4.block (G) hgB).trans (HB3.out.alloc HB3.out.lt _).all⟩; have cc4 := B4.cells.2.2.2.2.1; have f4 := B4.frozen 4; have HB4 := Lib.hid B4; have HR4 := Lib.hid R4; have HL4 := Lib.hid hb4; clear B4 R4 hb4) | (rw [if_pos (by simp [Region.wanted])]; go_simp; go_at_call 14; refine (HI.out j HMJ.out E _ _ HE40.out HLI.out).mono ?_; rintro r w3 ⟨v', rfl, hl3, hb'⟩; obtain ⟨k3, x3, b3, s3, ai3, n3, c3, ak3, m3, d3, rfl⟩ := hl3.form; replace hb' := Vs.back hb'; have B3 := HB.out.on HB.out.lt hb'; have R3 := HRow.out.then hgB HQB.out hb'; have L3 := HL.out.on hb'; have c3z := B3.cells.2.2.2.2.1; have c3a := fun o => (B3.alloc B3.lt o).cells.2.2.2.2.1; have HLC3 : Hid (∀ o, (if e = 0 then Vt.nil else Js.readT (e - 1) (it j)).Lies (w3.alloc o) (fun q => wc.heap.size ≤ q ∧ q < (w3.alloc o).heap.size ∧ (Value.slice ai2 j c2).ownBlock ≠ some q) (.agg #[.int .i64 k3, .int .i64 x3, .int .u64 (b3 : Int), .string s3, .slice ai3 n3 c3, .slice ak3 m3 d3])) := (fun o => by rw [if_neg HN0.out, ← HE1.out]; exact hl3.on fun q hq => ⟨⟨Nat.le_trans HL.out.size hq.1, by simp; omega, HRow.out.ne' hq.1⟩, Below.heap_alloc _ _ _ hq.2⟩); have HB3 := Lib.hid B3; have HR3 := Lib.hid R3; have HL3 := Lib.hid L3; clear B3 R3 L3 hb' hl3))
          all_goals go_wp2
          all_goals refine ⟨⟨j + 1, ⟨hlt, fun h0 => absurd h0 HN0.out⟩, by go_num, ((HL3.out.alloc _).low HL4.out).set 4 _, _, _, HB4.out.set4 _, HR4.out.set hgB HQB.out 4 _⟩, ?_⟩
          all_goals simp [intOf]
          all_goals omega
        · have hj : j = (if e = 0 then 0 else n) := by
            split
            · next h0 => exact hje h0
            · omega
          have hLies : (Js.readT e (.mk k x b s n it m ks)).Lies wr (fun q => (w.heap.size ≤ q ∧ q < wr.heap.size) ∧ q ≠ w.heap.size + 1) (.agg #[.int .i64 k, .int .i64 x, .int .u64 0, .string N, .slice ai2 j c2, .slice a1 m d1]) := by
            rw [HRT.out, ← hj]
            exact hRow.lies (fun q h1 h2 => ⟨⟨by omega, h2⟩, by omega⟩) (fun q h1 h2 => ⟨⟨by omega, h2⟩, by omega⟩) k x 0 N (by decide) m ks a1 d1 (HKW.out.on fun q hq => ⟨⟨⟨by omega, by have := hL.size; omega⟩, by omega⟩, hL.block q (by omega) (by omega)⟩)
          obtain ⟨z0, z1, z2, z3, z4, z5⟩ := hB.cells
          obtain ⟨r0, r1, r2, r3, r4, r5⟩ := BR.cells
          have f0 := BR.frozen
          have HR := Lib.hid BR
          have HLI := Lib.hid hLies
          have hjl' : ¬ j < n ∨ ¬ 0 < e := by omega
          clear hLies hRow hB BR BA hL hj hgo hje
          by_cases hjl : j < n
          · have dj : decide ((j : Int) < (n : Int)) = true := decide_eq_true (by omega)
            have de : decide ((0 : Int) < (e : Int)) = false := decide_eq_false (by omega)
            go_wp2
            have WR := Vm.set6 wr (w.heap.size + 1) 0 (.int .i64 k) (.int .i64 x) (.int .u64 0) (.string N) (.slice ai2 j c2) (.slice a1 m d1)
            have BX : Vm.Box _ (w.heap.size + 1) (.int .i64 k) (.int .i64 x) (.int .u64 0) (.string N) (.slice ai2 j c2) (.slice a1 m d1) := ⟨Vm.set6_row HR.out.all 0 (.int .i64 k) (.int .i64 x) (.int .u64 0) (.string N) (.slice ai2 j c2) (.slice a1 m d1)⟩
            simp only [Nat.zero_add] at WR BX
            generalize ((((((wr.setCell ⟨w.heap.size + 1, 0, none⟩ (.int .i64 k)).setCell ⟨w.heap.size + 1, 1, none⟩ (.int .i64 x)).setCell ⟨w.heap.size + 1, 2, none⟩ (.int .u64 0)).setCell ⟨w.heap.size + 1, 3, none⟩ (.string N)).setCell ⟨w.heap.size + 1, 4, none⟩ (.slice ai2 j c2)).setCell ⟨w.heap.size + 1, 5, none⟩ (.slice a1 m d1)) = WF at *
            obtain ⟨q0, q1, q2, q3, q4, q5⟩ := BX.cells
            refine bodyPost_ret (v := .agg #[.int .i64 k, .int .i64 x, .int .u64 0, .string N, .slice ai2 j c2, .slice a1 m d1]) (by simp [results, Tryz.results14, go_sem, q0, q1, q2, q3, q4, q5]) rfl ?_
            exact ⟨_, rfl, HLI.out.on fun q hq => ⟨⟨hq.1.1, by rw [WR.size]; exact hq.1.2⟩, WR.block q hq.2⟩, WR.below hbr (by omega)⟩
          · have dj : decide ((j : Int) < (n : Int)) = false := decide_eq_false (by omega)
            go_wp2
            have WR := Vm.set6 wr (w.heap.size + 1) 0 (.int .i64 k) (.int .i64 x) (.int .u64 0) (.string N) (.slice ai2 j c2) (.slice a1 m d1)
            have BX : Vm.Box _ (w.heap.size + 1) (.int .i64 k) (.int .i64 x) (.int .u64 0) (.string N) (.slice ai2 j c2) (.slice a1 m d1) := ⟨Vm.set6_row HR.out.all 0 (.int .i64 k) (.int .i64 x) (.int .u64 0) (.string N) (.slice ai2 j c2) (.slice a1 m d1)⟩
            simp only [Nat.zero_add] at WR BX
            generalize ((((((wr.setCell ⟨w.heap.size + 1, 0, none⟩ (.int .i64 k)).setCell ⟨w.heap.size + 1, 1, none⟩ (.int .i64 x)).setCell ⟨w.heap.size + 1, 2, none⟩ (.int .u64 0)).setCell ⟨w.heap.size + 1, 3, none⟩ (.string N)).setCell ⟨w.heap.size + 1, 4, none⟩ (.slice ai2 j c2)).setCell ⟨w.heap.size + 1, 5, none⟩ (.slice a1 m d1)) = WF at *
            obtain ⟨q0, q1, q2, q3, q4, q5⟩ := BX.cells
            refine bodyPost_ret (v := .agg #[.int .i64 k, .int .i64 x, .int .u64 0, .string N, .slice ai2 j c2, .slice a1 m d1]) (by simp [results, Tryz.results14, go_sem, q0, q1, q2, q3, q4, q5]) rfl ?_
            exact ⟨_, rfl, HLI.out.on fun q hq => ⟨⟨hq.1.1, by rw [WR.size]; exact hq.1.2⟩, WR.block q hq.2⟩, WR.below hbr (by omega)⟩
theorem Jb.bounds {k x : Int} {b : Nat} {s : ByteArray} {n m : Nat} {ks : Nat → ByteArray} (h : Vt.formed k x b s n m ks = true) : s.size ≤ 65536 ∧ m ≤ 64 ∧ n ≤ 64 := by
  refine ⟨?_, ?_, ?_⟩
  · by_cases h4 : k = 4
    · subst h4
      simp [Vt.formed] at h
      exact h.1.1.1.1
    · rw [Jb.void (Js.empty_text h h4)]
      show 0 ≤ 65536
      omega
  all_goals
    unfold Vt.formed at h
    repeat' split at h
    all_goals first
      | (cases h; done)
      | (simp only [Bool.and_eq_true, decide_eq_true_eq] at h; omega)
theorem Jb.readF : ∀ (d : Nat) (t : Vt), Js.Ok d t → ∀ (e : Nat) (v : Value) (w : World), e ≤ 40 → t.Lies w (· < w.heap.size) v →
    Calls Tryz.prog 14 #[v, .int .i64 (e : Int)] w fun r w' => ∃ v', r = .returned v' ∧ (Js.readT e t).Lies w' (fun q => w.heap.size ≤ q ∧ q < w'.heap.size) v' ∧ Below w.heap.size w w'
  | 0, _, h => h.elim
  | _ + 1, .nil, h => h.elim
  | d + 1, .mk k x b s n it m ks, hok => fun e v w he h => by
    obtain ⟨h1, h2, h3⟩ := Jb.bounds hok.1
    exact Jb.read1 d k x b s n it m ks hok e v w he h h1 h2 h3 (fun i hi => Jb.readF d (it i) (hok.2.2 i hi))
theorem Jb.read (d : Nat) (t : Vt) (hok : Js.Ok d t) (e : Nat) (v : Value) (w : World) (he : e ≤ 40) (h : t.Lies w (· < w.heap.size) v) :
    Calls Tryz.prog 14 #[v, .int .i64 (e : Int)] w fun r w' => ∃ v', r = .returned v' ∧ (Js.readT e t).Lies w' (· < w'.heap.size) v' ∧ Below w.heap.size w w' :=
  (Jb.readF d t hok e v w he h).mono fun _ _ ⟨v', h1, h2, h3⟩ => ⟨v', h1, h2.on fun _ hk => ⟨hk.2, rfl⟩, h3⟩
end Go.Proofs.YtboalkfagfgnpaaGreatDoor
